/-
  The landed package sorted: New, Copy, Put, Cut.
-/
import Derived.Test.YtahejbahnhohcaaDoorMb
namespace Go.Proofs.YtahejbahnhohcaaDoor
open Go.RowKit Go.Sort
set_option linter.unusedVariables false
set_option linter.unusedSimpArgs false

/-- A map of the things D, in memory of the call's own. -/
def BGaveMap (w : World) (D : List BKV) (e : Ending) (w' : World) : Prop := ∃ F p, e = .returned (.pointer (some ⟨p, 0, none⟩)) ∧ BMapAt w' F p D ∧ More w w' ∧ ∀ k, F k → w.heap.size ≤ k
/-- The map at p holds D now; only its own blocks have turned. -/
def BDidMap (w : World) (F : Nat → Prop) (p : Nat) (D : List BKV) (v : Value) (e : Ending) (w' : World) : Prop :=
  e = .returned v ∧ ∃ F', BMapAt w' F' p D ∧ Turned F w w' ∧ ∀ k, F' k → F k ∨ w.heap.size ≤ k

theorem BDidMap.low {w w1 w' : World} {F : Nat → Prop} {p : Nat} {D : List BKV} {v : Value} {e : Ending} (m : More w w1) (h : BDidMap w1 F p D v e w') : BDidMap w F p D v e w' := by
  obtain ⟨h1, F', h2, h3, h4⟩ := h
  exact ⟨h1, F', h2, (Turned.mono m (fun _ _ q => q.elim)).trans h3, fun k hk => (h4 k hk).imp id (fun q => Nat.le_trans m.size q)⟩

set_option maxHeartbeats 1000000 in
theorem b_new_ok (w : World) : Calls Tryd.prog 20 #[] w (BGaveMap w []) := by
  have hh := heap_new w (.cells #[.slice none 0 0, .slice none 0 0] 84)
  have fin : BGaveMap w [] (.returned (.pointer (some ⟨w.heap.size, 0, none⟩))) (w.alloc (.cells #[.slice none 0 0, .slice none 0 0] 84)) := by
    refine ⟨fun k => k = w.heap.size, w.heap.size, rfl, ⟨b_asc_nil, by simp, fun k hk => by subst hk; simp, none, 0, none, 0, hh, RowAt.nil _ _, RowB.nil _ _, rfl, (fun k hk => by cases hk), (fun k hk => by cases hk)⟩, (More.refl w).alloc _, fun k hk => by omega⟩
  go_enter Tryd.func20, Tryd.ntmps20
  go_wp2_with fail
  go_ret
  exact fin
theorem b_ins_keys {w : World} {g : Nat} (hg : g = w.heap.size) {D : List BKV} (hs : D.length ≤ 100000) {i : Nat} (hi : i ≤ D.length) (k : Int) {a : Option Addr} {cap : Nat} (h : RowAt w 3 (b_keyCells D) a cap) :
    Calls Tryd.prog 71 #[.slice a D.length cap, .int .i64 i, .slice (some ⟨g, 0, none⟩) 1 1] (w.alloc (.cells #[.int .i64 k] 3))
      fun e w' => ∃ a' cap', e = .returned (.slice a' (D.length + 1) cap') ∧ Moved w w' 3 ((b_keyCells D).take i ++ .int .i64 k :: (b_keyCells D).drop i) a a' cap' := by
  subst hg
  have := ins_int (b_keysOf D) i (by rw [b_keysOf_len]; exact hi) (by rw [b_keysOf_len]; omega) k a cap w h
  rw [b_keysOf_len] at this
  exact this
theorem b_ins_vals {w : World} {g : Nat} (hg : g = w.heap.size) {D : List BKV} (hs : D.length ≤ 100000) {i : Nat} (hi : i ≤ D.length) (v : Int × Int) {a : Option Addr} {cap : Nat} (h : RowB w 65 D.length (b_valCells D) a cap) :
    Calls Tryd.prog 72 #[.slice a D.length cap, .int .i64 i, .slice (some ⟨g, 0, none⟩) 1 1] (w.alloc (.cells #[.int .i64 v.1, .int .i64 v.2] 65))
      fun e w' => ∃ a' cap', e = .returned (.slice a' (D.length + 1) cap') ∧ MovedB w w' 65 (D.length + 1) ((b_valCells D).take (i * 2) ++ two v.1 v.2 ++ (b_valCells D).drop (i * 2)) a a' cap' := by
  subst hg
  exact ins_mb D.length (b_valCells D) i hi (by omega) v.1 v.2 a cap w h (b_valCells_one D)
theorem b_valCells_app (A B : List BKV) : b_valCells (A ++ B) = b_valCells A ++ b_valCells B := by simp [b_valCells, b_valsOf]
theorem b_valCells_cons (p : BKV) (B : List BKV) : b_valCells (p :: B) = two p.2.1 p.2.2 ++ b_valCells B := by simp [b_valCells, b_valsOf]
theorem b_cells_mid (A B : List BKV) (k : Int) (v : Int × Int) : b_keyCells (A ++ (k, v) :: B) = (b_keyCells (A ++ B)).take A.length ++ .int .i64 k :: (b_keyCells (A ++ B)).drop A.length ∧ b_valCells (A ++ (k, v) :: B) = (b_valCells (A ++ B)).take (A.length * 2) ++ two v.1 v.2 ++ (b_valCells (A ++ B)).drop (A.length * 2) := by
  constructor
  · simp [b_keyCells, b_keysOf, List.take_append, List.drop_append]
  · rw [b_valCells_app, b_valCells_app, b_valCells_cons, ← b_valCells_len A, take_len _ _ rfl, List.drop_left', List.append_assoc]
    rfl

/-- Behind both inserts, or both cuts: the map stands again. -/
theorem b_map_again {w w2 w4 : World} {F : Nat → Prop} {p : Nat} {D D' : List BKV} {ka va ka' va' : Option Addr} {kc vc kc' vc' : Nat} {ks vs : List Value} {n' : Nat} (h : BMapAt w F p D)
    (hp : w.heap[p]? = some (.cells #[.slice ka D.length kc, .slice va D.length vc] 84 (0, 0))) (hv : RowB w 65 D.length (b_valCells D) va vc) (hk0 : RowAt w 3 (b_keyCells D) ka kc) (fp : F p) (fk : ∀ k, owned ka k → F k ∧ k ≠ p) (fv : ∀ k, owned va k → F k ∧ k ≠ p ∧ ¬ owned ka k)
    (m1 : Moved w w2 3 ks ka ka' kc') (m2 : MovedB (w2.setCell ⟨p, 0, none⟩ (.slice ka' n' kc')) w4 65 n' vs va va' vc')
    (ha : BAsc D') (hs : D'.length ≤ 100000) (e1 : ks = b_keyCells D') (e2 : vs = b_valCells D') (e3 : n' = D'.length) :
    ∃ F', BMapAt (w4.setCell ⟨p, 1, none⟩ (.slice va' n' vc')) F' p D' ∧ Turned F w (w4.setCell ⟨p, 1, none⟩ (.slice va' n' vc')) ∧ ∀ k, F' k → F k ∨ w.heap.size ≤ k := by
  subst e1 e2 e3
  have hpw := lt_of_heap hp
  have hp2 : w2.heap[p]? = _ := (Turned.block m1.turn p hpw (fun q => (fk p q).2 rfl)).trans hp
  have hp3 := heap_setCell (o := 0) (.slice ka' D'.length kc') hp2
  have hp4 : w4.heap[p]? = _ := (Turned.block m2.turn p (lt_of_heap hp3) (fun q => (fv p q).2.1 rfl)).trans hp3
  have hp5 := heap_setCell (o := 1) (.slice va' D'.length vc') hp4
  have t1 : Turned F w w2 := m1.turn.mono fun k _ q => (fk k q).1
  have t2 : Turned F w (w2.setCell ⟨p, 0, none⟩ (.slice ka' D'.length kc')) := turned_setCell t1 (fun _ => fp) _
  have t3 : Turned F w w4 := t2.trans (m2.turn.mono fun k _ q => (fv k q).1)
  have t4 : Turned F w (w4.setCell ⟨p, 1, none⟩ (.slice va' D'.length vc')) := turned_setCell t3 (fun _ => fp) _
  have hs23 : (w2.setCell ⟨p, 0, none⟩ (.slice ka' D'.length kc')).heap.size = w2.heap.size := by simp
  have hs45 : (w4.setCell ⟨p, 1, none⟩ (.slice va' D'.length vc')).heap.size = w4.heap.size := by simp
  have s12 := m1.turn.size
  have s24 : w2.heap.size ≤ w4.heap.size := by have := m2.turn.size; omega
  have hva := hv.lt
  -- where the new rows are
  have fk' : ∀ k, owned ka' k → (owned ka k ∨ w.heap.size ≤ k) ∧ k < w2.heap.size := fun k q => ⟨m1.from' k q, m1.row.lt k q⟩
  have fv' : ∀ k, owned va' k → (owned va k ∨ w2.heap.size ≤ k) ∧ k < w4.heap.size := fun k q => ⟨by have := m2.from' k q; rwa [hs23] at this, m2.row.lt k q⟩
  have kp : ∀ k, owned ka' k → k ≠ p := fun k q e => by
    subst e
    rcases (fk' k q).1 with q | q
    · exact (fk k q).2 rfl
    · omega
  have vp : ∀ k, owned va' k → k ≠ p := fun k q e => by
    subst e
    rcases (fv' k q).1 with q | q
    · exact (fv k q).2.1 rfl
    · omega
  have kv : ∀ k, owned ka' k → ¬ owned va k := fun k q r => by
    rcases (fk' k q).1 with q | q
    · exact (fv k r).2.2 q
    · have := hva k r; omega
  have vk : ∀ k, owned va' k → ¬ owned ka' k := fun k q r => by
    rcases (fv' k q).1 with q | q
    · exact kv k r q
    · have := (fk' k r).2; omega
  refine ⟨fun k => (F k ∨ w.heap.size ≤ k) ∧ k < w4.heap.size, ⟨ha, hs, fun k hk => by rw [hs45]; exact hk.2, ka', kc', va', vc', ?_, ?_, ?_, ⟨.inl fp, by omega⟩, ?_, ?_⟩, t4, fun k hk => hk.1⟩
  · rw [hp5]; simp
  · have r3 : RowAt (w2.setCell ⟨p, 0, none⟩ (.slice ka' D'.length kc')) 3 (b_keyCells D') ka' kc' := m1.row.keep (turned_setCell (S := fun k => k = p) (Turned.refl _ w2) (fun _ => rfl) _) kp
    have r4 : RowAt w4 3 (b_keyCells D') ka' kc' := r3.keep m2.turn kv
    exact r4.keep (turned_setCell (S := fun k => k = p) (Turned.refl _ w4) (fun _ => rfl) _) kp
  · exact m2.row.keep (turned_setCell (S := fun k => k = p) (Turned.refl _ w4) (fun _ => rfl) _) vp
  · intro k q
    refine ⟨⟨?_, by have := (fk' k q).2; omega⟩, kp k q⟩
    rcases (fk' k q).1 with q | q
    · exact .inl (fk k q).1
    · exact .inr q
  · intro k q
    refine ⟨⟨?_, (fv' k q).2⟩, vp k q, vk k q⟩
    rcases (fv' k q).1 with q | q
    · exact .inl (fv k q).1
    · exact .inr (by omega)

set_option maxHeartbeats 1000000 in
set_option maxRecDepth 100000 in
theorem b_put_new (F : Nat → Prop) (p : Nat) (D : List BKV) (k : Int) (v1 v2 : Int) (w : World) (h00 : BMapAt w F p D) (hs : D.length < 100000) (hk : b_look D k = none) :
    Calls Tryd.prog 57 #[.pointer (some ⟨p, 0, none⟩), .int .i64 k, .agg #[.int .i64 v1, .int .i64 v2]] w (BDidMap w F p (b_putD D k (v1, v2)) (.bool true)) := by
  obtain ⟨w0, e0, hb0, m0, s0⟩ := entry1 w (.cells #[.int .i64 v1, .int .i64 v2] 65)
  have h0 := h00.more m0
  have nb : ¬ F w.heap.size := fun q => by have := h00.lt _ q; omega
  obtain ⟨ka, kc, va, vc, hp0, hk0, hv0, fp, fk, fv⟩ := h0.ex
  have C0 := b_search_map h0.asc h0.small k hk0
  rw [hk] at C0
  obtain ⟨A, B, hD, hl, ha, hb⟩ := h0.asc.without hk
  have hi : A.length ≤ D.length := by rw [hD]; simp
  have FIN0 : ∀ q w2 w3 w4 ka' kc' va' vc' ks vs, Moved (w0.drewN q) w2 3 ks ka ka' kc' → w2.setCell ⟨p, 0, none⟩ (.slice ka' (D.length + 1) kc') = w3 → MovedB w3.drew w4 65 (D.length + 1) vs va va' vc' →
      ks = (b_keyCells D).take A.length ++ .int .i64 k :: (b_keyCells D).drop A.length → vs = (b_valCells D).take (A.length * 2) ++ two v1 v2 ++ (b_valCells D).drop (A.length * 2) →
      BDidMap w F p (b_putD D k (v1, v2)) (.bool true) (.returned (.bool true)) (w4.setCell ⟨p, 1, none⟩ (.slice va' (D.length + 1) vc')) := by
    intro q w2 w3 w4 ka' kc' va' vc' ks vs m1 e3 m2 e1 e2
    have hq := more_drewN w0 q
    subst e3
    have m2 := MovedB.low m2 ((More.refl _).drewN 1) (fun k q => by have := hv0.lt k q; have := m1.turn.size; simp; exact Nat.lt_of_lt_of_le (hv0.lt k q) m1.turn.size)
    have hlen : (b_putD D k (v1, v2)).length = D.length + 1 := by rw [b_len_putD h0.asc, hk]; rfl
    have hD' : b_putD D k (v1, v2) = A ++ (k, (v1, v2)) :: B := by rw [hD, b_putD_new ha hb]
    obtain ⟨F', hm, ht, hf⟩ := b_map_again (D' := b_putD D k (v1, v2)) (h0.more hq) hp0 (hv0.keep hq (fun _ _ q => q)) (hk0.keep hq (fun _ _ q => q)) fp fk fv m1 m2 (b_asc_putD h0.asc k (v1, v2)) (by omega)
      (by rw [e1, hD', (b_cells_mid A B k (v1, v2)).1, hD]) (by rw [e2, hD', (b_cells_mid A B k (v1, v2)).2, hD]) hlen.symm
    exact BDidMap.low m0 ⟨rfl, F', hm, (Turned.mono hq (fun _ _ q => q.elim)).trans ht, hf⟩
  have FIN := Lib.hid FIN0
  have FK := Lib.hid fk
  have FV := Lib.hid fv
  have HD := h0.small
  rw [← hl] at C0
  have C := Lib.hid C0
  obtain ⟨c0, c1, f0, hlt⟩ := cell_of hp0
  have HP := Lib.hid hp0
  have HK := Lib.hid hk0
  have HV := Lib.hid hv0
  have HB0 := Lib.hid hb0
  have NB := Lib.hid nb
  have FP := Lib.hid fp
  clear FIN0 C0 hp0 fk fv hD hl ha hb h0 h00 hs hk hk0 hv0 fp B hb0 nb
  go_enter Tryd.func57, Tryd.ntmps57
  go_wp2_with fail
  refine C.out.mono ?_
  rintro e w1 ⟨rfl, q, rfl⟩
  have hq := more_drewN w0 q
  go_wp2_with fail
  refine (b_ins_keys (w := w0.drewN q) (by show w.heap.size + 1 = w0.heap.size; omega) HD hi k (HK.out.keep hq (fun _ _ q => q))).mono ?_
  rintro e w2 ⟨ka', kc', rfl, m1⟩
  have hp2 : w2.heap[p]? = _ := (Turned.block m1.turn p (lt_of_heap HP.out) (fun q => (FK.out p q).2 rfl)).trans HP.out
  obtain ⟨d0, d1, g0, hlt2⟩ := cell_of hp2
  have hp3 := heap_setCell (o := 0) (.slice ka' (D.length + 1) kc') hp2
  obtain ⟨x0, x1, z0, hlt3⟩ := cell_of (by simpa using hp3)
  have hv3  : RowB (w2.setCell ⟨p, 0, none⟩ (.slice ka' (D.length + 1) kc')) 65 D.length (b_valCells D) va vc :=
    ((HV.out.keep hq (fun _ _ q => q)).keep m1.turn (fun k q => (FV.out k q).2.2)).keep (turned_setCell (S := fun k => k = p) (Turned.refl _ w2) (fun _ => rfl) _) (fun k q => (FV.out k q).2.1)
  have hbx : (w2.setCell ⟨p, 0, none⟩ (.slice ka' (D.length + 1) kc')).heap[w.heap.size]? = some (.cells #[.int .i64 v1, .int .i64 v2] 65 (0, 0)) := by
    rw [Turned.block (turned_setCell (S := fun k => k = p) (Turned.refl _ w2) (fun _ => rfl) _) _ (by have := lt_of_heap HB0.out; exact Nat.lt_of_lt_of_le this m1.turn.size) (fun q => NB.out (by rw [q]; exact FP.out)), Turned.block m1.turn _ (lt_of_heap HB0.out) (fun q => NB.out (FK.out _ q).1)]
    exact HB0.out
  have hp3' := Lib.hid hp3
  have HV3 := Lib.hid hv3
  have HBX := Lib.hid hbx
  have M1 := Lib.hid m1
  clear hp2 hp3 hv3 m1 hbx
  go_wp2_with fail
  have mixed : Tryd.prog.follows .mixedOrders = true := by kernel_rfl
  have bx0 := cell_more HBX.out (More.refl _) (j := 0) (v := .int .i64 v1) rfl
  have bx1 := cell_more HBX.out (More.refl _) (j := 1) (v := .int .i64 v2) rfl
  generalize E3 : w2.setCell ⟨p, 0, none⟩ (.slice ka' (D.length + 1) kc') = w3 at HV3 HBX x0 x1 z0 hlt3 bx0 bx1 hp3' ⊢
  have s32 : w2.heap.size = w3.heap.size := by rw [← E3]; simp
  have HP3 : Hid (w3.drew.heap[p]? = _) := Lib.hid hp3'.out
  go_region_with (go_at_call 72; refine (b_ins_vals (w := w3.drew) (by show _ = w3.heap.size; omega) HD hi (v1, v2) (HV3.out.keep ((More.refl _).drewN 1) (fun _ _ q => q))).mono ?_; rintro e w4 ⟨va', vc', rfl, m2⟩; have hp4 : w4.heap[p]? = _ := (Turned.block m2.turn p (lt_of_heap HP3.out) (fun q => (FV.out p q).2.1 rfl)).trans HP3.out; obtain ⟨y0, y1, k0, hlt4⟩ := cell_of (by simpa using hp4); have M2 := Lib.hid m2; clear m2 hp4)
  all_goals go_wp2_with fail
  all_goals go_ret
  all_goals exact FIN.out _ _ _ _ _ _ _ _ _ _ M1.out E3 M2.out rfl rfl

set_option maxHeartbeats 1000000 in
set_option maxRecDepth 100000 in
theorem b_put_old (F : Nat → Prop) (p : Nat) (D : List BKV) (k : Int) (v1 v2 : Int) (u : Int × Int) (w : World) (h00 : BMapAt w F p D) (hk : b_look D k = some u) :
    Calls Tryd.prog 57 #[.pointer (some ⟨p, 0, none⟩), .int .i64 k, .agg #[.int .i64 v1, .int .i64 v2]] w (BDidMap w F p (b_putD D k (v1, v2)) (.bool false)) := by
  obtain ⟨w0, e0, hb0, m0, s0⟩ := entry1 w (.cells #[.int .i64 v1, .int .i64 v2] 65)
  have h0 := h00.more m0
  obtain ⟨ka, kc, va, vc, hp0, hk0, hv0, fp, fk, fv⟩ := h0.ex
  have C0 := b_search_map h0.asc h0.small k hk0
  rw [hk] at C0
  obtain ⟨A, B, hD, hl, ha, hb⟩ := h0.asc.with hk
  have hi : A.length < D.length := by rw [hD]; simp
  have hat : D[A.length]? = some (k, u) := by rw [hD]; simp
  obtain ⟨g, cur, rfl, hg, hnc, hcur⟩ := hv0.block (by omega)
  have gu0 : w0.cell? ⟨g, A.length * 2, none⟩ = some (.int .i64 u.1) := cell_more hg (More.refl _) (hcur _ _ (b_valCells_get hat).1)
  have gu1 : w0.cell? ⟨g, A.length * 2 + 1, none⟩ = some (.int .i64 u.2) := cell_more hg (More.refl _) (hcur _ _ (b_valCells_get hat).2)
  have gf : ∀ j, w0.frozen? ⟨g, j, none⟩ = false := fun j => by simp [World.frozen?, hg]
  have bx0 := cell_more hb0 (More.refl _) (j := 0) (v := .int .i64 v1) rfl
  have bx1 := cell_more hb0 (More.refl _) (j := 1) (v := .int .i64 v2) rfl
  have FIN0 : ∀ q, BDidMap w F p (b_putD D k (v1, v2)) (.bool false) (.returned (.bool false)) (((w0.drewN q).setCell ⟨g, A.length * 2, none⟩ (.int .i64 v1)).setCell ⟨g, A.length * 2 + 1, none⟩ (.int .i64 v2)) := by
    intro q
    have hq := more_drewN w0 q
    have hlen : (b_putD D k (v1, v2)).length = D.length := by rw [b_len_putD h0.asc, hk]; rfl
    have hD' : b_putD D k (v1, v2) = A ++ (k, (v1, v2)) :: B := by rw [hD, b_putD_old ha hb]
    have hgp := (fv g rfl).2.1
    have hh : (((w0.drewN q).setCell ⟨g, A.length * 2, none⟩ (.int .i64 v1)).setCell ⟨g, A.length * 2 + 1, none⟩ (.int .i64 v2)).heap.size = w0.heap.size := by simp
    have tg : Turned (fun k => k = g) w0 (((w0.drewN q).setCell ⟨g, A.length * 2, none⟩ (.int .i64 v1)).setCell ⟨g, A.length * 2 + 1, none⟩ (.int .i64 v2)) := turned_setCell (S := fun k => k = g) (turned_setCell (S := fun k => k = g) ((Turned.refl _ w0).drewN q) (fun _ => rfl) _) (fun _ => rfl) _
    refine BDidMap.low m0 ⟨rfl, F, ⟨b_asc_putD h0.asc k (v1, v2), by rw [hlen]; exact h0.small, fun k hk => by rw [hh]; exact h0.lt k hk, ka, kc, _, vc, ?_, ?_, ?_, fp, fk, fv⟩, tg.mono fun k _ e => by subst e; exact (fv k rfl).1, fun k hk => .inl hk⟩
    · rw [hlen, Turned.block tg p (lt_of_heap hp0) (fun e => hgp e.symm)]; exact hp0
    · have : b_keyCells (b_putD D k (v1, v2)) = b_keyCells D := by rw [hD', hD]; simp [b_keyCells, b_keysOf]
      rw [this]
      exact hk0.keep tg fun x hx e => (fv g rfl).2.2 (e ▸ hx)
    · have : b_valCells (b_putD D k (v1, v2)) = (b_valCells D).take (A.length * 2) ++ two v1 v2 ++ (b_valCells D).drop ((A.length + 1) * 2) := by
        rw [hD', hD, b_valCells_app, b_valCells_app, b_valCells_cons, b_valCells_cons, ← b_valCells_len A, take_len _ _ rfl, List.append_assoc]
        congr 1
        rw [show (A.length + 1) * 2 = A.length * 2 + 2 by omega, ← b_valCells_len A, drop_len _ _ rfl]
        rfl
      rw [this, hlen]
      exact rowB_set (two v1 v2) rfl (hv0.keep hq (fun _ _ q => q)) hi
  have FIN := Lib.hid FIN0
  rw [← hl] at C0
  have C := Lib.hid C0
  have HD := h0.small
  have mixed : Tryd.prog.follows .mixedOrders = true := by kernel_rfl
  obtain ⟨c0, c1, f0, hlt⟩ := cell_of hp0
  clear FIN0 C0 hp0 fk fv hD hl ha hb h0 h00 hk hk0 hv0 fp B hcur hat hg hb0 m0 s0
  generalize A.length = i at *
  generalize D.length = n at *
  go_enter Tryd.func57, Tryd.ntmps57
  go_wp2_with fail
  refine C.out.mono ?_
  rintro e w1 ⟨rfl, q, rfl⟩
  go_wp2_with fail
  go_region
  go_wp2_with fail
  go_ret
  exact FIN.out (q + 1)

theorem b_del_keys {w : World} {D : List BKV} (hs : D.length ≤ 100000) {i : Nat} (hi : i < D.length) {a : Option Addr} {cap : Nat} (h : RowAt w 3 (b_keyCells D) a cap) :
    Calls Tryd.prog 67 #[.slice a D.length cap, .int .i64 i, .int .i64 ((i : Int) + 1)] w
      fun e w' => ∃ a' cap', e = .returned (.slice a' (D.length - 1) cap') ∧ Moved w w' 3 ((b_keyCells D).take i ++ (b_keyCells D).drop (i + 1)) a a' cap' := by
  have := del_int (b_keysOf D) i (by rw [b_keysOf_len]; exact hi) (by rw [b_keysOf_len]; omega) a cap w h
  rw [b_keysOf_len] at this
  exact this
theorem b_del_vals {w : World} {D : List BKV} {i : Nat} (hi : i < D.length) {a : Option Addr} {cap : Nat} (h : RowB w 65 D.length (b_valCells D) a cap) :
    Calls Tryd.prog 68 #[.slice a D.length cap, .int .i64 i, .int .i64 ((i : Int) + 1)] w
      fun e w' => ∃ a' cap', e = .returned (.slice a' (D.length - 1) cap') ∧ MovedB w w' 65 (D.length - 1) ((b_valCells D).take (i * 2) ++ (b_valCells D).drop ((i + 1) * 2)) a a' cap' :=
  del_mb D.length (b_valCells D) i hi a cap w h (b_valCells_one D)
theorem b_cells_cut (A B : List BKV) (k : Int) (v : Int × Int) : b_keyCells (A ++ B) = (b_keyCells (A ++ (k, v) :: B)).take A.length ++ (b_keyCells (A ++ (k, v) :: B)).drop (A.length + 1) ∧ b_valCells (A ++ B) = (b_valCells (A ++ (k, v) :: B)).take (A.length * 2) ++ (b_valCells (A ++ (k, v) :: B)).drop ((A.length + 1) * 2) := by
  constructor
  · simp [b_keyCells, b_keysOf, List.take_append, List.drop_append]
  · rw [b_valCells_app, b_valCells_app, b_valCells_cons, show (A.length + 1) * 2 = A.length * 2 + 2 by omega, ← b_valCells_len A, take_len _ _ rfl, drop_len _ _ rfl]
    rfl

set_option maxHeartbeats 1000000 in
theorem b_cut_yes (F : Nat → Prop) (p : Nat) (D : List BKV) (k : Int) (u : Int × Int) (w : World) (h0 : BMapAt w F p D) (hk : b_look D k = some u) :
    Calls Tryd.prog 54 #[.pointer (some ⟨p, 0, none⟩), .int .i64 k] w (BDidMap w F p (b_cutD D k) (.bool true)) := by
  have C0 := b_find_ok F p D k w h0
  rw [hk] at C0
  obtain ⟨ka, kc, va, vc, hp0, hk0, hv0, fp, fk, fv⟩ := h0.ex
  obtain ⟨A, B, hD, hl, ha, hb⟩ := h0.asc.with hk
  have hi : A.length < D.length := by rw [hD]; simp
  have FIN0 : ∀ q w2 w4 ka' kc' va' vc' ks vs, Moved (w.drewN q) w2 3 ks ka ka' kc' → MovedB (w2.setCell ⟨p, 0, none⟩ (.slice ka' (D.length - 1) kc')) w4 65 (D.length - 1) vs va va' vc' →
      ks = (b_keyCells D).take A.length ++ (b_keyCells D).drop (A.length + 1) → vs = (b_valCells D).take (A.length * 2) ++ (b_valCells D).drop ((A.length + 1) * 2) →
      BDidMap w F p (b_cutD D k) (.bool true) (.returned (.bool true)) (w4.setCell ⟨p, 1, none⟩ (.slice va' (D.length - 1) vc')) := by
    intro q w2 w4 ka' kc' va' vc' ks vs m1 m2 e1 e2
    have hq := more_drewN w q
    have hD' : b_cutD D k = A ++ B := by rw [hD, b_cutD_old ha hb]
    have hlen : (b_cutD D k).length = D.length - 1 := by rw [hD', hD]; simp
    have hsm := h0.small
    obtain ⟨F', hm, ht, hf⟩ := b_map_again (D' := b_cutD D k) (h0.more hq) hp0 (hv0.keep hq (fun _ _ q => q)) (hk0.keep hq (fun _ _ q => q)) fp fk fv m1 m2 (b_asc_cutD h0.asc k) (by omega)
      (by rw [e1, hD', (b_cells_cut A B k u).1, hD]) (by rw [e2, hD', (b_cells_cut A B k u).2, hD]) hlen.symm
    exact ⟨rfl, F', hm, (Turned.mono hq (fun _ _ q => q.elim)).trans ht, hf⟩
  have FIN := Lib.hid FIN0
  have FK := Lib.hid fk
  have FV := Lib.hid fv
  have HD := h0.small
  rw [← hl] at C0
  have C := Lib.hid C0
  obtain ⟨c0, c1, f0, hlt⟩ := cell_of hp0
  have HP := Lib.hid hp0
  have HK := Lib.hid hk0
  have HV := Lib.hid hv0
  clear C0 FIN0 hp0 fk fv hD hl ha hb h0 hk hk0 hv0 fp B
  go_enter Tryd.func54, Tryd.ntmps54
  go_wp2_with fail
  refine C.out.mono ?_
  rintro e w1 ⟨rfl, q, rfl⟩
  have hq := more_drewN w q
  go_wp2_with fail
  refine (b_del_keys HD hi (HK.out.keep hq (fun _ _ q => q))).mono ?_
  rintro e w2 ⟨ka', kc', rfl, m1⟩
  have hp2 : w2.heap[p]? = _ := (Turned.block m1.turn p (lt_of_heap HP.out) (fun q => (FK.out p q).2 rfl)).trans HP.out
  obtain ⟨d0, d1, g0, hlt2⟩ := cell_of hp2
  have hp3 := heap_setCell (o := 0) (.slice ka' (D.length - 1) kc') hp2
  obtain ⟨x0, x1, z0, hlt3⟩ := cell_of (by simpa using hp3)
  have hv3 : RowB (w2.setCell ⟨p, 0, none⟩ (.slice ka' (D.length - 1) kc')) 65 D.length (b_valCells D) va vc :=
    ((HV.out.keep hq (fun _ _ q => q)).keep m1.turn (fun k q => (FV.out k q).2.2)).keep (turned_setCell (S := fun k => k = p) (Turned.refl _ w2) (fun _ => rfl) _) (fun k q => (FV.out k q).2.1)
  have HV3 := Lib.hid hv3
  have M1 := Lib.hid m1
  clear hp2 hp3 hv3 m1
  go_wp2_with fail
  refine (b_del_vals (w := w2.setCell ⟨p, 0, none⟩ (.slice ka' (D.length - 1) kc')) hi HV3.out).mono ?_
  rintro e w4 ⟨va', vc', rfl, m2⟩
  have hp3 := heap_setCell (o := 0) (.slice ka' (D.length - 1) kc') ((Turned.block M1.out.turn p (lt_of_heap HP.out) (fun q => (FK.out p q).2 rfl)).trans HP.out)
  have hp4 : w4.heap[p]? = _ := (Turned.block m2.turn p (lt_of_heap hp3) (fun q => (FV.out p q).2.1 rfl)).trans hp3
  obtain ⟨y0, y1, k0, hlt4⟩ := cell_of (by simpa using hp4)
  have M2 := Lib.hid m2
  clear hp3 hp4 m2
  go_wp2_with fail
  go_ret
  exact FIN.out _ _ _ _ _ _ _ _ _ M1.out M2.out rfl rfl

set_option maxHeartbeats 1000000 in
theorem b_cut_none (F : Nat → Prop) (p : Nat) (D : List BKV) (k : Int) (w : World) (h0 : BMapAt w F p D) (hk : b_look D k = none) :
    Calls Tryd.prog 54 #[.pointer (some ⟨p, 0, none⟩), .int .i64 k] w (BDidMap w F p (b_cutD D k) (.bool false)) := by
  have C0 := b_find_ok F p D k w h0
  rw [hk] at C0
  have C := Lib.hid C0
  have FIN0 : ∀ q, BDidMap w F p (b_cutD D k) (.bool false) (.returned (.bool false)) (w.drewN q) := fun q => by
    rw [b_cutD_none hk]
    exact ⟨rfl, F, h0.more (more_drewN w q), (Turned.refl _ w).drewN q, fun k hk => .inl hk⟩
  have FIN := Lib.hid FIN0
  clear C0 FIN0 h0 hk
  go_enter Tryd.func54, Tryd.ntmps54
  go_wp2_with fail
  refine C.out.mono ?_
  rintro e w1 ⟨rfl, q, rfl⟩
  go_wp2_with fail
  go_ret
  exact FIN.out q

/-- Put. -/
theorem b_put_ok (F : Nat → Prop) (p : Nat) (D : List BKV) (k : Int) (v1 v2 : Int) (w : World) (h : BMapAt w F p D) (hs : D.length < 100000) :
    Calls Tryd.prog 57 #[.pointer (some ⟨p, 0, none⟩), .int .i64 k, .agg #[.int .i64 v1, .int .i64 v2]] w (BDidMap w F p (b_putD D k (v1, v2)) (.bool (b_look D k).isNone)) := by
  cases e : b_look D k with
  | none => exact b_put_new F p D k v1 v2 w h hs e
  | some u => exact b_put_old F p D k v1 v2 u w h e
/-- Cut. -/
theorem b_cut_ok (F : Nat → Prop) (p : Nat) (D : List BKV) (k : Int) (w : World) (h : BMapAt w F p D) :
    Calls Tryd.prog 54 #[.pointer (some ⟨p, 0, none⟩), .int .i64 k] w (BDidMap w F p (b_cutD D k) (.bool (b_look D k).isSome)) := by
  cases e : b_look D k with
  | none => exact b_cut_none F p D k w h e
  | some u => exact b_cut_yes F p D k u w h e
end Go.Proofs.YtahejbahnhohcaaDoor
