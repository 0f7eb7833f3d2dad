/-
  The landed model: a new block.
-/
import Derived.Test.YtahejbahnhohcaaDoorMdH
namespace Go.Proofs.YtahejbahnhohcaaDoor
open Go.RowKit Go.Sort
set_option linter.unusedVariables false
set_option linter.unusedSimpArgs false

/-- The parts of a model in memory. -/
structure MdP (w : World) (F : Nat → Prop) (p : Nat) (c : Cfg) (D : List BKV) (ws : List Int) (q g cap : Nat) (F1 : Nat → Prop) : Prop where
  md : MdB w p c q g ws.length cap
  mp : BMapAt w F1 q D
  row : RowAt w 3 (ws.map (Value.int .i64)) (some ⟨g, 0, none⟩) cap
  fp : F p
  fg : F g
  gp : g ≠ p
  f1 : ∀ k, F1 k → F k ∧ k ≠ p ∧ k ≠ g
theorem MdAt.parts {w : World} {F : Nat → Prop} {p : Nat} {c : Cfg} {D : List BKV} {ws : List Int} (h : MdAt w F p c D ws) : ∃ q g cap F1, MdP w F p c D ws q g cap F1 := by
  obtain ⟨q, g, cap, F1, h1, h2, h3, h4, h5, h6, h7⟩ := h.ex
  exact ⟨q, g, cap, F1, h1, h2, h3, h4, h5, h6, h7⟩
theorem MdP.more {w w' : World} {F : Nat → Prop} {p : Nat} {c : Cfg} {D : List BKV} {ws : List Int} {q g cap : Nat} {F1 : Nat → Prop} (h : MdP w F p c D ws q g cap F1) (m : More w w') : MdP w' F p c D ws q g cap F1 :=
  ⟨h.md.more m, h.mp.more m, h.row.keep m (fun _ _ q => q), h.fp, h.fg, h.gp, h.f1⟩
/-- The model at p holds this now; only its own blocks have turned. -/
def MdDid (w : World) (F : Nat → Prop) (p : Nat) (c : Cfg) (b : Bool) (D : List BKV) (ws : List Int) (e : Ending) (w' : World) : Prop :=
  e = .returned (.bool b) ∧ ∃ F', MdAt w' F' p c D ws ∧ Turned F w w' ∧ ∀ k, F' k → F k ∨ w.heap.size ≤ k
theorem MdDid.same {w w' : World} {F : Nat → Prop} {p : Nat} {c : Cfg} {b : Bool} {D : List BKV} {ws : List Int} (h : MdAt w F p c D ws) (m : More w w') : MdDid w F p c b D ws (.returned (.bool b)) w' :=
  ⟨rfl, F, h.more m, Turned.mono m (fun _ _ q => q.elim), fun k hk => .inl hk⟩
theorem MdDid.low {w w1 w' : World} {F : Nat → Prop} {p : Nat} {c : Cfg} {b : Bool} {D : List BKV} {ws : List Int} {e : Ending} (m : More w w1) (h : MdDid w1 F p c b D ws e w') : MdDid w F p c b D ws e w' := by
  obtain ⟨h1, F', h2, h3, h4⟩ := h
  exact ⟨h1, F', h2, (Turned.mono m (fun _ _ q => q.elim)).trans h3, fun k hk => (h4 k hk).imp id (fun q => Nat.le_trans m.size q)⟩
/-- Behind a change of the map alone. -/
theorem MdP.map {w w' : World} {F : Nat → Prop} {p : Nat} {c : Cfg} {D D' : List BKV} {ws : List Int} {q g cap : Nat} {F1 : Nat → Prop} (h : MdP w F p c D ws q g cap F1) (hF : ∀ k, F k → k < w.heap.size) {v : Value} {e : Ending} (d : BDidMap w F1 q D' v e w') :
    ∃ F' F1', MdP w' F' p c D' ws q g cap F1' ∧ Turned F w w' ∧ (∀ k, F' k → F k ∨ w.heap.size ≤ k) ∧ ∀ k, F' k → k < w'.heap.size := by
  obtain ⟨_, F1', h2, h3, h4⟩ := d
  have hp := lt_of_heap h.md
  have hg := h.row.lt g rfl
  refine ⟨fun k => (F k ∨ w.heap.size ≤ k) ∧ k < w'.heap.size, F1', ⟨?_, h2, ?_, ⟨.inl h.fp, Nat.lt_of_lt_of_le hp h3.size⟩, ⟨.inl h.fg, Nat.lt_of_lt_of_le hg h3.size⟩, h.gp, fun k hk => ⟨⟨?_, h2.lt k hk⟩, ?_, ?_⟩⟩, h3.mono (fun k _ q => (h.f1 k q).1), fun k hk => hk.1, fun k hk => hk.2⟩
  · show w'.heap[p]? = _
    rw [Turned.block h3 p hp (fun q => (h.f1 p q).2.1 rfl)]; exact h.md
  · exact h.row.keep h3 (fun k hk q => by cases hk; exact (h.f1 g q).2.2 rfl)
  · rcases h4 k hk with q | q
    · exact .inl (h.f1 k q).1
    · exact .inr q
  · rcases h4 k hk with q | q
    · exact (h.f1 k q).2.1
    · omega
  · rcases h4 k hk with q | q
    · exact (h.f1 k q).2.2
    · omega
/-- Words written into a row. -/
def putW (ws : List Int) (i : Nat) (vs : List Int) : List Int := ws.take i ++ vs ++ ws.drop (i + vs.length)
theorem putW_len {ws : List Int} {i : Nat} {vs : List Int} (h : i + vs.length ≤ ws.length) : (putW ws i vs).length = ws.length := by
  unfold putW; simp; omega
theorem row_put {w : World} {e : TypeId} {ws : List Int} {g cap i : Nat} (vs : List Int) (h : RowAt w e (ws.map (Value.int .i64)) (some ⟨g, 0, none⟩) cap) (hi : i + vs.length ≤ ws.length) : RowAt (w.setCells g i (vs.map (Value.int .i64))) e ((putW ws i vs).map (Value.int .i64)) (some ⟨g, 0, none⟩) cap := by
  rcases h with ⟨h, _⟩ | ⟨g', cur, h, hg, hn, hm, hs, ht⟩
  · cases h
  · cases h
    rw [setCells_eq]
    rw [List.length_map] at hn ht
    refine .inr ⟨g, _, rfl, heap_mapBlock _ hg, by rw [List.length_map, putW_len hi]; exact hn, hm, by rw [writes_size]; exact hs, ?_⟩
    rw [writes_toList _ _ _ (by simp; omega), List.length_map, List.length_map, putW_len hi]
    have h1 : cur.toList.take i = (ws.take i).map (Value.int .i64) := by rw [List.map_take, ← ht, List.take_take, show min i ws.length = i by omega]
    have h2 : (cur.toList.drop (i + vs.length)).take (ws.length - (i + vs.length)) = (ws.drop (i + vs.length)).map (Value.int .i64) := by rw [List.map_drop, ← ht, List.drop_take]
    rw [h1, List.take_append, List.take_of_length_le (by simp; omega)]
    have h3 : ws.length - ((ws.take i).map (Value.int .i64) ++ vs.map (Value.int .i64)).length = ws.length - (i + vs.length) := by simp; omega
    rw [h3, h2]
    simp [putW]
theorem turned_cells {S : Nat → Prop} {w w' : World} (h : Turned S w w') {g : Nat} (hg : g < w.heap.size → S g) (i : Nat) (vs : List Value) : Turned S w (w'.setCells g i vs) := by
  rw [setCells_eq]; exact turned_mapBlock h hg _
theorem MdP.put {w : World} {F : Nat → Prop} {p : Nat} {c : Cfg} {D : List BKV} {ws : List Int} {q g cap : Nat} {F1 : Nat → Prop} (h : MdP w F p c D ws q g cap F1) (i : Nat) (vs : List Int) (hi : i + vs.length ≤ ws.length) : MdP (w.setCells g i (vs.map (Value.int .i64))) F p c D (putW ws i vs) q g cap F1 := by
  have t : Turned (fun k => k = g) w (w.setCells g i (vs.map (Value.int .i64))) := turned_cells (S := fun k => k = g) (Turned.refl _ w) (fun _ => rfl) i _
  refine ⟨?_, h.mp.keep t (fun k hk e => (h.f1 k hk).2.2 e), row_put vs h.row hi, h.fp, h.fg, h.gp, h.f1⟩
  show _ = _
  rw [Turned.block t p (lt_of_heap h.md) (fun e => h.gp e.symm), putW_len hi]; exact h.md
theorem MdP.caps {w : World} {F : Nat → Prop} {p : Nat} {c : Cfg} {D : List BKV} {ws : List Int} {q g cap : Nat} {F1 : Nat → Prop} (h : MdP w F p c D ws q g cap F1) : ws.length ≤ cap ∧ cap ≤ maxLen := by
  rcases h.row with ⟨h, _⟩ | ⟨_, _, _, _, h1, h2, _⟩
  · cases h
  · exact ⟨by simpa using h1, h2⟩

/-- What fits. -/
theorem fitsM_yes {c : Cfg} {D : List BKV} {n al : Int} {r : RP} (h : fitsM c D n al r = true) : r = blkR r.ad (roundV n al) ∧ r.ad.tmod al = 0 ∧ openM c.us c.words D r.ad (roundV n al) = true := by
  unfold fitsM at h
  simp only [Bool.and_eq_true, beq_iff_eq] at h
  exact ⟨(eqR_iff _ _).1 h.1, h.2.1, h.2.2⟩
theorem openM_yes {us wd : Int} {D : List BKV} {a n : Int} (h : openM us wd D a n = true) : 1 ≤ n ∧ us ≤ a ∧ a + n ≤ wd := by
  unfold openM at h
  split at h
  · cases h
  · omega
/-- What a block is rounded to is no less than was asked for, where an arena has room for it. -/
theorem round_ge {n al : Int} (hb : badB n al = false) (hn : n ≤ 9223372036854775807) (h : 1 ≤ roundV n al) : n ≤ roundV n al ∧ 0 ≤ n := by
  have h0 : 0 ≤ n := by simp [badB] at hb; exact hb.1
  cases hs : smallB n al with
  | true => have := fit_small hb hs; omega
  | false =>
    have h1 := fit_big hb hs
    have h2 : fitP n al = pgsV (mx n 1) := by simp [fitP, hb, hs]
    have h3 : pgsV (mx n 1) * 32 ≤ 9223372036854775808 := by unfold pgsV mx; split <;> (try split) <;> omega
    have h4 : fitP n al * 32 ≠ 9223372036854775808 := by
      intro e
      have h5 := h1.2.2.2.2.2.2.1
      rw [e] at h5
      have h6 : IntKind.i64.wrap 9223372036854775808 = -9223372036854775808 := by decide
      omega
    have h5 := h1.2.2.2.2.2.2.1
    rw [wrap_in (by omega) (by omega)] at h5
    omega

/-- Behind a new block. -/
def bornM (c : Cfg) (D : List BKV) (ws : List Int) (kd n al : Int) (r : RP) : Bool × List BKV × List Int :=
  if fitsM c D n al r then (true, b_putD D r.ad (n, r.sz), if kd = 3 then putW ws (r.ad - c.us).toNat (List.replicate r.sz.toNat 0) else ws) else (false, D, ws)
set_option maxRecDepth 100000 in
theorem build_mb (x y : Int) (W : World) : (Instr.build 65 [(0, .int .i64 x), (1, .int .i64 y)].toArray).run Tryd.prog W = .ok (.agg #[.int .i64 x, .int .i64 y]) W := run_build W _ _ _ (by kernel_rfl)

set_option maxRecDepth 100000 in
set_option maxHeartbeats 4000000 in
theorem md_born {F : Nat → Prop} {p : Nat} {c : Cfg} {D : List BKV} {ws : List Int} (x : CL) (r : RP) (al : Int) (hn : x.sz ≤ 9223372036854775807) (hal : al ≠ 0) (hbad : badB x.sz al = false) (hra : r.ad ≤ 9223372036854775807) (w : World) (hs : Sizes w) (h : MdAt w F p c D ws) :
    Calls Tryd.prog 52 #[.pointer (some ⟨p, 0, none⟩), .agg x.arr, .agg r.arr, .int .i64 al] w (MdDid w F p c (bornM c D ws x.kd x.sz al r).1 (bornM c D ws x.kd x.sz al r).2.1 (bornM c D ws x.kd x.sz al r).2.2) := by
  obtain ⟨w2, e2, h0, h1, m2, s2⟩ := entry2 w (.cells x.arr 25) (.cells r.arr 30)
  have HX := Lib.hid h0
  have HR := Lib.hid h1
  have MM := Lib.hid m2
  have FI := Lib.hid (md_fits x.sz al r hn hal hra w2 (hs.more m2) (h.more m2))
  have HH := Lib.hid h
  have HBAD := Lib.hid hbad
  obtain ⟨c0, c1, c2, c3, c4⟩ := cl_cells x HX.out
  obtain ⟨r0, r1, r2, r3⟩ := rp_cells r HR.out
  clear hs h m2 h0 h1 hbad
  cases hf : fitsM c D x.sz al r with
  | false =>
    rw [hf] at FI
    have FIN : Hid (∀ W, More w W → MdDid w F p c (bornM c D ws x.kd x.sz al r).1 (bornM c D ws x.kd x.sz al r).2.1 (bornM c D ws x.kd x.sz al r).2.2 (.returned (.bool false)) W) := Lib.hid fun W hW => by
      simp only [bornM, hf]
      exact MdDid.same HH.out hW
    generalize (bornM c D ws x.kd x.sz al r).1 = o1 at FIN ⊢
    generalize (bornM c D ws x.kd x.sz al r).2.1 = o2 at FIN ⊢
    generalize (bornM c D ws x.kd x.sz al r).2.2 = o3 at FIN ⊢
    clear hf
    go_enter Tryd.func52, Tryd.ntmps52
    go_wp2_with (refine wpList_load_row rfl 30 _ rfl _ rfl 30 _ _ _ HR.out Tryd.underlying30 rfl (by kernel_rfl) ?_)
    refine FI.out.mono ?_
    rintro e w3 ⟨rfl, h3⟩
    have M3 := Lib.hid (MM.out.trans h3)
    clear h3
    go_wp2_with fail
    go_ret
    exact FIN.out _ M3.out
  | true =>
    rw [hf] at FI
    obtain ⟨y1, y2, y3⟩ := fitsM_yes hf
    have y4 := openM_yes y3
    have hrs : r.sz = roundV x.sz al := by rw [y1]; rfl
    rw [← hrs] at y3 y4
    have hge := round_ge HBAD.out hn (by rw [← hrs]; exact y4.1)
    rw [← hrs] at hge
    obtain ⟨q, g, cap, F1, hP0⟩ := HH.out.parts
    have BK := Lib.hid (HH.out.bk.put y3 hge.2 hge.1)
    have hsm := HH.out.small
    have us := us_b HH.out.ok
    have hl := HH.out.len
    have HP := Lib.hid hP0
    have FIN : Hid (∀ (W1 W2 : World) (F2 : Nat → Prop) (F1' : Nat → Prop) (wz : List Int), wz.length = ws.length → wz = (if x.kd = 3 then putW ws (r.ad - c.us).toNat (List.replicate r.sz.toNat 0) else ws) → More w W1 → MdP W2 F2 p c (b_putD D r.ad (x.sz, r.sz)) wz q g cap F1' → Turned F W1 W2 → (∀ k, F2 k → F k ∨ W1.heap.size ≤ k) → (∀ k, F2 k → k < W2.heap.size) → MdDid w F p c (bornM c D ws x.kd x.sz al r).1 (bornM c D ws x.kd x.sz al r).2.1 (bornM c D ws x.kd x.sz al r).2.2 (.returned (.bool true)) W2) := Lib.hid fun W1 W2 F2 F1' wz k1 k2 k3 k4 k5 k6 k7 => by
      simp only [bornM, hf, if_true]
      refine MdDid.low k3 ⟨rfl, F2, ⟨HH.out.ok, BK.out.1, ?_, k7, q, g, cap, F1', ?_⟩, k5, k6⟩
      · rw [← k2, k1]; exact hl
      · rw [← k2]
        exact ⟨k4.md, k4.mp, k4.row, k4.fp, k4.fg, k4.gp, k4.f1⟩
    obtain ⟨i, hi⟩ : ∃ i : Nat, r.ad = c.us + i := ⟨(r.ad - c.us).toNat, by omega⟩
    obtain ⟨n, hn'⟩ : ∃ n : Nat, r.sz = n := ⟨r.sz.toNat, by omega⟩
    have hin : i + n ≤ ws.length := by omega
    have hn0 : 0 < n := by omega
    have hcaps := hP0.caps
    generalize (bornM c D ws x.kd x.sz al r).1 = o1 at FIN ⊢
    generalize (bornM c D ws x.kd x.sz al r).2.1 = o2 at FIN ⊢
    generalize (bornM c D ws x.kd x.sz al r).2.2 = o3 at FIN ⊢
    have hbm := build_mb x.sz r.sz
    have HI := Lib.hid hi
    have HN := Lib.hid hn'
    have HFL := Lib.hid HH.out.lt
    have HL := Lib.hid hl
    have HOK := Lib.hid HH.out.ok
    have HIN := Lib.hid hin
    have HCP := Lib.hid hcaps
    have HSM := Lib.hid hsm
    have HN0 := Lib.hid hn0
    clear hf y1 y2 y3 y4 hrs hge hP0 us hl hi hn' hin hcaps hsm hn hal hra hn0 HBAD
    go_enter Tryd.func52, Tryd.ntmps52
    go_wp2_with (refine wpList_load_row rfl 30 _ rfl _ rfl 30 _ _ _ HR.out Tryd.underlying30 rfl (by kernel_rfl) ?_)
    refine FI.out.mono ?_
    rintro e w3 ⟨rfl, h3⟩
    have M3 := Lib.hid (MM.out.trans h3)
    have X3 := Lib.hid (h3.block HX.out)
    have R3 := Lib.hid (h3.block HR.out)
    have P3 := Lib.hid (HP.out.more M3.out)
    obtain ⟨c0, c1, c2, c3, c4⟩ := cl_cells x X3.out
    obtain ⟨r0, r1, r2, r3⟩ := rp_cells r R3.out
    have hq0 := P3.out.md.live
    clear h3 HX HR MM FI HP
    go_wp2_with fail
    refine wp_region_more_tail 11 (by kernel_rfl) (by kernel_rfl) ?_
    simp only [List.take_succ_cons, List.take_zero, List.drop_succ_cons, List.drop_zero]
    iterate 11
      first
      | (with_reducible refine wpQuiet_step (fun K hK => ?_)
         go_simp
         first
         | (refine hK _ ?_; clear hK K)
         | (apply Exists.intro
            refine ⟨fun W hW => ?_, hK _ ?_⟩
            first
            | (have q0 := hW.cell c2; have q1 := hW.cell r1; have q2 := hW.cell r2; have q3 := hW.cell hq0; (try go_simp); try rfl)
            | ((try go_simp); try rfl)
            clear hK K))
    refine wpQuiet_nil ?_
    intro w4 m4
    have M4 := Lib.hid (M3.out.trans m4)
    have P4 := Lib.hid (P3.out.more m4)
    have X4 := Lib.hid (m4.block X3.out)
    have R4 := Lib.hid (m4.block R3.out)
    clear m4 P3 M3 X3 R3 c0 c1 c2 c3 c4 r0 r1 r2 r3 hq0
    cases hk : (x.kd == 3) with
    | false =>
      have hk' : ¬ x.kd = 3 := by simpa using hk
      go_wp2_with (go_at_call 57
                   refine (b_put_ok F1 q D r.ad x.sz r.sz w4 P4.out.mp (by have := HSM.out; omega)).mono ?_
                   intro e w5 hd
                   obtain ⟨F5, F15, p5, t5, n5, l5⟩ := P4.out.map (fun k hk => Nat.lt_of_lt_of_le (HFL.out k hk) M4.out.size) hd
                   obtain ⟨rfl, _⟩ := hd
                   have P5 := Lib.hid p5
                   have T5 := Lib.hid t5
                   have N5 := Lib.hid n5
                   have L5 := Lib.hid l5
                   have X5 : Hid (w5.heap[w.heap.size]? = some (.cells x.arr 25 (0, 0))) := Lib.hid ((Turned.block t5 _ (lt_of_heap X4.out) (fun q => by have := HFL.out _ q; omega)).trans X4.out)
                   have R5 : Hid (w5.heap[w.heap.size + 1]? = some (.cells r.arr 30 (0, 0))) := Lib.hid ((Turned.block t5 _ (lt_of_heap R4.out) (fun q => by have := HFL.out _ q; omega)).trans R4.out)
                   clear p5 t5 n5 l5 X4 R4 P4
                   obtain ⟨c0, c1, c2, c3, c4⟩ := cl_cells x X5.out
                   obtain ⟨r0, r1, r2, r3⟩ := rp_cells r R5.out)
      go_ret
      exact FIN.out w4 w5 F5 F15 ws rfl (by rw [if_neg hk']) M4.out P5.out T5.out N5.out L5.out
    | true =>
      have hk' : x.kd = 3 := by simpa using hk
      go_wp2_with (go_at_call 57
                   refine (b_put_ok F1 q D r.ad x.sz r.sz w4 P4.out.mp (by have := HSM.out; omega)).mono ?_
                   intro e w5 hd
                   obtain ⟨F5, F15, p5, t5, n5, l5⟩ := P4.out.map (fun k hk => Nat.lt_of_lt_of_le (HFL.out k hk) M4.out.size) hd
                   obtain ⟨rfl, _⟩ := hd
                   have P5 := Lib.hid p5
                   have T5 := Lib.hid t5
                   have N5 := Lib.hid n5
                   have L5 := Lib.hid l5
                   have X5 : Hid (w5.heap[w.heap.size]? = some (.cells x.arr 25 (0, 0))) := Lib.hid ((Turned.block t5 _ (lt_of_heap X4.out) (fun q => by have := HFL.out _ q; omega)).trans X4.out)
                   have R5 : Hid (w5.heap[w.heap.size + 1]? = some (.cells r.arr 30 (0, 0))) := Lib.hid ((Turned.block t5 _ (lt_of_heap R4.out) (fun q => by have := HFL.out _ q; omega)).trans R4.out)
                   clear p5 t5 n5 l5 X4 R4 P4
                   obtain ⟨c0, c1, c2, c3, c4⟩ := cl_cells x X5.out
                   obtain ⟨r0, r1, r2, r3⟩ := rp_cells r R5.out
                   have PT := Lib.hid (md_part HOK.out i n w5 P5.out.md HL.out HCP.out.1 HCP.out.2 HN0.out HIN.out)
                   rw [← HI.out, ← HN.out] at PT
                   have FZ : Hid (∀ w6, More w5 w6 → MdDid w F p c o1 o2 o3 (.returned (.bool true)) (w6.setCells g i (List.replicate n (.int .i64 0)))) := Lib.hid fun w6 m6 => by
                     have hlen : i + (List.replicate n (0 : Int)).length ≤ ws.length := by simpa using HIN.out
                     have hp := (P5.out.more m6).put i (List.replicate n 0) hlen
                     rw [List.map_replicate] at hp
                     have htc : Turned F w4 (w6.setCells g i (List.replicate n (.int .i64 0))) := turned_cells (T5.out.trans (Turned.mono m6 (fun _ _ q => q.elim))) (fun q => by have := N5.out g P5.out.fg; rcases this with q' | q'; exact q'; omega) i _
                     refine FIN.out w4 _ F5 F15 _ (putW_len hlen) ?_ M4.out hp htc N5.out (fun k hk => by have := L5.out k hk; have := m6.size; rw [setCells_eq]; simp [mapBlock]; omega)
                     rw [if_pos (by simpa using hk), show (r.ad - c.us).toNat = i by have := HI.out; omega, show r.sz.toNat = n by have := HN.out; omega]
                   have CLR : Hid (∀ w6, More w5 w6 → ∀ ty, (Builtin.clear_ #[66] ty #[.slice (some ⟨g, i, none⟩) n n]).run Tryd.prog w6 = .ok (.tuple #[]) (w6.setCells g i (List.replicate n (.int .i64 0)))) := Lib.hid fun w6 m6 ty => by
                     obtain ⟨g', hg', _, hcell, hfz⟩ := ((P5.out.more m6).row).reads (by have := HIN.out; have := HN0.out; simp; omega)
                     cases hg'
                     exact Lib.run_clear_slice w6 _ _ ty (.int .i64 0) Tryd.underlying66 Tryd.zeroValue3 rfl rfl g i n n HN0.out (fun j hj => by
                       have hlt : i + j < ws.length := by have := HIN.out; omega
                       rw [hcell (i + j) _ (by rw [List.getElem?_map, List.getElem?_eq_getElem hlt]; rfl)]; rfl) (fun j hj => hfz _)
                   clear FIN P5 T5 N5 L5)
      refine PT.out.mono ?_
      rintro e w6 ⟨rfl, h6⟩
      have hcl := CLR.out w6 h6
      have FF := Lib.hid (FZ.out w6 h6)
      clear h6 CLR FZ
      generalize w6.setCells g i (List.replicate n (.int .i64 0)) = w7 at hcl FF
      go_wp2_with fail
      go_ret
      exact FF.out
end Go.Proofs.YtahejbahnhohcaaDoor
