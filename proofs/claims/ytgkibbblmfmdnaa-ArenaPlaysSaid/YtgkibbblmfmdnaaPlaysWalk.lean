/-
  The walk of the statement on plays.
-/
import Derived.Test.YtgkibbblmfmdnaaStep2
import Derived.Test.YtgkibbblmfmdnaaMid
namespace Go.Proofs.Ytgkibbblmfmdnaa
open Go.RowKit
set_option linter.unusedVariables false
set_option linter.unusedSimpArgs false

theorem plays_out (a0 : Option Addr) (len cap : Nat) (n : Int) (w : World) (h : 2000 < n ∨ 200 < len) (hm : len ≤ 9223372036854775807) :
    Calls Try.prog 3 #[.int .i64 n, .slice a0 len cap] w (YesPost w) := by
  by_cases k : 2000 < n
  · have d1 : decide (2000 < n) = true := by simp; omega
    clear h
    go_enter Try.func3, Try.ntmps3
    go_wp2_with fail
    refine (lives_any _).mono ?_
    rintro e w8 ⟨rfl, t8⟩
    go_wp2_with fail
    go_ret
    exact ⟨rfl, t8⟩
  · have d1 : decide (2000 < n) = false := by simp; omega
    have d2 : decide ((200 : Int) < (len : Int)) = true := by simp; omega
    clear h
    go_enter Try.func3, Try.ntmps3
    go_wp2_with fail
    refine (lives_any _).mono ?_
    rintro e w8 ⟨rfl, t8⟩
    go_wp2_with fail
    go_ret
    exact ⟨rfl, t8⟩

theorem plays_none (a0 : Option Addr) (len cap : Nat) (n : Int) (w : World) (h : n < 1) (hm : len ≤ 200) :
    Calls Try.prog 3 #[.int .i64 n, .slice a0 len cap] w (YesPost w) := by
  have d1 : decide (2000 < n) = false := by simp; omega
  have d2 : decide ((200 : Int) < (len : Int)) = false := by simp; omega
  have H : Hid (n < 1 ∨ 1048576 < n) := Or.inl h
  go_enter Try.func3, Try.ntmps3
  go_wp2_with fail
  refine (new_no n H.out _).mono ?_
  rintro e w8 ⟨rfl, rfl⟩
  go_wp2_with fail
  refine (rnew_no n H.out _).mono ?_
  rintro e w8 ⟨rfl, rfl⟩
  go_wp2_with fail
  refine (lives_any _).mono ?_
  rintro e w8 ⟨rfl, t8⟩
  go_wp2_with fail
  go_ret
  exact ⟨rfl, t8⟩

/-- The count of the document's own arena, as the world has it. -/
def cntIn (p : Nat) (w : World) : Int := match w.cell? ⟨p, 1, none⟩ with | some (.int _ v) => v | _ => 0
theorem cntIn_of {T p q : Nat} {w : World} {ws : List Int} {c : Int} (h : At T w p q ws c) : w.cell? ⟨p, 1, none⟩ = some (.int .i64 (cntIn p w)) ∧ cntIn p w = c := by
  simp [cntIn, h.c1]

def ActsAt (w : World) (s o len : Nat) (f : Nat → Nat → Int) : Prop :=
  ∀ i, i < len → ∀ j, j < 4 → w.cell? ⟨s, o + (i * 4 + j), none⟩ = some (.int .i64 (f i j)) ∧ (Lit.int .i64 (f i j)).wf = true

theorem ActsAt.keep {w w1 : World} {s o len : Nat} {f : Nat → Nat → Int} {S : Nat → Prop} (h : ActsAt w s o len f) (t : Turned S w w1) (hs : s < w.heap.size) (hn : ¬ S s) : ActsAt w1 s o len f :=
  fun i hi j hj => ⟨by rw [t.cell hs hn]; exact (h i hi j hj).1, (h i hi j hj).2⟩
/-- The four cells of an act, as the walk spells their places. -/
theorem ActsAt.four {w : World} {s o len : Nat} {f : Nat → Nat → Int} (h : ActsAt w s o len f) {k : Nat} (hk : k < len) :
    w.cell? ⟨s, o + k * 4, none⟩ = some (.int .i64 (f k 0)) ∧ w.cell? ⟨s, o + k * 4 + 1, none⟩ = some (.int .i64 (f k 1)) ∧ w.cell? ⟨s, o + k * 4 + 2, none⟩ = some (.int .i64 (f k 2)) ∧ w.cell? ⟨s, o + k * 4 + 3, none⟩ = some (.int .i64 (f k 3)) :=
  ⟨(h k hk 0 (by omega)).1, (h k hk 1 (by omega)).1, (h k hk 2 (by omega)).1, (h k hk 3 (by omega)).1⟩

/-- Where both stand, apart from all that came in. -/
def PlayRel (w : World) (p q : Nat) (ws : List Int) (c : Int) (m : Value) (wc : World) : Prop :=
  ∃ a b, m = .pointer (some ⟨a, 0, none⟩) ∧ Both wc a b p q ws c ∧ w.heap.size ≤ a ∧ w.heap.size ≤ b ∧ Turned (fun _ => False) w wc

theorem own_turn4 {w0 w w' : World} {a b p q : Nat} (h : Turned (fun _ => False) w0 w) (ha : w0.heap.size ≤ a) (hb : w0.heap.size ≤ b) (hp : w0.heap.size ≤ p) (hq : w0.heap.size ≤ q) (t : Turned (Of4 a b p q) w w') : Turned (fun _ => False) w0 w' :=
  ⟨t.os.trans h.os, t.tape.trans h.tape, t.output.trans h.output, Nat.le_trans h.size t.size, fun k hk _ => by
    rw [t.block k (Nat.lt_of_lt_of_le hk h.size) (by unfold Of4; omega)]; exact h.block k hk (fun q => q)⟩

/-- The loop's test reads these: the act, and the count of the document's own arena. -/
def Reads (s o k p : Nat) (f : Nat → Nat → Int) (w : World) : Prop :=
  w.cell? ⟨s, o + k * 4, none⟩ = some (.int .i64 (f k 0)) ∧ w.cell? ⟨s, o + k * 4 + 1, none⟩ = some (.int .i64 (f k 1)) ∧ w.cell? ⟨s, o + k * 4 + 2, none⟩ = some (.int .i64 (f k 2)) ∧ w.cell? ⟨s, o + k * 4 + 3, none⟩ = some (.int .i64 (f k 3)) ∧
    w.cell? ⟨p, 1, none⟩ = some (.int .i64 (cntIn p w))

/-- On with a copy, the old one changed. -/
theorem both_copied {w w1 w2 : World} {a b a2 b2 p q : Nat} {ws : List Int} {c : Int} (h : Both w a b p q ws c) (ha : w.heap.size ≤ a2) (hb : w.heap.size ≤ b2) (h2 : At 53 w1 a2 b2 ws c)
    (t1 : Turned (fun _ => False) w w1) (t2 : Turned (fun k => k = a ∨ k = b) w1 w2) : Both w2 a2 b2 p q ws c := by
  have s1 := h.m.la; have s2 := h.m.lb; have s3 := h.r.la; have s4 := h.r.lb
  have n1 := h.ap; have n2 := h.aq; have n3 := h.bp; have n4 := h.bq
  exact ⟨h2.keep t2 (by omega) (by omega), (h.r.keep t1 (fun x => x) (fun x => x)).keep t2 (by omega) (by omega), by omega, by omega, by omega, by omega, h.wf⟩

set_option maxRecDepth 100000 in
set_option maxHeartbeats 4000000 in
theorem plays_in (a1 : Option Addr) (s o len cap n : Nat) (f : Nat → Nat → Int) (w : World) (h1 : 1 ≤ n) (h2 : n ≤ 2000) (hlen : len ≤ 200)
    (ha : 0 < len → a1 = some ⟨s, o, none⟩ ∧ s < w.heap.size) (hc : ActsAt w s o len f) :
    Calls Try.prog 3 #[.int .i64 n, .slice a1 len cap] w (YesPost w) := by
  have d1 : decide ((2000 : Int) < (n : Int)) = false := by simp; omega
  have d2 : decide ((200 : Int) < (len : Int)) = false := by simp; omega
  have HA := Lib.hid ha; clear ha
  have HC := Lib.hid hc; clear hc
  go_enter Try.func3, Try.ntmps3
  go_wp2_with fail
  refine (new_ok n h1 (by omega) _).mono ?_
  rintro e w1 ⟨a0, b0, rfl, ha0, hb0, hat1, t1⟩
  go_wp2_with fail
  refine (rnew_ok n h1 (by omega) _).mono ?_
  rintro e w2 ⟨p, q, rfl, hp, hq, hat2, t2⟩
  have hB : Both w2 a0 b0 p q (List.replicate n 0) 0 :=
    ⟨hat1.keep t2 (fun x => x) (fun x => x), hat2, by have := hat1.la; omega, by have := hat1.la; omega, by have := hat1.lb; omega, by have := hat1.lb; omega, fun z hz => by
      rw [List.eq_of_mem_replicate hz]; decide⟩
  have T2 := t1.trans t2
  have hp' : w.heap.size ≤ p := Nat.le_trans t1.size hp
  have hq' : w.heap.size ≤ q := Nat.le_trans t1.size hq
  have HB := Lib.hid hB; clear hB hat1 hat2 t1 t2 hp hq
  go_wp2_with fail
  go_loopw [5, 8] (fun m i wr => ∃ (k a b : Nat) (ws : List Int) (c : Int), k ≤ len ∧ i = .int .i64 k ∧ m = .pointer (some ⟨a, 0, none⟩) ∧ Both wr a b p q ws c ∧ ws.length = n ∧ 0 ≤ c ∧ c ≤ k ∧ w.heap.size ≤ a ∧ w.heap.size ≤ b ∧ Turned (fun _ => False) w wr) (fun _ i _ => len - (intOf i).toNat)
  case atStart => exact ⟨0, a0, b0, _, 0, Nat.zero_le _, rfl, rfl, HB.out, by simp, by omega, by omega, by omega, by omega, T2⟩
  case round =>
    obtain ⟨k, a, b, ws, c, hk, rfl, rfl, hb, hwl, hc0, hck, haw, hbw, T⟩ := hrel
    have HW := Lib.hid hwl; clear hwl
    by_cases hlt : k < len
    · obtain ⟨rfl, hs⟩ := HA.out (by omega)
      have hact := HC.out.keep T hs (fun x => x)
      have e0 := (hact.four hlt).1
      have HACT := Lib.hid hact; clear hact
      have hwl : ws.length ≤ 1048576 := by have := HW.out; omega
      have HB0 := Lib.hid hb
      go_upto_if 55 with (fail)
      go_cut [5] from 44 to 91 (fun m wc => PlayRel w p q ws c m wc)
      case first =>
        cases b4 : (f k 0 == 4) with
        | false =>
          go_wp2_with fail
          go_meet
          case rel => exact ⟨a, b, rfl, HB0.out, haw, hbw, T⟩
        | true =>
          go_wp2_with fail
          refine (copy_at a b ws c _ HB0.out.m hwl).mono ?_
          rintro e w3 ⟨a2, b2, rfl, ha2, hb2, hat2, t3⟩
          have hact3 := HACT.out.keep t3 (Nat.lt_of_lt_of_le hs T.size) (fun x => x)
          have e31 := (hact3.four hlt).2.1
          have e32 := (hact3.four hlt).2.2.1
          have HM : Hid (At 53 w3.drew a b ws c) := HB0.out.m.keep (S := fun _ => False) t3.drew (fun x => x) (fun x => x)
          go_wp2_with fail
          go_region_held3 (fun w' => w'.cell? ⟨s, o + k * 4 + 1, none⟩ = some (.int .i64 (f k 1)) ∧ w'.cell? ⟨s, o + k * 4 + 2, none⟩ = some (.int .i64 (f k 2)))
            (first | exact ⟨e31, e32⟩ | exact ⟨K4.out.1, K4.out.2⟩)
            (first | (go_at_call 12; refine (store_any a b ws c _ _ _ HM.out hwl hc0 (by omega)).mono ?_; rintro e w4 ⟨rfl, hat4, t4⟩; have K4 : Hid (w4.cell? ⟨s, o + k * 4 + 1, none⟩ = some (.int .i64 (f k 1)) ∧ w4.cell? ⟨s, o + k * 4 + 2, none⟩ = some (.int .i64 (f k 2))) := ⟨(t4.cell (lt_of_cell e31) (by omega) _).trans e31, (t4.cell (lt_of_cell e31) (by omega) _).trans e32⟩))
          all_goals go_wp2_with fail
          all_goals go_meet
          all_goals exact ⟨a2, b2, rfl, both_copied HB0.out ha2 hb2 hat2 t3 (Turned.undrew t4), Nat.le_trans T.size ha2, Nat.le_trans T.size hb2, own_turn (T.trans t3) haw hbw (Turned.undrew t4)⟩
      case rest =>
        clear e0 hb HB0 HACT
        obtain ⟨a', b', rfl, hb', haw', hbw', T'⟩ := hcut
        have hact := HC.out.keep T' hs (fun x => x)
        have hfour := hact.four hlt
        have HQ : Hid ((Lit.int .i64 (f k 2)).wf = true ∧ (Lit.int .i64 (f k 3)).wf = true) := ⟨(hact k hlt 2 (by omega)).2, (hact k hlt 3 (by omega)).2⟩
        have HB1 : Hid (Both wc.drew a' b' p q ws c) := hb'.over (Turned.refl _ wc).drew
        have HACT := Lib.hid hact; clear hact
        obtain ⟨f0, f1, f2, f3⟩ := hfour
        clear hb'
        go_wp2_with fail
        refine wp_region_any (by kernel_rfl) ?_
        change wpAny _ _ _ _ _ _ _ (World.drew _)
        refine wpAny_take (i := 0) (oi := ?oi0) (v := ?vv0) ?hi0 (by kernel_rfl) (by kernel_rfl) (by kernel_rfl) ?hQ0 (Or.inl ⟨?hw0, ?hy0⟩) ?rest0
        case hi0 => simp only [List.getElem?_toArray, List.getElem?_cons_succ, List.getElem?_cons_zero]; rfl
        case hQ0 => exact fun _ _ _ h => h
        case hw0 => rfl
        case hy0 => intro w; go_simp; try rfl
        simp only [Act.put, List.setIfInBounds_toArray, List.set_cons_zero, List.set_cons_succ]
        refine wpAny_take (i := 1) (oi := ?oi1) (v := ?vv1) ?hi1 (by kernel_rfl) (by kernel_rfl) (by kernel_rfl) ?hQ1 (Or.inl ⟨?hw1, ?hy1⟩) ?rest1
        case hi1 => simp only [List.getElem?_toArray, List.getElem?_cons_succ, List.getElem?_cons_zero]; rfl
        case hQ1 => exact fun _ _ _ h => h
        case hw1 => rfl
        case hy1 => intro w; go_simp; try rfl
        simp only [Act.put, List.setIfInBounds_toArray, List.set_cons_zero, List.set_cons_succ]
        refine wpAny_take (i := 2) (oi := ?oi2) (v := ?vv2) ?hi2 (by kernel_rfl) (by kernel_rfl) (by kernel_rfl) ?hQ2 (Or.inl ⟨?hw2, ?hy2⟩) ?rest2
        case hi2 => simp only [List.getElem?_toArray, List.getElem?_cons_succ, List.getElem?_cons_zero]; rfl
        case hQ2 => exact fun _ _ _ h => h
        case hw2 => rfl
        case hy2 => intro w; go_simp; try rfl
        simp only [Act.put, List.setIfInBounds_toArray, List.set_cons_zero, List.set_cons_succ]
        refine wpAny_take (i := 3) (oi := ?oi3) (v := ?vv3) ?hi3 (by kernel_rfl) (by kernel_rfl) (by kernel_rfl) ?hQ3 (Or.inl ⟨?hw3, ?hy3⟩) ?rest3
        case hi3 => simp only [List.getElem?_toArray, List.getElem?_cons_succ, List.getElem?_cons_zero]; rfl
        case hQ3 => exact fun _ _ _ h => h
        case hw3 => rfl
        case hy3 => intro w; go_simp; try rfl
        simp only [Act.put, List.setIfInBounds_toArray, List.set_cons_zero, List.set_cons_succ]
        refine wpAny_take (i := 4) (oi := ?oi4) (v := ?vv4) ?hi4 (by kernel_rfl) (by kernel_rfl) (by kernel_rfl) ?hQ4 (Or.inl ⟨?hw4, ?hy4⟩) ?rest4
        case hi4 => simp only [List.getElem?_toArray, List.getElem?_cons_succ, List.getElem?_cons_zero]; rfl
        case hQ4 => exact fun _ _ _ h => h
        case hw4 => rfl
        case hy4 => intro w; go_simp; try rfl
        simp only [Act.put, List.setIfInBounds_toArray, List.set_cons_zero, List.set_cons_succ]
        refine wpAny_take (i := 5) (oi := ?oi5) (v := ?vv5) ?hi5 (by kernel_rfl) (by kernel_rfl) (by kernel_rfl) ?hQ5 (Or.inl ⟨?hw5, ?hy5⟩) ?rest5
        case hi5 => simp only [List.getElem?_toArray, List.getElem?_cons_succ, List.getElem?_cons_zero]; rfl
        case hQ5 => exact fun _ _ _ h => h
        case hw5 => rfl
        case hy5 => intro w; go_simp; try rfl
        simp only [Act.put, List.setIfInBounds_toArray, List.set_cons_zero, List.set_cons_succ]
        refine wpAny_take (i := 6) (oi := ?oi6) (v := ?vv6) ?hi6 (by kernel_rfl) (by kernel_rfl) (by kernel_rfl) ?hQ6 (Or.inl ⟨?hw6, ?hy6⟩) ?rest6
        case hi6 => simp only [List.getElem?_toArray, List.getElem?_cons_succ, List.getElem?_cons_zero]; rfl
        case hQ6 => exact fun _ _ _ h => h
        case hw6 => rfl
        case hy6 => intro w; go_simp; try rfl
        simp only [Act.put, List.setIfInBounds_toArray, List.set_cons_zero, List.set_cons_succ]
        refine wpAny_take (i := 7) (oi := ?oi7) (v := ?vv7) ?hi7 (by kernel_rfl) (by kernel_rfl) (by kernel_rfl) ?hQ7 (Or.inl ⟨?hw7, ?hy7⟩) ?rest7
        case hi7 => simp only [List.getElem?_toArray, List.getElem?_cons_succ, List.getElem?_cons_zero]; rfl
        case hQ7 => exact fun _ _ _ h => h
        case hw7 => rfl
        case hy7 => intro w; go_simp; try rfl
        simp only [Act.put, List.setIfInBounds_toArray, List.set_cons_zero, List.set_cons_succ]
        refine wpAny_ready (rs := [8]) (by kernel_rfl) (by simp) (AllReady.cons (o := ?oo8) ?ho8 (fun K hK => ?st8) AllReady.nil)
        case ho8 => simp only [List.getElem?_toArray, List.getElem?_cons_succ, List.getElem?_cons_zero]; rfl
        go_simp
        refine hK _ _ ?_
        clear hK K
        try simp only [Act.put, List.setIfInBounds_toArray, List.set_cons_zero, List.set_cons_succ]
        refine wpAny_ready (rs := [9]) (by kernel_rfl) (by simp) (AllReady.cons (o := ?oo9) ?ho9 (fun K hK => ?st9) AllReady.nil)
        case ho9 => simp only [List.getElem?_toArray, List.getElem?_cons_succ, List.getElem?_cons_zero]; rfl
        have HK := Lib.hid hK
        clear hK
        go_simp
        go_at_call 13
        refine (step_any a' b' p q ws c _ _ _ _ _ HB1.out hwl hc0 (by omega) HQ.out.1 HQ.out.2).mono ?_
        rintro e w5 ⟨rfl, ws', c', hl', hc1, hc2, hB5, t5⟩
        have HL5 := Lib.hid hl'; clear hl'
        have g1 := hB5.r.c1
        have HB5 := Lib.hid hB5; clear hB5
        refine HK.out _ _ ?_
        clear HK K
        try simp only [Act.put, List.setIfInBounds_toArray, List.set_cons_zero, List.set_cons_succ]
        refine wpAny_quiet_rest 10 _ (by kernel_rfl) (by simp only [List.toList_toArray, List.drop_succ_cons, List.drop_zero]; rfl) (by kernel_rfl) (by rfl) ?_
        repeat (quiet_step ((go_at_call 14; exact Calls.quiet_of_same (count_at a' b' ws' c' _ (HB5.out.m.drewN _)))))
        refine wpQuiet_nil ?_
        rintro w7 ⟨nq, rfl⟩
        go_wp2_with fail
        go_roundw
        case rel => exact ⟨k + 1, a', b', ws', c', by omega, by go_num, rfl, HB5.out.over ((Turned.refl _ _).drewN _), HL5.out.trans HW.out, by omega, by omega, haw', hbw', (own_turn4 T' haw' hbw' hp' hq' (Turned.undrew t5)).drewN _⟩
        case measure => simp [intOf]; omega
    · have hln : ((ws.length : Int) == (n : Int)) = true := by rw [HW.out]; simp
      have hwl : ws.length ≤ 1048576 := by have := HW.out; omega
      have HM : Hid (At 53 wr.drew a b ws c) := hb.m.drew
      have HR : Hid (At 38 wr.drew p q ws c) := hb.r.drew
      have T0 : Turned (fun _ => False) w wr.drew := T.drew
      clear hb
      go_wp2_with fail
      go_region_held3 (fun w' => w'.cell? ⟨p, 0, none⟩ = some (.slice (some ⟨q, 0, none⟩) ws.length ws.length))
        (first | exact HR.out.c0 | exact H9.out.c0 | exact H8.out.c0 | exact H7.out.c0)
        (first | (go_at_call 15; refine (len_at a b ws c _ HM.out).mono ?_; rintro e w6 ⟨rfl, rfl⟩) | (go_at_call 16; refine (words_at a b ws c _ HM.out hwl).mono ?_; rintro e w7 ⟨g, rfl, hg, hrow, t7⟩; have H7 : Hid (At 38 w7 p q ws c) := HR.out.keep t7 (fun x => x) (fun x => x); have HG := Lib.hid hrow; clear hrow) | (go_at_call 17; refine (same_yes ws g 0 _ q 0 _ _ hwl (lt_of_heap HG.out) H7.out.lb (fun i hi => row_cells HG.out i hi) (fun i hi => by rw [Nat.zero_add]; exact H7.out.wd hi)).mono ?_; rintro e w8 ⟨rfl, t8⟩; have H8 : Hid (At 38 w8 p q ws c) := H7.out.keep t8 (fun x => x) (fun x => x)) | (go_at_call 8; refine (lives_any _).mono ?_; rintro e w9 ⟨rfl, t9⟩; have H9 : Hid (At 38 w9 p q ws c) := H8.out.keep t9 (fun x => x) (fun x => x)))
      all_goals go_wp2_with fail
      all_goals go_ret
      all_goals exact ⟨rfl, ((T0.trans t7).trans t8).trans t9⟩

theorem plays_walk (n : Int) (a1 : Option Addr) (len cap : Nat) (f : Nat → Nat → Int) (w : World) (hn : (Lit.int .i64 n).wf = true) (hl : IsFours w a1 len f) (hm : len ≤ 9223372036854775807) :
    Calls Try.prog 3 #[.int .i64 n, .slice a1 len cap] w fun e w' => e = .returned (.bool true) ∧ Turned (fun _ => False) w w' := by
  by_cases h : 2000 < n ∨ 200 < len
  · exact plays_out a1 len cap n w h hm
  by_cases h1 : n < 1
  · exact plays_none a1 len cap n w h1 (by omega)
  obtain ⟨k, rfl⟩ : ∃ k : Nat, n = k := ⟨n.toNat, by omega⟩
  rcases hl with h0 | ⟨s, o, rfl, hs, hf⟩
  · exact plays_in a1 0 0 len cap k f w (by omega) (by omega) (by omega) (fun q => by omega) (fun i hi => by omega)
  · exact plays_in _ s o len cap k f w (by omega) (by omega) (by omega) (fun _ => ⟨rfl, hs⟩) hf

end Go.Proofs.Ytgkibbblmfmdnaa
