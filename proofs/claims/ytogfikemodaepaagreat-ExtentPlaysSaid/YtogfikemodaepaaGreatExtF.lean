/-
  The landed package extent: Find.
-/
import Derived.Test.YtogfikemodaepaaGreatExtC
import Derived.Test.YtogfikemodaepaaGreatHead
import Derived.Deep.LoopGhost
import Derived.WalkMore
namespace Go.Proofs.YtogfikemodaepaaGreat
open Go.RowKit Go.Sort Go.Maps Go.Shelf
set_option linter.unusedVariables false
set_option linter.unusedSimpArgs false

theorem seek_step {f : Int → Prg Bool} {pg n step : Int} {m : Nat} {p : Int} : eseekN f pg n step (m + 1) p = if p ≤ pg - n then bindP (escanN f n.toNat p) (fun r => match r with | none => pureP p | some q => eseekN f pg n step m ((q / step + 1) * step)) else pureP (-1) := rfl
theorem scan_step {f : Int → Prg Bool} {m : Nat} {q : Int} : escanN f (m + 1) q = bindP (f q) (fun b => if b then escanN f m (q + 1) else pureP (some q)) := rfl
theorem leap_b {q step : Int} (h0 : 0 ≤ q) (h1 : q < 256) (h2 : 1 ≤ step) (h3 : step ≤ 9223372036854775807) : 0 ≤ q / step ∧ q / step < 256 ∧ q < (q / step + 1) * step ∧ (q / step + 1) * step ≤ 9223372036854775807 := by
  have a0 : 0 ≤ q / step := Int.ediv_nonneg h0 (by omega)
  have a1 : q / step * step ≤ q := Int.ediv_mul_le q (by omega)
  have a2 : q < (q / step + 1) * step := Int.lt_ediv_add_one_mul_self q (by omega)
  have a3 : q / step ≤ q := Int.ediv_le_self step h0
  have a4 : (q / step + 1) * step = q / step * step + step := by rw [Int.add_mul, Int.one_mul]
  refine ⟨a0, by omega, a2, ?_⟩
  rw [a4]
  by_cases hs : q < step
  · rw [Int.ediv_eq_zero_of_lt h0 hs]; omega
  · omega

set_option maxRecDepth 100000 in
set_option maxHeartbeats 4000000 in
theorem e_least {c : Cfg} (R : c.Ok) {n : Nat} (H : PgIn c.pg c.st n) (F : Nat → Prop) (p : Nat) (kn : Int → Option Int) (D : List KV) (m step : Int) (hm1 : 1 ≤ m) (hm2 : m ≤ 9223372036854775807) (hs1 : 1 ≤ step) (hs2 : step ≤ 9223372036854775807) (f : Nat) (clo : Array Value) (fP : Int → Prg Bool) (w : World) (hv : ViewAt w F p kn D) (hk : OkK kn) (hD : InvD n D)
    (hG : ∀ q, Good n (fun _ => True) (fP q)) (henter : ∀ args w, Sem.run Tryz.prog (callFunc f args) w = .ok (.enter f args) w)
    (hf : ∀ wr D' F' q, Turned F w wr → (∀ k, F' k → F k ∨ w.heap.size ≤ k) → ViewAt wr F' p kn D' → InvD n D' → W64 q → Calls Tryz.prog f (#[.int .i64 q] ++ clo) wr (WentV wr F' p kn (fun b => .bool b) (fP q kn D'))) :
    Calls Tryz.prog 43 #[.agg c.arr, .int .i64 m, .int .i64 step, .func (.func f) #[] clo] w (WentV w F p kn (fun x => .int .i64 x) (eleastP fP c.pg m step kn D)) := by
  obtain ⟨Rr, hRr⟩ : ∃ Rr, eleastP fP c.pg m step kn D = Rr := ⟨_, rfl⟩
  rw [hRr]
  obtain ⟨w1, e1, hl1, m1, s1⟩ := entry1 w (.cells c.arr 28)
  have nFl : ¬ F w.heap.size := fun q => by have := hv.lt _ q; omega
  have MM := Lib.hid m1
  have L0 := Lib.hid hl1
  have M0 : Hid (MidV w1 w1 F (fun _ => False) p kn n D F) := Lib.hid (MidV.begin (hv.more m1) hD)
  have KL : Hid (∀ wr D' F', MidV w1 wr F (fun _ => False) p kn n D' F' → wr.heap[w.heap.size]? = some (.cells c.arr 28 (0, 0))) := Lib.hid fun wr D' F' h => mid_own h L0.out nFl (fun q => q)
  have NEED : Hid (∀ a w2, Rr = .need a → DeadAt w2 p a → Turned (fun b => F b ∨ False) w1 w2 → WentV w F p kn (fun x : Int => Value.int .i64 x) Rr (.panicked (endOf p)) w2) := Lib.hid fun a w2 e hd ht => mid_need MM.out (fun _ q => q.elim) e hd ht
  have DONE : Hid (∀ x w2 D' F', Rr = .ok x D' → MidV w1 w2 F (fun _ => False) p kn n D' F' → WentV w F p kn (fun x : Int => Value.int .i64 x) Rr (.returned ((fun x : Int => Value.int .i64 x) x)) w2) := Lib.hid fun x w2 D' F' e h => mid_done MM.out (fun _ q => q.elim) h e
  have HK := Lib.hid hk
  have HR := Lib.hid R
  have HH := Lib.hid H
  clear hl1 m1 hv hD hk R H nFl
  have hfl := field_pages c
  unfold eleastP at hRr
  have pg1 := HR.out.pg1
  have pg2 := HR.out.pg2
  have HRr := Lib.hid hRr
  have HF := Lib.hid hf
  have HG := Lib.hid hG
  have q1 : IntKind.i64.wrap (c.pg - m) = c.pg - m := wrap_in (by omega) (by omega)
  have TT : Hid (∀ wr D' F', MidV w1 wr F (fun _ => False) p kn n D' F' → Turned F w wr) := Lib.hid fun wr D' F' h => turned_own (Turned.mono MM.out (fun _ _ q => q.elim)) h.turn (fun k q => q.imp id (fun r => r.elim))
  clear hRr hf hG
  go_enter Tryz.func43, Tryz.ntmps43
  go_wp2_with fail
  go_step3
  go_wp2_with (first | (refine wpList_load_row rfl 28 _ rfl _ rfl 28 _ _ _ L0.out Tryz.underlying28 rfl (by kernel_rfl) ?_) | (refine wpList_load_rowG rfl 28 _ rfl _ rfl 28 _ _ _ L0.out Tryz.underlying28 rfl (by kernel_rfl) ?_))
  refine (y_config HR.out _).mono ?_
  rintro e w2 ⟨rfl, h2⟩
  have START := Lib.hid (And.intro (M0.out.more h2) HRr.out)
  clear h2 HRr
  go_wp2_with fail
  go_step3
  go_wp2_with fail
  go_loopg [10, 11, 12] (c.pg.toNat + 1) (fun j v10 v11 v12 wr => ∃ (p0 : Int) (D' : List KV) (F' : Nat → Prop), v10 = .int .i64 (-1) ∧ v11 = .int .i64 p0 ∧ 0 ≤ p0 ∧ p0 ≤ 9223372036854775807 ∧ c.pg + 1 ≤ (j : Int) + p0 ∧ MidV w1 wr F (fun _ => False) p kn n D' F' ∧ eseekN fP c.pg m step j p0 kn D' = Rr)
  case atStart => exact ⟨0, D, F, rfl, rfl, by omega, by omega, by omega, START.out.1, START.out.2⟩
  case round =>
    clear START
    obtain ⟨p0, D', F', rfl, rfl, p00, p01, hj, MI, hrest⟩ := hrel
    have MI := Lib.hid MI
    by_cases hle : p0 ≤ c.pg - m
    · have d1 : decide (p0 ≤ c.pg - m) = true := by simp [hle]
      obtain ⟨j, rfl⟩ : ∃ j', gk = j' + 1 := ⟨gk - 1, by omega⟩
      rw [seek_step, if_pos hle] at hrest
      have q2 : IntKind.i64.wrap (p0 + m) = p0 + m := wrap_in (by omega) (by omega)
      have START := Lib.hid (And.intro MI.out hrest)
      clear hrest MI
      go_wp2_with fail
      go_loopg [10, 11, 12] m.toNat (fun g2 v10 v11 v12 wr => ∃ (i : Nat) (D' : List KV) (F' : Nat → Prop), v10 = .int .i64 (-1) ∧ v11 = .int .i64 p0 ∧ v12 = .int .i64 (p0 + (i : Int)) ∧ i + g2 = m.toNat ∧ MidV w1 wr F (fun _ => False) p kn n D' F' ∧ bindP (escanN fP g2 (p0 + (i : Int))) (fun r => match r with | none => pureP p0 | some q => eseekN fP c.pg m step j ((q / step + 1) * step)) kn D' = Rr)
      case atStart => exact ⟨0, D', F', rfl, rfl, by simp, by omega, START.out.1, by simpa using START.out.2⟩
      case round =>
        clear START
        obtain ⟨i, D2, F2, rfl, rfl, rfl, hig, MI, hrest⟩ := hrel
        have MI := Lib.hid MI
        cases gk with
        | zero =>
          have e0 : (p0 + (i : Int) == p0 + m) = true := by simp; omega
          have FIN := Lib.hid (DONE.out p0 _ D2 F2 hrest.symm MI.out)
          clear hrest
          go_wp2_with fail
          try rw [Exit.noGoto_ret]
          go_ret
          exact FIN.out
        | succ g =>
          have e0 : (p0 + (i : Int) == p0 + m) = false := by simp; omega
          have hqw : W64 (p0 + (i : Int)) := by unfold W64; omega
          have q3 : IntKind.i64.wrap (p0 + (i : Int) + 1) = p0 + (i : Int) + 1 := wrap_in (by omega) (by omega)
          rw [scan_step, bindP_assoc] at hrest
          have RI := Lib.hid hrest
          have CL := HF.out _ D2 F2 (p0 + (i : Int)) (TT.out _ _ _ MI.out) (fun k hk => (MI.out.from' k hk).imp id (fun r => Nat.le_trans MM.out.size r)) MI.out.view MI.out.inv hqw
          clear hrest
          go_wp2_with fail
          refine (CL).mono ?_
          intro e w5 he
          rcases MI.out.step (More.refl _) HK.out (HG.out _) he with ⟨a', hE, rfl, hd', ht', _⟩ | ⟨x5, D5, F5, hE, rfl, M5, hq5, _, _⟩
          · exact ⟨rfl, NEED.out a' w5 (RI.out.symm.trans (bindP_need hE)) hd' ht'⟩
          have L5 := Lib.hid (KL.out _ _ _ M5)
          have R5 := Lib.hid ((bindP_ok hE).symm.trans RI.out)
          have M5 := Lib.hid M5
          clear he hE
          cases x5 with
          | true =>
            have R5' := Lib.hid (show bindP (escanN fP g (p0 + (i : Int) + 1)) (fun r => match r with | none => pureP p0 | some q => eseekN fP c.pg m step j ((q / step + 1) * step)) kn D5 = Rr from R5.out)
            clear R5
            go_wp2_with fail
            go_roundg g
            case measure => omega
            case rel => exact ⟨i + 1, D5, F5, rfl, rfl, by go_num, by omega, M5.out, by rw [show p0 + ((i + 1 : Nat) : Int) = p0 + (i : Int) + 1 by omega]; exact R5'.out⟩
          | false =>
            have R5' := Lib.hid (show eseekN fP c.pg m step j (((p0 + (i : Int)) / step + 1) * step) kn D5 = Rr from R5.out)
            clear R5
            obtain ⟨z0, z1, z2, z3⟩ := leap_b (q := p0 + (i : Int)) (step := step) (by omega) (by omega) hs1 hs2
            have e5 : (p0 + (i : Int)).tdiv step = (p0 + (i : Int)) / step := Int.tdiv_eq_ediv_of_nonneg (by omega)
            have e6 : (step == 0) = false := by simp; omega
            generalize hz : (p0 + (i : Int)) / step = z at z0 z1 z2 z3 e5 R5'
            have q5 : IntKind.i64.wrap z = z := wrap_in (by omega) (by omega)
            have q6 : IntKind.i64.wrap (z + 1) = z + 1 := wrap_in (by omega) (by omega)
            have q7 : IntKind.i64.wrap ((z + 1) * step) = (z + 1) * step := wrap_in (by omega) (by omega)
            have Z := Lib.hid (And.intro z2 z3)
            clear hz z2 z3 z0 z1
            go_wp2_with fail
            go_roundg j
            case measure => omega
            case rel => exact ⟨(z + 1) * step, D5, F5, rfl, rfl, by have := Z.out; omega, Z.out.2, by have := Z.out; omega, M5.out, R5'.out⟩
    · have d1 : decide (p0 ≤ c.pg - m) = false := by simp [hle]
      have FIN := Lib.hid (DONE.out (-1) _ D' F' (by
        cases gk with
        | zero => exact hrest.symm
        | succ j => rw [seek_step, if_neg hle] at hrest; exact hrest.symm) MI.out)
      clear hrest
      go_wp2_with fail
      try rw [Exit.noGoto_ret]
      go_ret
      exact FIN.out

set_option maxRecDepth 100000 in
set_option maxHeartbeats 2000000 in
theorem e_free {c : Cfg} (R : c.Ok) {n : Nat} (H : PgIn c.pg c.st n) (F : Nat → Prop) (p : Nat) (kn : Int → Option Int) (D : List KV) (q : Int) (b1 b2 : Nat) (w : World) (hv : ViewAt w F p kn D) (hk : OkK kn) (hD : InvD n D)
    (h1 : w.heap[b1]? = some (.cells #[.pointer (some ⟨p, 0, none⟩)] 39 (0, 0))) (h2 : w.heap[b2]? = some (.cells c.arr 28 (0, 0))) :
    Calls Tryz.prog 39 #[.int .i64 q, .pointer (some ⟨b1, 0, none⟩), .pointer (some ⟨b2, 0, none⟩)] w (WentV w F p kn (fun b => .bool b) (efreeP c.pg c.st q kn D)) := by
  have KD := e_Kind R H F p kn D q w hv hk hD
  have c1 := (box_cells h1).1
  have L0 := Lib.hid h2
  clear h1 h2
  go_enter Tryz.func39, Tryz.ntmps39
  go_wp2_with (first | (refine wpList_load_row rfl 28 _ rfl _ rfl 28 _ _ _ L0.out Tryz.underlying28 rfl (by kernel_rfl) ?_) | (refine wpList_load_rowG rfl 28 _ rfl _ rfl 28 _ _ _ L0.out Tryz.underlying28 rfl (by kernel_rfl) ?_))
  refine KD.mono ?_
  intro e w1 he
  rcases went_cases he with ⟨a, hR, rfl⟩ | ⟨x, D', hR, rfl⟩
  · have := WentV.mapN (val' := fun b : Bool => Value.bool b) (fun k : Int => decide (k = 0)) hR he
    rw [mapR_eq] at this
    exact ⟨rfl, this⟩
  · have FIN := WentV.map (val' := fun b : Bool => Value.bool b) (fun k : Int => decide (k = 0)) hR he
    rw [mapR_eq] at FIN
    have FIN := Lib.hid FIN
    have e1 : (x == 0) = decide (x = 0) := by by_cases z : x = 0 <;> simp [z]
    clear he KD hv hD hR
    go_wp2_with fail
    go_ret
    exact FIN.out

set_option maxRecDepth 100000 in
set_option maxHeartbeats 2000000 in
theorem e_open {c : Cfg} (R : c.Ok) {n : Nat} (H : PgIn c.pg c.st n) (F : Nat → Prop) (p : Nat) (kn : Int → Option Int) (D : List KV) (q : Int) (hq : W64 q) (b1 b2 b3 : Nat) (w : World) (hv : ViewAt w F p kn D) (hk : OkK kn) (hD : InvD n D)
    (h1 : w.heap[b1]? = some (.cells #[.pointer (some ⟨p, 0, none⟩)] 39 (0, 0))) (h2 : w.heap[b2]? = some (.cells c.arr 28 (0, 0)))
    (h3 : w.heap[b3]? = some (.cells #[.func (.func 39) #[] #[.pointer (some ⟨b1, 0, none⟩), .pointer (some ⟨b2, 0, none⟩)]] 72 (0, 0))) (n1 : ¬ F b1) (n2 : ¬ F b2) (n3 : ¬ F b3) :
    Calls Tryz.prog 40 #[.int .i64 q, .pointer (some ⟨b1, 0, none⟩), .pointer (some ⟨b2, 0, none⟩), .pointer (some ⟨b3, 0, none⟩)] w (WentV w F p kn (fun b => .bool b) (eopenP c.pg c.st q kn D)) := by
  obtain ⟨Rr, hRr⟩ : ∃ Rr, eopenP c.pg c.st q kn D = Rr := ⟨_, rfl⟩
  rw [hRr]
  unfold eopenP at hRr
  have HRr := Lib.hid hRr
  have l1 := lt_of_heap h1
  have l2 := lt_of_heap h2
  have l3 := lt_of_heap h3
  have H1 := Lib.hid h1
  have H2 := Lib.hid h2
  have H3 := Lib.hid h3
  have c1 := (box_cells h1).1
  have HR := Lib.hid R
  have HH := Lib.hid H
  have HK := Lib.hid hk
  have M0 : Hid (MidV w w F (fun _ => False) p kn n D F) := Lib.hid (MidV.begin hv hD)
  clear h1 h2 h3 hRr R H hk hv hD
  have NEED : Hid (∀ a w2, Rr = .need a → DeadAt w2 p a → Turned (fun b => F b ∨ False) w w2 → WentV w F p kn (fun b : Bool => Value.bool b) Rr (.panicked (endOf p)) w2) := Lib.hid fun a w2 e hd ht => mid_need (More.refl w) (fun _ q => q.elim) e hd ht
  have DONE : Hid (∀ x w2 D' F', Rr = .ok x D' → MidV w w2 F (fun _ => False) p kn n D' F' → WentV w F p kn (fun b : Bool => Value.bool b) Rr (.returned (.bool x)) w2) := Lib.hid fun x w2 D' F' e h => mid_done (More.refl w) (fun _ q => q.elim) h e
  go_enter Tryz.func40, Tryz.ntmps40
  go_wp2_with fail
  refine wp_region_more_head 4 #[true, true, true, true, false, false, false, false, false, false, false] (by kernel_rfl) (by kernel_rfl) ?_
  simp only [List.take_succ_cons, List.take_zero]
  iterate 1
    with_reducible refine wpQuiet_step (fun K hK => ?_)
    go_simp
    first
    | (refine hK _ ?_; clear hK K)
    | (apply Exists.intro
       refine ⟨fun W hW => ?_, hK _ ?_⟩
       first
       | (have c1' := hW.cell c1; go_simp; try rfl)
       clear hK K)
  refine wpQuiet_load_row rfl 28 _ rfl _ rfl 28 _ _ _ (fun W hW => hW.block H2.out) Tryz.underlying28 rfl (by kernel_rfl) ?_
  iterate 1
    with_reducible refine wpQuiet_step (fun K hK => ?_)
    go_simp
    first
    | (refine hK _ ?_; clear hK K)
    | (apply Exists.intro
       refine ⟨fun W hW => ?_, hK _ ?_⟩
       first
       | (go_simp; try rfl)
       clear hK K)
  iterate 1
    with_reducible refine wpQuiet_step (fun K hK => ?_)
    go_simp
    first
    | (refine hK _ ?_; clear hK K)
    | (apply Exists.intro
       refine ⟨fun W hW => ?_, hK _ ?_⟩
       first
       | (go_at_call 42; exact (c_of q hq.1 hq.2 W).mono (fun e w'' h => ⟨h.1, by rw [h.2]; exact hW⟩))
       clear hK K)
  refine wpQuiet_nil ?_
  intro w2 m2
  have M2 := Lib.hid (M0.out.more m2)
  clear m2
  refine wpAny_ready (rs := [4]) (by kernel_rfl) (by simp) ?_
  refine AllReady.cons rfl (fun K hK => ?_) AllReady.nil
  rw [if_pos (by kernel_rfl)]
  refine wp_call3 (v0 := .pointer (some ⟨p, 0, none⟩)) (v1 := .agg c.arr) (v2 := .int .i64 (ofV q)) rfl rfl rfl rfl (enters_of Tryz.func41 (by kernel_rfl) rfl) ?_
  refine (c_Mapped HR.out F p kn D (ofV q) w2 M2.out.view).mono ?_
  intro e w3 he
  rcases M2.out.step (More.refl _) HK.out (good_mapped HH.out.toTblIn _) he with ⟨a', hE, rfl, hd', ht', _⟩ | ⟨x3, D3, F3, hE, rfl, M3, hq3, _, _⟩
  · exact ⟨rfl, NEED.out a' w3 (HRr.out.symm.trans (bindP_need hE)) hd' ht'⟩
  have R3 := Lib.hid ((bindP_ok hE).symm.trans HRr.out)
  have M3 := Lib.hid M3
  clear he hE
  refine hK _ _ ?_
  clear hK K
  cases x3 with
  | false =>
    have FIN := Lib.hid (DONE.out false w3 D3 F3 R3.out.symm M3.out)
    clear R3
    refine wpAny_take (i := 5) (v := .bool false) rfl (by kernel_rfl) (by kernel_rfl) (by kernel_rfl) (fun _ _ _ h => h) (Or.inl ⟨by rfl, fun W => by go_simp⟩) ?_
    refine wpAny_take (i := 6) (v := undef) rfl (by kernel_rfl) (by kernel_rfl) (by kernel_rfl) (fun _ _ _ h => h) (Or.inr ⟨by rfl, rfl⟩) ?_
    refine wpAny_take (i := 7) (v := undef) rfl (by kernel_rfl) (by kernel_rfl) (by kernel_rfl) (fun _ _ _ h => h) (Or.inr ⟨by rfl, rfl⟩) ?_
    refine wpAny_take (i := 8) (v := undef) rfl (by kernel_rfl) (by kernel_rfl) (by kernel_rfl) (fun _ _ _ h => h) (Or.inr ⟨by rfl, rfl⟩) ?_
    refine wpAny_take (i := 9) (v := .bool false) rfl (by kernel_rfl) (by kernel_rfl) (by kernel_rfl) (fun _ _ _ h => h) (Or.inl ⟨by rfl, fun W => by go_simp⟩) ?_
    refine wpAny_take (i := 10) (v := .bool false) rfl (by kernel_rfl) (by kernel_rfl) (by kernel_rfl) (fun _ _ _ h => h) (Or.inl ⟨by rfl, fun W => by go_simp⟩) ?_
    refine wpAny_done (by kernel_rfl) ?_ _
    go_wp2_with fail
    go_ret
    exact FIN.out
  | true =>
    have R3' := Lib.hid (show efreeP c.pg c.st q kn D3 = Rr from R3.out)
    have h1 := mid_own M3.out H1.out n1 (fun r => r)
    have h2 := mid_own M3.out H2.out n2 (fun r => r)
    have h3 := mid_own M3.out H3.out n3 (fun r => r)
    have FR := Lib.hid (e_free HR.out HH.out F3 p kn D3 q b1 b2 w3 M3.out.view HK.out M3.out.inv h1 h2)
    have c3 := (box_cells h3).1
    clear R3 h1 h2 h3 c1
    refine wpAny_take (i := 5) (v := .bool true) rfl (by kernel_rfl) (by kernel_rfl) (by kernel_rfl) (fun _ _ _ h => h) (Or.inl ⟨by rfl, fun W => by go_simp⟩) ?_
    refine wpAny_take (i := 7) (v := .int .i64 q) rfl (by kernel_rfl) (by kernel_rfl) (by kernel_rfl) (fun _ _ _ h => h) (Or.inl ⟨by rfl, fun W => by go_simp⟩) ?_
    refine wpAny_ready (rs := [6]) (by kernel_rfl) (by simp) ?_
    refine AllReady.cons rfl (fun K hK => ?_) AllReady.nil
    rw [if_pos (by kernel_rfl)]
    go_simp
    refine hK _ _ ?_
    clear hK K
    refine wpAny_ready (rs := [8]) (by kernel_rfl) (by simp) ?_
    refine AllReady.cons rfl (fun K hK => ?_) AllReady.nil
    rw [if_pos (by kernel_rfl)]
    refine wp_callv1 (x0 := .tmp 13) (v0 := .int .i64 q) rfl rfl rfl (enters_of Tryz.func39 (by kernel_rfl) rfl) ?_
    refine FR.out.mono ?_
    intro e w4 he
    rcases M3.out.step (More.refl _) HK.out (good_free HH.out q) he with ⟨a', hE, rfl, hd', ht', _⟩ | ⟨x4, D4, F4, hE, rfl, M4, hq4, _, _⟩
    · exact ⟨rfl, NEED.out a' w4 (R3'.out.symm.trans hE) hd' ht'⟩
    have FIN := Lib.hid (DONE.out x4 w4 D4 F4 (R3'.out.symm.trans hE) M4)
    clear he hE M4
    refine hK _ _ ?_
    clear hK K
    refine wpAny_take (i := 9) (v := .bool x4) rfl (by kernel_rfl) (by kernel_rfl) (by kernel_rfl) (fun _ _ _ h => h) (Or.inl ⟨by rfl, fun W => by go_simp⟩) ?_
    refine wpAny_take (i := 10) (v := .bool x4) rfl (by kernel_rfl) (by kernel_rfl) (by kernel_rfl) (fun _ _ _ h => h) (Or.inl ⟨by rfl, fun W => by go_simp⟩) ?_
    refine wpAny_done (by kernel_rfl) ?_ _
    go_wp2_with fail
    go_ret
    exact FIN.out
end Go.Proofs.YtogfikemodaepaaGreat
