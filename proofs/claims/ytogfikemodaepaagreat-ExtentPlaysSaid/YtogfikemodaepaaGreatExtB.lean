/-
  The landed package extent: Take, Drop, First, Used, Trim.
-/
import Derived.Test.YtogfikemodaepaaGreatExtA
import Derived.Test.YtogfikemodaepaaGreatReg
namespace Go.Proofs.YtogfikemodaepaaGreat
open Go.RowKit Go.Sort Go.Maps Go.Shelf
set_option linter.unusedVariables false
set_option linter.unusedSimpArgs false

theorem neq_of (x y : Int) : (x != y) = !decide (x = y) := by by_cases q : x = y <;> simp [q]
theorem vac_len {pg st : Int} {m : Nat} {q : Int} : evacN pg st (m + 1) q = bindP (ekindP pg st q) (fun k => if k = 0 then evacN pg st m (q + 1) else pureP false) := rfl

set_option maxRecDepth 100000 in
set_option maxHeartbeats 2000000 in
theorem e_vacant {c : Cfg} (R : c.Ok) {n : Nat} (H : PgIn c.pg c.st n) (F : Nat → Prop) (p : Nat) (kn : Int → Option Int) (D : List KV) (q m : Int) (hq : W64 q) (w : World) (hv : ViewAt w F p kn D) (hk : OkK kn) (hD : InvD n D) :
    Calls Tryz.prog 45 #[.pointer (some ⟨p, 0, none⟩), .agg c.arr, .int .i64 q, .int .i64 m] w (WentV w F p kn (fun b => .bool b) (evacP c.pg c.st q m kn D)) := by
  obtain ⟨Rr, hRr⟩ : ∃ Rr, evacP c.pg c.st q m kn D = Rr := ⟨_, rfl⟩
  rw [hRr]
  obtain ⟨w1, e1, hl1, m1, s1⟩ := entry1 w (.cells c.arr 28)
  have nFl : ¬ F w.heap.size := fun q => by have := hv.lt _ q; omega
  have MM := Lib.hid m1
  have L0 := Lib.hid hl1
  have M0 : Hid (MidV w1 w1 F (fun _ => False) p kn n D F) := Lib.hid (MidV.begin (hv.more m1) hD)
  have KL : Hid (∀ wr D' F', MidV w1 wr F (fun _ => False) p kn n D' F' → wr.heap[w.heap.size]? = some (.cells c.arr 28 (0, 0))) := Lib.hid fun wr D' F' h => mid_own h L0.out nFl (fun q => q)
  have NEED : Hid (∀ a w2, Rr = .need a → DeadAt w2 p a → Turned (fun b => F b ∨ False) w1 w2 → WentV w F p kn (fun b : Bool => Value.bool b) Rr (.panicked (endOf p)) w2) := Lib.hid fun a w2 e hd ht => mid_need MM.out (fun _ q => q.elim) e hd ht
  have DONE : Hid (∀ x w2 D' F', Rr = .ok x D' → MidV w1 w2 F (fun _ => False) p kn n D' F' → WentV w F p kn (fun b : Bool => Value.bool b) Rr (.returned ((fun b : Bool => Value.bool b) x)) w2) := Lib.hid fun x w2 D' F' e h => mid_done MM.out (fun _ q => q.elim) h e
  have HK := Lib.hid hk
  have HR := Lib.hid R
  have HH := Lib.hid H
  clear hl1 m1 hv hD hk R H nFl
  have hfl := field_pages c
  unfold evacP at hRr
  have pg1 := HR.out.pg1
  have pg2 := HR.out.pg2
  unfold W64 at hq
  by_cases a0 : q < 0
  · have d0 : decide (q < 0) = true := by simp [a0]
    have hth : thereB c.pg q m = false := by unfold thereB; simp; omega
    rw [hth] at hRr
    have FIN := Lib.hid (DONE.out false w1 D F hRr.symm M0.out)
    clear hRr
    go_enter Tryz.func45, Tryz.ntmps45
    go_wp2_with fail
    go_ret
    exact FIN.out
  have d0 : decide (q < 0) = false := by simp; omega
  by_cases a1 : m < 1
  · have d1 : decide (m < 1) = true := by simp [a1]
    have hth : thereB c.pg q m = false := by unfold thereB; simp; omega
    rw [hth] at hRr
    have FIN := Lib.hid (DONE.out false w1 D F hRr.symm M0.out)
    clear hRr
    go_enter Tryz.func45, Tryz.ntmps45
    go_wp2_with fail
    go_ret
    exact FIN.out
  have d1 : decide (m < 1) = false := by simp; omega
  have q1 : IntKind.i64.wrap (c.pg - q) = c.pg - q := wrap_in (by omega) (by omega)
  by_cases a2 : c.pg - q < m
  · have d2 : decide (c.pg - q < m) = true := by simp [a2]
    have hth : thereB c.pg q m = false := by unfold thereB; simp; omega
    rw [hth] at hRr
    have FIN : Hid (∀ w2, More w1 w2 → WentV w F p kn (fun b : Bool => Value.bool b) Rr (.returned (.bool false)) w2) := Lib.hid fun w2 h => DONE.out false w2 D F hRr.symm (M0.out.more h)
    clear hRr
    go_enter Tryz.func45, Tryz.ntmps45
    go_wp2_with (first | (refine wpList_load_row rfl 28 _ rfl _ rfl 28 _ _ _ L0.out Tryz.underlying28 rfl (by kernel_rfl) ?_) | (refine wpList_load_rowG rfl 28 _ rfl _ rfl 28 _ _ _ L0.out Tryz.underlying28 rfl (by kernel_rfl) ?_))
    refine (y_config HR.out _).mono ?_
    rintro e w2 ⟨rfl, h2⟩
    have H2 := Lib.hid h2
    clear h2
    go_wp2_with fail
    go_ret
    exact FIN.out _ H2.out
  have d2 : decide (c.pg - q < m) = false := by simp; omega
  have hth : thereB c.pg q m = true := there_iff.2 ⟨by omega, by omega, by omega⟩
  rw [hth, if_pos rfl] at hRr
  have HRr := Lib.hid hRr
  have q2 : IntKind.i64.wrap (q + m) = q + m := wrap_in (by omega) (by omega)
  clear hRr
  go_enter Tryz.func45, Tryz.ntmps45
  go_wp2_with (first | (refine wpList_load_row rfl 28 _ rfl _ rfl 28 _ _ _ L0.out Tryz.underlying28 rfl (by kernel_rfl) ?_) | (refine wpList_load_rowG rfl 28 _ rfl _ rfl 28 _ _ _ L0.out Tryz.underlying28 rfl (by kernel_rfl) ?_))
  refine (y_config HR.out _).mono ?_
  rintro e w2 ⟨rfl, h2⟩
  have START := Lib.hid (And.intro (M0.out.more h2) HRr.out)
  clear h2 HRr
  go_wp2_with fail
  go_loopw [9] (fun v9 wr => ∃ (i : Nat) (D' : List KV) (F' : Nat → Prop), v9 = .int .i64 (q + (i : Int)) ∧ (i : Int) ≤ m ∧ MidV w1 wr F (fun _ => False) p kn n D' F' ∧ evacN c.pg c.st (m.toNat - i) (q + (i : Int)) kn D' = Rr) (fun v9 _ => (q + m - intOf v9).toNat)
  case atStart => exact ⟨0, D, F, by simp, by omega, START.out.1, by simpa using START.out.2⟩
  case round =>
    clear START
    obtain ⟨i, D', F', rfl, hi, MI, hrest⟩ := hrel
    have MI := Lib.hid MI
    have LI := Lib.hid (KL.out _ _ _ MI.out)
    by_cases hlt : (i : Int) < m
    · have d3 : decide (q + (i : Int) < q + m) = true := by simp; omega
      have q3 : IntKind.i64.wrap (q + (i : Int) + 1) = q + (i : Int) + 1 := wrap_in (by omega) (by omega)
      rw [show m.toNat - i = (m.toNat - (i + 1)) + 1 by omega, vac_len] at hrest
      have RI := Lib.hid hrest
      clear hrest
      go_wp2_with (first | (refine wpList_load_row rfl 28 _ rfl _ rfl 28 _ _ _ LI.out Tryz.underlying28 rfl (by kernel_rfl) ?_) | (refine wpList_load_rowG rfl 28 _ rfl _ rfl 28 _ _ _ LI.out Tryz.underlying28 rfl (by kernel_rfl) ?_))
      refine (e_Kind HR.out HH.out F' p kn D' (q + (i : Int)) wr MI.out.view HK.out MI.out.inv).mono ?_
      intro e w4 he
      rcases MI.out.step (More.refl _) HK.out (good_kind HH.out _) he with ⟨a', hE, rfl, hd', ht', _⟩ | ⟨x4, D4, F4, hE, rfl, M4, hq4, _, _⟩
      · exact ⟨rfl, NEED.out a' w4 (RI.out.symm.trans (bindP_need hE)) hd' ht'⟩
      have L4 := Lib.hid (KL.out _ _ _ M4)
      have R4 := Lib.hid ((bindP_ok hE).symm.trans RI.out)
      have M4 := Lib.hid M4
      clear he hE
      have b1 := neq_of x4 0
      by_cases z : x4 = 0
      · rw [show decide (x4 = 0) = true by simp [z]] at b1
        have NX := Lib.hid (show evacN c.pg c.st (m.toNat - (i + 1)) (q + (i : Int) + 1) kn D4 = Rr from by have := R4.out; rwa [if_pos z] at this)
        clear R4 z
        go_wp2_with fail
        go_roundw
        case rel => exact ⟨i + 1, D4, F4, by go_num, by omega, M4.out, by rw [show q + ((i + 1 : Nat) : Int) = q + (i : Int) + 1 by omega]; exact NX.out⟩
        case measure => simp [intOf]; omega
      · rw [show decide (x4 = 0) = false by simp [z]] at b1
        have FIN := Lib.hid (DONE.out false w4 D4 F4 (by have := R4.out; rw [if_neg z] at this; exact this.symm) M4.out)
        clear R4 z
        go_wp2_with fail
        go_ret
        exact FIN.out
    · obtain rfl : (i : Int) = m := by omega
      have d3 : decide (q + (i : Int) < q + (i : Int)) = false := by simp
      have FIN := Lib.hid (DONE.out true wr D' F' (by rw [show ((i : Int).toNat - i) = 0 by omega] at hrest; exact hrest.symm) MI.out)
      clear hrest
      go_wp2_with fail
      go_ret
      exact FIN.out

set_option maxRecDepth 100000 in
set_option maxHeartbeats 2000000 in
theorem e_Used {c : Cfg} (R : c.Ok) {n : Nat} (H : PgIn c.pg c.st n) (F : Nat → Prop) (p : Nat) (kn : Int → Option Int) (D : List KV) (w : World) (hv : ViewAt w F p kn D) (hk : OkK kn) (hD : InvD n D) :
    Calls Tryz.prog 27 #[.pointer (some ⟨p, 0, none⟩), .agg c.arr] w (WentV w F p kn (fun x => .int .i64 x) (eusedP c.pg c.st kn D)) := by
  obtain ⟨Rr, hRr⟩ : ∃ Rr, eusedP c.pg c.st kn D = Rr := ⟨_, rfl⟩
  rw [hRr]
  obtain ⟨w1, e1, hl1, m1, s1⟩ := entry1 w (.cells c.arr 28)
  have nFl : ¬ F w.heap.size := fun q => by have := hv.lt _ q; omega
  have MM := Lib.hid m1
  have L0 := Lib.hid hl1
  have M0 : Hid (MidV w1 w1 F (fun _ => False) p kn n D F) := Lib.hid (MidV.begin (hv.more m1) hD)
  have KL : Hid (∀ wr D' F', MidV w1 wr F (fun _ => False) p kn n D' F' → wr.heap[w.heap.size]? = some (.cells c.arr 28 (0, 0))) := Lib.hid fun wr D' F' h => mid_own h L0.out nFl (fun q => q)
  have NEED : Hid (∀ a w2, Rr = .need a → DeadAt w2 p a → Turned (fun b => F b ∨ False) w1 w2 → WentV w F p kn (fun x : Int => Value.int .i64 x) Rr (.panicked (endOf p)) w2) := Lib.hid fun a w2 e hd ht => mid_need MM.out (fun _ q => q.elim) e hd ht
  have DONE : Hid (∀ x w2 D' F', Rr = .ok x D' → MidV w1 w2 F (fun _ => False) p kn n D' F' → WentV w F p kn (fun x : Int => Value.int .i64 x) Rr (.returned ((fun x : Int => Value.int .i64 x) x)) w2) := Lib.hid fun x w2 D' F' e h => mid_done MM.out (fun _ q => q.elim) h e
  have HK := Lib.hid hk
  have HR := Lib.hid R
  have HH := Lib.hid H
  clear hl1 m1 hv hD hk R H nFl
  have hfl := field_pages c
  unfold eusedP at hRr
  have pg1 := HR.out.pg1
  have pg2 := HR.out.pg2
  have HRr := Lib.hid hRr
  clear hRr
  go_enter Tryz.func27, Tryz.ntmps27
  go_wp2_with (first | (refine wpList_load_row rfl 28 _ rfl _ rfl 28 _ _ _ L0.out Tryz.underlying28 rfl (by kernel_rfl) ?_) | (refine wpList_load_rowG rfl 28 _ rfl _ rfl 28 _ _ _ L0.out Tryz.underlying28 rfl (by kernel_rfl) ?_))
  refine (y_config HR.out _).mono ?_
  rintro e w2 ⟨rfl, h2⟩
  have START := Lib.hid (And.intro (M0.out.more h2) HRr.out)
  clear h2 HRr
  go_wp2_with fail
  go_loopw [5, 10] (fun v5 v10 wr => ∃ (i : Nat) (s : Int) (D' : List KV) (F' : Nat → Prop), v5 = .int .i64 s ∧ v10 = .int .i64 (i : Int) ∧ (i : Int) ≤ c.pg ∧ 0 ≤ s ∧ s ≤ (i : Int) ∧ MidV w1 wr F (fun _ => False) p kn n D' F' ∧ eusedN c.pg c.st (c.pg.toNat - i) (i : Int) s kn D' = Rr) (fun _ v10 _ => (c.pg - intOf v10).toNat)
  case atStart => exact ⟨0, 0, D, F, rfl, rfl, by omega, by omega, by omega, START.out.1, by simpa using START.out.2⟩
  case round =>
    clear START
    obtain ⟨i, s, D', F', rfl, rfl, hi, s0, s1, MI, hrest⟩ := hrel
    have MI := Lib.hid MI
    have LI := Lib.hid (KL.out _ _ _ MI.out)
    by_cases hlt : (i : Int) < c.pg
    · have d3 : decide ((i : Int) < c.pg) = true := by simp; omega
      have q3 : IntKind.i64.wrap ((i : Int) + 1) = (i : Int) + 1 := wrap_in (by omega) (by omega)
      have q4 : IntKind.i64.wrap (s + 1) = s + 1 := wrap_in (by omega) (by omega)
      rw [show c.pg.toNat - i = (c.pg.toNat - (i + 1)) + 1 by omega] at hrest
      have RI := Lib.hid (show bindP (ekindP c.pg c.st (i : Int)) (fun k => eusedN c.pg c.st (c.pg.toNat - (i + 1)) ((i : Int) + 1) (s + if k = 0 then 0 else 1)) kn D' = Rr from hrest)
      clear hrest
      go_wp2_with (first | (refine wpList_load_row rfl 28 _ rfl _ rfl 28 _ _ _ LI.out Tryz.underlying28 rfl (by kernel_rfl) ?_) | (refine wpList_load_rowG rfl 28 _ rfl _ rfl 28 _ _ _ LI.out Tryz.underlying28 rfl (by kernel_rfl) ?_))
      refine (e_Kind HR.out HH.out F' p kn D' (i : Int) wr MI.out.view HK.out MI.out.inv).mono ?_
      intro e w4 he
      rcases MI.out.step (More.refl _) HK.out (good_kind HH.out _) he with ⟨a', hE, rfl, hd', ht', _⟩ | ⟨x4, D4, F4, hE, rfl, M4, hq4, _, _⟩
      · exact ⟨rfl, NEED.out a' w4 (RI.out.symm.trans (bindP_need hE)) hd' ht'⟩
      have L4 := Lib.hid (KL.out _ _ _ M4)
      have R4 := Lib.hid ((bindP_ok hE).symm.trans RI.out)
      have M4 := Lib.hid M4
      clear he hE
      have b1 := neq_of x4 0
      by_cases z : x4 = 0
      · rw [show decide (x4 = 0) = true by simp [z]] at b1
        have NX := Lib.hid (show eusedN c.pg c.st (c.pg.toNat - (i + 1)) ((i : Int) + 1) s kn D4 = Rr from by have := R4.out; rwa [if_pos z, Int.add_zero] at this)
        clear R4 z
        go_wp2_with fail
        go_roundw
        case rel => exact ⟨i + 1, s, D4, F4, rfl, by go_num, by omega, s0, by omega, M4.out, by rw [show ((i + 1 : Nat) : Int) = (i : Int) + 1 by omega]; exact NX.out⟩
        case measure => simp [intOf]; omega
      · rw [show decide (x4 = 0) = false by simp [z]] at b1
        have NX := Lib.hid (show eusedN c.pg c.st (c.pg.toNat - (i + 1)) ((i : Int) + 1) (s + 1) kn D4 = Rr from by have := R4.out; rwa [if_neg z] at this)
        clear R4 z
        go_wp2_with fail
        go_roundw
        case rel => exact ⟨i + 1, s + 1, D4, F4, rfl, by go_num, by omega, by omega, by omega, M4.out, by rw [show ((i + 1 : Nat) : Int) = (i : Int) + 1 by omega]; exact NX.out⟩
        case measure => simp [intOf]; omega
    · have hie : (i : Int) = c.pg := by omega
      have d3 : decide ((i : Int) < c.pg) = false := by simp; omega
      have FIN := Lib.hid (DONE.out s wr D' F' (by rw [show c.pg.toNat - i = 0 by omega] at hrest; exact hrest.symm) MI.out)
      clear hrest
      go_wp2_with fail
      go_ret
      exact FIN.out

theorem good_kind2 {pg st : Int} {n : Nat} (H : PgIn pg st n) (p : Int) : Good n (fun k : Int => isPage pg p = false → k = -1) (ekindP pg st p) :=
  good_ite (fun h => good_imp (good_read n (page_b H h).1.2.1) (fun _ _ q => by rw [h] at q; cases q)) (fun _ => good_pure n (fun _ => rfl))
set_option maxRecDepth 100000 in
set_option maxHeartbeats 2000000 in
theorem e_length {c : Cfg} (R : c.Ok) {n : Nat} (H : PgIn c.pg c.st n) (F : Nat → Prop) (p : Nat) (kn : Int → Option Int) (D : List KV) (q : Int) (w : World) (hv : ViewAt w F p kn D) (hk : OkK kn) (hD : InvD n D) :
    Calls Tryz.prog 53 #[.pointer (some ⟨p, 0, none⟩), .agg c.arr, .int .i64 q] w (WentV w F p kn (fun x => .int .i64 x) (elenP c.pg c.st q kn D)) := by
  obtain ⟨Rr, hRr⟩ : ∃ Rr, elenP c.pg c.st q kn D = Rr := ⟨_, rfl⟩
  rw [hRr]
  obtain ⟨w1, e1, hl1, m1, s1⟩ := entry1 w (.cells c.arr 28)
  have nFl : ¬ F w.heap.size := fun q => by have := hv.lt _ q; omega
  have MM := Lib.hid m1
  have L0 := Lib.hid hl1
  have M0 : Hid (MidV w1 w1 F (fun _ => False) p kn n D F) := Lib.hid (MidV.begin (hv.more m1) hD)
  have KL : Hid (∀ wr D' F', MidV w1 wr F (fun _ => False) p kn n D' F' → wr.heap[w.heap.size]? = some (.cells c.arr 28 (0, 0))) := Lib.hid fun wr D' F' h => mid_own h L0.out nFl (fun q => q)
  have NEED : Hid (∀ a w2, Rr = .need a → DeadAt w2 p a → Turned (fun b => F b ∨ False) w1 w2 → WentV w F p kn (fun x : Int => Value.int .i64 x) Rr (.panicked (endOf p)) w2) := Lib.hid fun a w2 e hd ht => mid_need MM.out (fun _ q => q.elim) e hd ht
  have DONE : Hid (∀ x w2 D' F', Rr = .ok x D' → MidV w1 w2 F (fun _ => False) p kn n D' F' → WentV w F p kn (fun x : Int => Value.int .i64 x) Rr (.returned ((fun x : Int => Value.int .i64 x) x)) w2) := Lib.hid fun x w2 D' F' e h => mid_done MM.out (fun _ q => q.elim) h e
  have HK := Lib.hid hk
  have HR := Lib.hid R
  have HH := Lib.hid H
  clear hl1 m1 hv hD hk R H nFl
  have hfl := field_pages c
  unfold elenP at hRr
  have pg1 := HR.out.pg1
  have pg2 := HR.out.pg2
  have HRr := Lib.hid hRr
  clear hRr
  go_enter Tryz.func53, Tryz.ntmps53
  go_wp2_with (first | (refine wpList_load_row rfl 28 _ rfl _ rfl 28 _ _ _ L0.out Tryz.underlying28 rfl (by kernel_rfl) ?_) | (refine wpList_load_rowG rfl 28 _ rfl _ rfl 28 _ _ _ L0.out Tryz.underlying28 rfl (by kernel_rfl) ?_))
  refine (e_Kind HR.out HH.out F p kn D q w1 M0.out.view HK.out M0.out.inv).mono ?_
  intro e w2 he
  rcases M0.out.step (More.refl _) HK.out (good_kind2 HH.out _) he with ⟨a', hE, rfl, hd', ht', _⟩ | ⟨x2, D2, F2, hE, rfl, M2, hq2, _, _⟩
  · exact ⟨rfl, NEED.out a' w2 (HRr.out.symm.trans (bindP_need hE)) hd' ht'⟩
  have L2 := Lib.hid (KL.out _ _ _ M2)
  have R2 := Lib.hid ((bindP_ok hE).symm.trans HRr.out)
  have M2 := Lib.hid M2
  clear he hE
  go_wp2_with fail
  refine (e_classes x2 _).mono ?_
  rintro e w3 ⟨rfl, h3⟩
  have M3 := Lib.hid (M2.out.more h3)
  have L3 := Lib.hid (KL.out _ _ _ M3.out)
  clear h3
  have R3 := R2.out
  cases hc : clsB x2 with
  | true =>
    rw [if_pos hc] at R3
    have FIN := Lib.hid (DONE.out 1 w3 D2 F2 R3.symm M3.out)
    clear R3 R2
    go_wp2_with fail
    go_ret
    exact FIN.out
  | false =>
    rw [if_neg (by simp [hc])] at R3
    by_cases h6 : x2 = 6
    · rw [if_pos h6] at R3
      have b6 : (x2 == 6) = true := by simp [h6]
      have hpg : isPage c.pg q = true := by
        cases hp : isPage c.pg q with
        | true => rfl
        | false => have := hq2 hp; omega
      obtain ⟨_, ⟨_, _, hw64⟩, _⟩ := page_b HH.out hpg
      have hpi := isPage_iff.1 hpg
      have qs : IntKind.i64.wrap (c.pg - q) = c.pg - q := wrap_in (by omega) (by omega)
      cases hN : wordV kn D2 (cA c.pg c.st q) with
      | none =>
        have DIE : Hid (∀ W, DeadAt W p (cA c.pg c.st q) → Turned (fun b => F b ∨ False) w1 W → WentV w F p kn (fun x : Int => Value.int .i64 x) Rr (.panicked (endOf p)) W) := Lib.hid fun W hd ht => NEED.out _ W (R3.symm.trans (bindP_need (readP_none hN))) hd ht
        clear R3 R2
        go_wp2_with fail
        refine wp_region_any (by kernel_rfl) ?_
        have MZ := Lib.hid (M3.out.more ((More.refl w3).drewN 1))
        have LZ := Lib.hid (KL.out _ _ _ MZ.out)
        change wpAny _ _ _ _ _ _ _ (w3.drewN 1)
        generalize w3.drewN 1 = w4 at MZ LZ ⊢
        refine wpAny_take (i := 0) (v := .pointer (some ⟨p, 0, none⟩)) rfl (by kernel_rfl) (by kernel_rfl) (by kernel_rfl) (fun _ _ _ h => h) (Or.inl ⟨by rfl, fun W => by go_simp⟩) ?_
        refine wpAny_take (i := 2) (v := .int .i64 q) rfl (by kernel_rfl) (by kernel_rfl) (by kernel_rfl) (fun _ _ _ h => h) (Or.inl ⟨by rfl, fun W => by go_simp⟩) ?_
        refine wpAny_take (i := 8) (v := .int .i64 q) rfl (by kernel_rfl) (by kernel_rfl) (by kernel_rfl) (fun _ _ _ h => h) (Or.inl ⟨by rfl, fun W => by go_simp⟩) ?_
        refine any_start (fun W => WentV w F p kn (fun x : Int => Value.int .i64 x) Rr (.panicked (endOf p)) W) (endOf p) (fun a W hd h => ⟨hd, h⟩) ?_
        intro QQ FIN
        refine frame_g 30 [(18, .pointer (some ⟨p, 0, none⟩)), (20, .int .i64 q), (4, .pointer (some ⟨w.heap.size, 0, none⟩))] ⟨⟨Nat.le_of_ble_eq_true rfl, rfl⟩, ?_⟩ (fun A HF => ?_)
        · intro z hz; simp only [List.mem_cons, List.not_mem_nil, or_false] at hz; rcases hz with rfl | rfl | rfl <;> rfl
        refine wpAny_ready (rs := [1, 5]) (by kernel_rfl) (by simp) ?_
        refine ready_step (some 19) rfl rfl rfl (fun K hK => ?_) ?_
        · refine wp_load_row 28 _ rfl w.heap.size (HF.get 2 rfl) 28 _ _ _ LZ.out Tryz.underlying28 rfl (by kernel_rfl) ?_
          refine hK _ _ ?_; clear hK K
          have HF := HF.put 19 (.agg c.arr) (by decide) rfl
          generalize Act.put _ _ _ = A at HF ⊢
          refine wpAny_ready (rs := [3, 5]) (by kernel_rfl) (by simp) ?_
          refine ready_step (some 21) rfl rfl rfl (fun K hK => ?_) ?_
          · refine wp_call2 (v0 := .agg c.arr) (v1 := .int .i64 q) rfl (HF.get 0 rfl) (HF.get 2 rfl) (enters_of Tryz.func76 (by kernel_rfl) rfl) ?_
            refine (y_count HR.out _ q).mono ?_
            rintro e W ⟨rfl, h⟩
            have MZ := Lib.hid (MZ.out.more h); have LZ := Lib.hid (h.block LZ.out); clear h
            rw [page1 hpg]
            refine hK _ _ ?_; clear hK K
            have HF := HF.put 21 (.int .i64 (cA c.pg c.st q)) (by decide) rfl
            generalize Act.put _ _ _ = A at HF ⊢
            refine wpAny_ready (rs := [4, 5]) (by kernel_rfl) (by simp) ?_
            refine ready_step (some 22) rfl rfl rfl (fun K hK => ?_) ?_
            · refine wp_call2 (v0 := .pointer (some ⟨p, 0, none⟩)) (v1 := .int .i64 (cA c.pg c.st q)) rfl (HF.get 2 rfl) (HF.get 0 rfl) (enters_of Tryz.func57 (by kernel_rfl) rfl) ?_
              refine (read_need F2 p kn D2 (cA c.pg c.st q) _ MZ.out.view hw64 hN).mono ?_
              rintro e W ⟨rfl, hd, ht⟩
              exact FIN _ _ HF.1.2 (DIE.out W hd (turned_own MZ.out.turn ht (fun k q => (MZ.out.from' k q).imp .inl id)))
            refine ready_step (some 23) rfl rfl rfl (fun K hK => ?_) ?_
            · refine wp_load_row 28 _ rfl w.heap.size (HF.get 4 rfl) 28 _ _ _ LZ.out Tryz.underlying28 rfl (by kernel_rfl) ?_
              refine hK _ _ ?_; clear hK K
              have HF := HF.put 23 (.agg c.arr) (by decide) rfl
              generalize Act.put _ _ _ = A at HF ⊢
              refine wpAny_ready (rs := [4]) (by kernel_rfl) (by simp) ?_
              refine ready_step (some 22) rfl rfl rfl (fun K hK => ?_) ?_
              · refine wp_call2 (v0 := .pointer (some ⟨p, 0, none⟩)) (v1 := .int .i64 (cA c.pg c.st q)) rfl (HF.get 3 rfl) (HF.get 1 rfl) (enters_of Tryz.func57 (by kernel_rfl) rfl) ?_
                refine (read_need F2 p kn D2 (cA c.pg c.st q) _ MZ.out.view hw64 hN).mono ?_
                rintro e W ⟨rfl, hd, ht⟩
                exact FIN _ _ HF.1.2 (DIE.out W hd (turned_own MZ.out.turn ht (fun k q => (MZ.out.from' k q).imp .inl id)))
              exact AllReady.nil
            exact AllReady.nil
          refine ready_step (some 23) rfl rfl rfl (fun K hK => ?_) ?_
          · refine wp_load_row 28 _ rfl w.heap.size (HF.get 3 rfl) 28 _ _ _ LZ.out Tryz.underlying28 rfl (by kernel_rfl) ?_
            refine hK _ _ ?_; clear hK K
            have HF := HF.put 23 (.agg c.arr) (by decide) rfl
            generalize Act.put _ _ _ = A at HF ⊢
            refine wpAny_ready (rs := [3]) (by kernel_rfl) (by simp) ?_
            refine ready_step (some 21) rfl rfl rfl (fun K hK => ?_) ?_
            · refine wp_call2 (v0 := .agg c.arr) (v1 := .int .i64 q) rfl (HF.get 1 rfl) (HF.get 3 rfl) (enters_of Tryz.func76 (by kernel_rfl) rfl) ?_
              refine (y_count HR.out _ q).mono ?_
              rintro e W ⟨rfl, h⟩
              have MZ := Lib.hid (MZ.out.more h); have LZ := Lib.hid (h.block LZ.out); clear h
              rw [page1 hpg]
              refine hK _ _ ?_; clear hK K
              have HF := HF.put 21 (.int .i64 (cA c.pg c.st q)) (by decide) rfl
              generalize Act.put _ _ _ = A at HF ⊢
              refine wpAny_ready (rs := [4]) (by kernel_rfl) (by simp) ?_
              refine ready_step (some 22) rfl rfl rfl (fun K hK => ?_) ?_
              · refine wp_call2 (v0 := .pointer (some ⟨p, 0, none⟩)) (v1 := .int .i64 (cA c.pg c.st q)) rfl (HF.get 3 rfl) (HF.get 0 rfl) (enters_of Tryz.func57 (by kernel_rfl) rfl) ?_
                refine (read_need F2 p kn D2 (cA c.pg c.st q) _ MZ.out.view hw64 hN).mono ?_
                rintro e W ⟨rfl, hd, ht⟩
                exact FIN _ _ HF.1.2 (DIE.out W hd (turned_own MZ.out.turn ht (fun k q => (MZ.out.from' k q).imp .inl id)))
              exact AllReady.nil
            exact AllReady.nil
          exact AllReady.nil
        refine ready_step (some 23) rfl rfl rfl (fun K hK => ?_) ?_
        · refine wp_load_row 28 _ rfl w.heap.size (HF.get 2 rfl) 28 _ _ _ LZ.out Tryz.underlying28 rfl (by kernel_rfl) ?_
          refine hK _ _ ?_; clear hK K
          have HF := HF.put 23 (.agg c.arr) (by decide) rfl
          generalize Act.put _ _ _ = A at HF ⊢
          refine wpAny_ready (rs := [1]) (by kernel_rfl) (by simp) ?_
          refine ready_step (some 19) rfl rfl rfl (fun K hK => ?_) ?_
          · refine wp_load_row 28 _ rfl w.heap.size (HF.get 3 rfl) 28 _ _ _ LZ.out Tryz.underlying28 rfl (by kernel_rfl) ?_
            refine hK _ _ ?_; clear hK K
            have HF := HF.put 19 (.agg c.arr) (by decide) rfl
            generalize Act.put _ _ _ = A at HF ⊢
            refine wpAny_ready (rs := [3]) (by kernel_rfl) (by simp) ?_
            refine ready_step (some 21) rfl rfl rfl (fun K hK => ?_) ?_
            · refine wp_call2 (v0 := .agg c.arr) (v1 := .int .i64 q) rfl (HF.get 0 rfl) (HF.get 3 rfl) (enters_of Tryz.func76 (by kernel_rfl) rfl) ?_
              refine (y_count HR.out _ q).mono ?_
              rintro e W ⟨rfl, h⟩
              have MZ := Lib.hid (MZ.out.more h); have LZ := Lib.hid (h.block LZ.out); clear h
              rw [page1 hpg]
              refine hK _ _ ?_; clear hK K
              have HF := HF.put 21 (.int .i64 (cA c.pg c.st q)) (by decide) rfl
              generalize Act.put _ _ _ = A at HF ⊢
              refine wpAny_ready (rs := [4]) (by kernel_rfl) (by simp) ?_
              refine ready_step (some 22) rfl rfl rfl (fun K hK => ?_) ?_
              · refine wp_call2 (v0 := .pointer (some ⟨p, 0, none⟩)) (v1 := .int .i64 (cA c.pg c.st q)) rfl (HF.get 3 rfl) (HF.get 0 rfl) (enters_of Tryz.func57 (by kernel_rfl) rfl) ?_
                refine (read_need F2 p kn D2 (cA c.pg c.st q) _ MZ.out.view hw64 hN).mono ?_
                rintro e W ⟨rfl, hd, ht⟩
                exact FIN _ _ HF.1.2 (DIE.out W hd (turned_own MZ.out.turn ht (fun k q => (MZ.out.from' k q).imp .inl id)))
              exact AllReady.nil
            exact AllReady.nil
          exact AllReady.nil
        exact AllReady.nil
      | some y =>
        have FIN : Hid (∀ W, More w3 W → WentV w F p kn (fun x : Int => Value.int .i64 x) Rr (.returned (.int .i64 (max 1 (min y (c.pg - q))))) W) := Lib.hid fun W h => DONE.out _ W D2 F2 (R3.symm.trans (bindP_ok (readP_some hN))) (M3.out.more h)
        have RA := Lib.hid (fun W (h : More w3 W) => read_some F2 p kn D2 (cA c.pg c.st q) y W (M3.out.view.more h) hw64 hN)
        clear R3 R2
        go_wp2_with fail
        refine wp_region_more (by kernel_rfl) (by kernel_rfl) ?_
        iterate 1
          with_reducible refine wpQuiet_step (fun K hK => ?_)
          go_simp
          first
          | (refine hK _ ?_; clear hK K)
          | (apply Exists.intro
             refine ⟨fun W hW => ?_, hK _ ?_⟩
             first
             | (go_simp; try rfl)
             clear hK K)
        refine wpQuiet_load_row rfl 28 _ rfl _ rfl 28 _ _ _ (fun W hW => hW.block L3.out) Tryz.underlying28 rfl (by kernel_rfl) ?_
        iterate 1
          with_reducible refine wpQuiet_step (fun K hK => ?_)
          go_simp
          first
          | (refine hK _ ?_; clear hK K)
          | (apply Exists.intro
             refine ⟨fun W hW => ?_, hK _ ?_⟩
             first
             | (go_simp; try rfl)
             clear hK K)
        iterate 1
          with_reducible refine wpQuiet_step (fun K hK => ?_)
          go_simp
          first
          | (refine hK _ ?_; clear hK K)
          | (apply Exists.intro
             refine ⟨fun W hW => ?_, hK _ ?_⟩
             first
             | (go_at_call 76; have := y_count HR.out W q; rw [page1 hpg] at this; exact Calls.more hW this)
             clear hK K)
        iterate 1
          with_reducible refine wpQuiet_step (fun K hK => ?_)
          go_simp
          first
          | (refine hK _ ?_; clear hK K)
          | (apply Exists.intro
             refine ⟨fun W hW => ?_, hK _ ?_⟩
             first
             | (go_at_call 57; exact (RA.out W hW).mono (fun e w'' h => ⟨h.1, by obtain ⟨_, k, rfl⟩ := h; exact hW.drewN k⟩))
             clear hK K)
        refine wpQuiet_load_row rfl 28 _ rfl _ rfl 28 _ _ _ (fun W hW => hW.block L3.out) Tryz.underlying28 rfl (by kernel_rfl) ?_
        iterate 1
          with_reducible refine wpQuiet_step (fun K hK => ?_)
          go_simp
          first
          | (refine hK _ ?_; clear hK K)
          | (apply Exists.intro
             refine ⟨fun W hW => ?_, hK _ ?_⟩
             first
             | (go_at_call 58; exact Calls.more hW (y_config HR.out W))
             clear hK K)
        iterate 6
          with_reducible refine wpQuiet_step (fun K hK => ?_)
          go_simp
          first
          | (refine hK _ ?_; clear hK K)
          | (apply Exists.intro
             refine ⟨fun W hW => ?_, hK _ ?_⟩
             first
             | (go_simp; try rfl)
             clear hK K)
        refine wpQuiet_nil ?_
        intro w4 h4
        have F4 := Lib.hid (FIN.out w4 h4)
        clear h4
        go_wp2_with fail
        go_ret
        exact F4.out
    · rw [if_neg h6] at R3
      have b6 : (x2 == 6) = false := by simp [h6]
      have FIN := Lib.hid (DONE.out 0 w3 D2 F2 R3.symm M3.out)
      clear R3 R2
      go_wp2_with fail
      go_ret
      exact FIN.out
end Go.Proofs.YtogfikemodaepaaGreat
