/-
  The landed package extent: Take and Trim.
-/
import Derived.Test.YtogfikemodaepaaGreatExtC
namespace Go.Proofs.YtogfikemodaepaaGreat
open Go.RowKit Go.Sort Go.Maps Go.Shelf
set_option linter.unusedVariables false
set_option linter.unusedSimpArgs false

theorem good_vac2 {pg st : Int} {n : Nat} (H : PgIn pg st n) (p m : Int) : Good n (fun b : Bool => b = true → thereB pg p m = true) (evacP pg st p m) :=
  good_ite (fun h => good_imp (good_vacN H _ _) (fun _ _ _ => h)) (fun _ => good_pure n (fun h => by cases h))
theorem trimN_step {pg st : Int} {m : Nat} {k s : Int} : etrimN pg st (m + 1) k s = bindP (etrim1 pg st k) (fun x => etrimN pg st m (k + 1) (s + x)) := rfl
theorem turn_map {α : Type} {pg st k x : Int} (f : Bool → Int) (g : Int → Prg α) : bindP (turnP pg st k x) (fun y => bindP (pureP (if 0 < y then f true else f false)) g) = bindP (bindP (turnP pg st k x) (fun y => pureP (decide (0 < y)))) (fun b => g (f b)) := by
  rw [bindP_assoc]
  congr 1
  funext y
  by_cases h : 0 < y <;> simp [h, bindP_pure]
theorem turn_mapW {α : Type} {pg st k x : Int} {f : Bool → Int} {g : Int → Prg α} {kn : Int → Option Int} {D : List KV} {R : Res α} (h : bindP (bindP (turnP pg st k x) (fun y => pureP (if 0 < y then f true else f false))) g kn D = R) : bindP (bindP (turnP pg st k x) (fun y => pureP (decide (0 < y)))) (fun b => g (f b)) kn D = R := by
  rw [← turn_map f g, ← bindP_assoc]; exact h
set_option maxRecDepth 100000 in
set_option maxHeartbeats 2000000 in
theorem e_Take {c : Cfg} (R : c.Ok) {n : Nat} (H : PgIn c.pg c.st n) (hn : n ≤ 10000) (F : Nat → Prop) (p : Nat) (kn : Int → Option Int) (D : List KV) (q m k : Int) (hq : W64 q) (hm : W64 m) (hk6 : W64 k) (w : World) (hv : ViewAt w F p kn D) (hk : OkK kn) (hD : InvD n D) :
    Calls Tryz.prog 16 #[.pointer (some ⟨p, 0, none⟩), .agg c.arr, .int .i64 q, .int .i64 m, .int .i64 k] w (WentV w F p kn (fun b => .bool b) (etakeP c.pg c.st q m k kn D)) := by
  obtain ⟨Rr, hRr⟩ : ∃ Rr, etakeP c.pg c.st q m k kn D = Rr := ⟨_, rfl⟩
  rw [hRr]
  obtain ⟨w1, e1, hl1, m1, s1⟩ := entry1 w (.cells c.arr 28)
  have nFl : ¬ F w.heap.size := fun q => by have := hv.lt _ q; omega
  have MM := Lib.hid m1
  have L0 := Lib.hid hl1
  have M0 : Hid (MidV w1 w1 F (fun _ => False) p kn n D F) := Lib.hid (MidV.begin (hv.more m1) hD)
  have KL : Hid (∀ wr D' F', MidV w1 wr F (fun _ => False) p kn n D' F' → wr.heap[w.heap.size]? = some (.cells c.arr 28 (0, 0))) := Lib.hid fun wr D' F' h => mid_own h L0.out nFl (fun q => q)
  have NEED : Hid (∀ a w2, Rr = .need a → DeadAt w2 p a → Turned (fun b => F b ∨ False) w1 w2 → WentV w F p kn (fun b : Bool => Value.bool b) Rr (.panicked (endOf p)) w2) := Lib.hid fun a w2 e hd ht => mid_need MM.out (fun _ q => q.elim) e hd ht
  have DONE : Hid (∀ x w2 D' F', Rr = .ok x D' → MidV w1 w2 F (fun _ => False) p kn n D' F' → WentV w F p kn (fun b : Bool => Value.bool b) Rr (.returned ((fun b : Bool => Value.bool b) x)) w2) := Lib.hid fun x w2 D' F' e h => mid_done MM.out (fun _ q => q.elim) h e
  have HK := Lib.hid hk
  have HR := Lib.hid R
  have HH := Lib.hid H
  clear hl1 m1 hv hD hk R H nFl
  unfold etakeP at hRr
  have pg1 := HR.out.pg1
  have pg2 := HR.out.pg2
  cases hf : fitB k m with
  | false =>
    rw [if_neg (by simp [hf])] at hRr
    have FIN : Hid (∀ w2, More w1 w2 → WentV w F p kn (fun b : Bool => Value.bool b) Rr (.returned (.bool false)) w2) := Lib.hid fun w2 h => DONE.out false w2 D F hRr.symm (M0.out.more h)
    clear hRr
    go_enter Tryz.func16, Tryz.ntmps16
    go_wp2_with fail
    refine (e_fits k m _).mono ?_
    rw [hf]
    rintro e w2 ⟨rfl, h2⟩
    have F2 := Lib.hid (FIN.out w2 h2)
    clear h2
    go_wp2_with fail
    go_ret
    exact F2.out
  | true =>
    rw [if_pos hf] at hRr
    have HRr := Lib.hid hRr
    clear hRr
    go_enter Tryz.func16, Tryz.ntmps16
    go_wp2_with fail
    refine (e_fits k m _).mono ?_
    rw [hf]
    rintro e w2 ⟨rfl, h2⟩
    have M2 := Lib.hid (M0.out.more h2)
    have L2 := Lib.hid (KL.out _ _ _ M2.out)
    clear h2
    go_wp2_with (first | (refine wpList_load_row rfl 28 _ rfl _ rfl 28 _ _ _ L2.out Tryz.underlying28 rfl (by kernel_rfl) ?_) | (refine wpList_load_rowG rfl 28 _ rfl _ rfl 28 _ _ _ L2.out Tryz.underlying28 rfl (by kernel_rfl) ?_))
    refine (e_vacant HR.out HH.out F p kn D q m hq w2 M2.out.view HK.out M2.out.inv).mono ?_
    intro e w3 he
    rcases M2.out.step (More.refl _) HK.out (good_vac2 HH.out _ _) he with ⟨a', hE, rfl, hd', ht', _⟩ | ⟨x3, D3, F3, hE, rfl, M3, hq3, _, _⟩
    · exact ⟨rfl, NEED.out a' w3 (HRr.out.symm.trans (bindP_need hE)) hd' ht'⟩
    have L3 := Lib.hid (KL.out _ _ _ M3)
    have R3 := Lib.hid ((bindP_ok hE).symm.trans HRr.out)
    have M3 := Lib.hid M3
    clear he hE
    cases x3 with
    | false =>
      have FIN := Lib.hid (DONE.out false w3 D3 F3 R3.out.symm M3.out)
      clear R3
      go_wp2_with fail
      go_ret
      exact FIN.out
    | true =>
      obtain ⟨t0, t1, t2⟩ := there_iff.1 (hq3 rfl)
      have R3' := Lib.hid (show bindP (ensureP c.pg c.st q m) (fun _ => bindP (eputP c.pg c.st q k (if k = 6 then m else 0)) (fun _ => bindP (eputN c.pg c.st 7 (m - 1).toNat (q + 1)) (fun _ => pureP true))) kn D3 = Rr from R3.out)
      clear R3
      go_wp2_with (first | (refine wpList_load_row rfl 28 _ rfl _ rfl 28 _ _ _ L3.out Tryz.underlying28 rfl (by kernel_rfl) ?_) | (refine wpList_load_rowG rfl 28 _ rfl _ rfl 28 _ _ _ L3.out Tryz.underlying28 rfl (by kernel_rfl) ?_))
      refine (c_Ensure HR.out HH.out.toTblIn hn F3 p kn D3 q m hq w3 M3.out.view HK.out M3.out.inv).mono ?_
      intro e w4 he
      rcases M3.out.step (More.refl _) HK.out (good_ensure2 HH.out _ _) he with ⟨a', hE, rfl, hd', ht', _⟩ | ⟨x4, D4, F4, hE, rfl, M4, hq4, _, _⟩
      · exact ⟨rfl, NEED.out a' w4 (R3'.out.symm.trans (bindP_need hE)) hd' ht'⟩
      have L4 := Lib.hid (KL.out _ _ _ M4)
      have R4 := Lib.hid ((bindP_ok hE).symm.trans R3'.out)
      have M4 := Lib.hid M4
      clear he hE
      by_cases h6 : k = 6
      · have e6 : (k == 6) = true := by simp [h6]
        have R4 := Lib.hid (by have := R4.out; rwa [if_pos h6] at this)
        have hx6 := hm
        clear h6
        have qp : IntKind.i64.wrap (q + 1) = q + 1 := wrap_in (by omega) (by omega)
        have qe : IntKind.i64.wrap (q + m) = q + m := wrap_in (by omega) (by omega)
        have hpg0 : isPage c.pg q = true := isPage_iff.2 ⟨by omega, by omega⟩
        go_wp2_with (first | (refine wpList_load_row rfl 28 _ rfl _ rfl 28 _ _ _ L4.out Tryz.underlying28 rfl (by kernel_rfl) ?_) | (refine wpList_load_rowG rfl 28 _ rfl _ rfl 28 _ _ _ L4.out Tryz.underlying28 rfl (by kernel_rfl) ?_))
        refine (e_put HR.out HH.out hn F4 p kn D4 q k m hpg0 hk6 hx6 w4 M4.out.view HK.out M4.out.inv).mono ?_
        intro e w5 he
        rcases M4.out.step (More.refl _) HK.out (good_put2 HH.out hpg0 hk6 hx6) he with ⟨a', hE, rfl, hd', ht', _⟩ | ⟨x5, D5, F5, hE, rfl, M5, hq5, _, _⟩
        · exact ⟨rfl, NEED.out a' w5 (R4.out.symm.trans (bindP_need hE)) hd' ht'⟩
        have L5 := Lib.hid (KL.out _ _ _ M5)
        have R5 := Lib.hid ((bindP_ok hE).symm.trans R4.out)
        have M5 := Lib.hid M5
        clear he hE
        have START := Lib.hid (And.intro M5.out R5.out)
        clear R5 M5 L5 R4 M4 L4
        go_wp2_with fail
        go_loopw [12] (fun v wr => ∃ (i : Nat) (D' : List KV) (F' : Nat → Prop), v = .int .i64 (q + 1 + (i : Int)) ∧ (i : Int) ≤ m - 1 ∧ MidV w1 wr F (fun _ => False) p kn n D' F' ∧ bindP (eputN c.pg c.st 7 ((m - 1).toNat - i) (q + 1 + (i : Int))) (fun _ => pureP true) kn D' = Rr) (fun v _ => (q + m - intOf v).toNat)
        case atStart => exact ⟨0, D5, F5, by simp, by omega, START.out.1, by simpa using START.out.2⟩
        case round =>
          clear START
          obtain ⟨i, D', F', rfl, hi, MI, hrest⟩ := hrel
          have MI := Lib.hid MI
          have LI := Lib.hid (KL.out _ _ _ MI.out)
          by_cases hlt : (i : Int) < m - 1
          · have d3 : decide (q + 1 + (i : Int) < q + m) = true := by simp; omega
            have q3 : IntKind.i64.wrap (q + 1 + (i : Int) + 1) = q + 1 + (i : Int) + 1 := wrap_in (by omega) (by omega)
            rw [show (m - 1).toNat - i = ((m - 1).toNat - (i + 1)) + 1 by omega, putN_step, bindP_assoc] at hrest
            have RI := Lib.hid hrest
            have hpg : isPage c.pg (q + 1 + (i : Int)) = true := isPage_iff.2 ⟨by omega, by omega⟩
            clear hrest
            go_wp2_with (first | (refine wpList_load_row rfl 28 _ rfl _ rfl 28 _ _ _ LI.out Tryz.underlying28 rfl (by kernel_rfl) ?_) | (refine wpList_load_rowG rfl 28 _ rfl _ rfl 28 _ _ _ LI.out Tryz.underlying28 rfl (by kernel_rfl) ?_))
            refine (e_put HR.out HH.out hn F' p kn D' (q + 1 + (i : Int)) 7 0 hpg w64_7 w64_0 wr MI.out.view HK.out MI.out.inv).mono ?_
            intro e w8 he
            rcases MI.out.step (More.refl _) HK.out (good_put2 HH.out hpg w64_7 w64_0) he with ⟨a', hE, rfl, hd', ht', _⟩ | ⟨x8, D8, F8, hE, rfl, M8, hq8, _, _⟩
            · exact ⟨rfl, NEED.out a' w8 (RI.out.symm.trans (bindP_need hE)) hd' ht'⟩
            have L8 := Lib.hid (KL.out _ _ _ M8)
            have R8 := Lib.hid ((bindP_ok hE).symm.trans RI.out)
            have M8 := Lib.hid M8
            clear he hE
            have NX := Lib.hid (show bindP (eputN c.pg c.st 7 ((m - 1).toNat - (i + 1)) (q + 1 + (i : Int) + 1)) (fun _ => pureP true) kn D8 = Rr from R8.out)
            clear R8
            go_wp2_with fail
            go_roundw
            case rel => exact ⟨i + 1, D8, F8, by go_num, by omega, M8.out, by rw [show q + 1 + ((i + 1 : Nat) : Int) = q + 1 + (i : Int) + 1 by omega]; exact NX.out⟩
            case measure => simp [intOf]; omega
          · have him : q + 1 + (i : Int) = q + m := by omega
            have d3 : decide (q + 1 + (i : Int) < q + m) = false := by simp; omega
            have FIN := Lib.hid (DONE.out true wr D' F' (by rw [show ((m - 1).toNat - i) = 0 by omega] at hrest; exact hrest.symm) MI.out)
            clear hrest
            go_wp2_with fail
            go_ret
            exact FIN.out
      · have e6 : (k == 6) = false := by simp [h6]
        have R4 := Lib.hid (by have := R4.out; rwa [if_neg h6] at this)
        have hx6 := w64_0
        clear h6
        have qp : IntKind.i64.wrap (q + 1) = q + 1 := wrap_in (by omega) (by omega)
        have qe : IntKind.i64.wrap (q + m) = q + m := wrap_in (by omega) (by omega)
        have hpg0 : isPage c.pg q = true := isPage_iff.2 ⟨by omega, by omega⟩
        go_wp2_with (first | (refine wpList_load_row rfl 28 _ rfl _ rfl 28 _ _ _ L4.out Tryz.underlying28 rfl (by kernel_rfl) ?_) | (refine wpList_load_rowG rfl 28 _ rfl _ rfl 28 _ _ _ L4.out Tryz.underlying28 rfl (by kernel_rfl) ?_))
        refine (e_put HR.out HH.out hn F4 p kn D4 q k 0 hpg0 hk6 hx6 w4 M4.out.view HK.out M4.out.inv).mono ?_
        intro e w5 he
        rcases M4.out.step (More.refl _) HK.out (good_put2 HH.out hpg0 hk6 hx6) he with ⟨a', hE, rfl, hd', ht', _⟩ | ⟨x5, D5, F5, hE, rfl, M5, hq5, _, _⟩
        · exact ⟨rfl, NEED.out a' w5 (R4.out.symm.trans (bindP_need hE)) hd' ht'⟩
        have L5 := Lib.hid (KL.out _ _ _ M5)
        have R5 := Lib.hid ((bindP_ok hE).symm.trans R4.out)
        have M5 := Lib.hid M5
        clear he hE
        have START := Lib.hid (And.intro M5.out R5.out)
        clear R5 M5 L5 R4 M4 L4
        go_wp2_with fail
        go_loopw [12] (fun v wr => ∃ (i : Nat) (D' : List KV) (F' : Nat → Prop), v = .int .i64 (q + 1 + (i : Int)) ∧ (i : Int) ≤ m - 1 ∧ MidV w1 wr F (fun _ => False) p kn n D' F' ∧ bindP (eputN c.pg c.st 7 ((m - 1).toNat - i) (q + 1 + (i : Int))) (fun _ => pureP true) kn D' = Rr) (fun v _ => (q + m - intOf v).toNat)
        case atStart => exact ⟨0, D5, F5, by simp, by omega, START.out.1, by simpa using START.out.2⟩
        case round =>
          clear START
          obtain ⟨i, D', F', rfl, hi, MI, hrest⟩ := hrel
          have MI := Lib.hid MI
          have LI := Lib.hid (KL.out _ _ _ MI.out)
          by_cases hlt : (i : Int) < m - 1
          · have d3 : decide (q + 1 + (i : Int) < q + m) = true := by simp; omega
            have q3 : IntKind.i64.wrap (q + 1 + (i : Int) + 1) = q + 1 + (i : Int) + 1 := wrap_in (by omega) (by omega)
            rw [show (m - 1).toNat - i = ((m - 1).toNat - (i + 1)) + 1 by omega, putN_step, bindP_assoc] at hrest
            have RI := Lib.hid hrest
            have hpg : isPage c.pg (q + 1 + (i : Int)) = true := isPage_iff.2 ⟨by omega, by omega⟩
            clear hrest
            go_wp2_with (first | (refine wpList_load_row rfl 28 _ rfl _ rfl 28 _ _ _ LI.out Tryz.underlying28 rfl (by kernel_rfl) ?_) | (refine wpList_load_rowG rfl 28 _ rfl _ rfl 28 _ _ _ LI.out Tryz.underlying28 rfl (by kernel_rfl) ?_))
            refine (e_put HR.out HH.out hn F' p kn D' (q + 1 + (i : Int)) 7 0 hpg w64_7 w64_0 wr MI.out.view HK.out MI.out.inv).mono ?_
            intro e w8 he
            rcases MI.out.step (More.refl _) HK.out (good_put2 HH.out hpg w64_7 w64_0) he with ⟨a', hE, rfl, hd', ht', _⟩ | ⟨x8, D8, F8, hE, rfl, M8, hq8, _, _⟩
            · exact ⟨rfl, NEED.out a' w8 (RI.out.symm.trans (bindP_need hE)) hd' ht'⟩
            have L8 := Lib.hid (KL.out _ _ _ M8)
            have R8 := Lib.hid ((bindP_ok hE).symm.trans RI.out)
            have M8 := Lib.hid M8
            clear he hE
            have NX := Lib.hid (show bindP (eputN c.pg c.st 7 ((m - 1).toNat - (i + 1)) (q + 1 + (i : Int) + 1)) (fun _ => pureP true) kn D8 = Rr from R8.out)
            clear R8
            go_wp2_with fail
            go_roundw
            case rel => exact ⟨i + 1, D8, F8, by go_num, by omega, M8.out, by rw [show q + 1 + ((i + 1 : Nat) : Int) = q + 1 + (i : Int) + 1 by omega]; exact NX.out⟩
            case measure => simp [intOf]; omega
          · have him : q + 1 + (i : Int) = q + m := by omega
            have d3 : decide (q + 1 + (i : Int) < q + m) = false := by simp; omega
            have FIN := Lib.hid (DONE.out true wr D' F' (by rw [show ((m - 1).toNat - i) = 0 by omega] at hrest; exact hrest.symm) MI.out)
            clear hrest
            go_wp2_with fail
            go_ret
            exact FIN.out

set_option maxRecDepth 100000 in
set_option maxHeartbeats 4000000 in
theorem e_Trim {c : Cfg} (R : c.Ok) {n : Nat} (H : PgIn c.pg c.st n) (hn : n ≤ 10000) (F : Nat → Prop) (p : Nat) (kn : Int → Option Int) (D : List KV) (w : World) (hv : ViewAt w F p kn D) (hk : OkK kn) (hD : InvD n D) :
    Calls Tryz.prog 24 #[.pointer (some ⟨p, 0, none⟩), .agg c.arr] w (WentV w F p kn (fun x => .int .i64 x) (etrimP c.pg c.st kn D)) := by
  obtain ⟨Rr, hRr⟩ : ∃ Rr, etrimP c.pg c.st kn D = Rr := ⟨_, rfl⟩
  rw [hRr]
  obtain ⟨w1, e1, hl1, m1, s1⟩ := entry1 w (.cells c.arr 28)
  have nFl : ¬ F w.heap.size := fun q => by have := hv.lt _ q; omega
  have MM := Lib.hid m1
  have L0 := Lib.hid hl1
  have M0 : Hid (MidV w1 w1 F (fun _ => False) p kn n D F) := Lib.hid (MidV.begin (hv.more m1) hD)
  have KL : Hid (∀ wr D' F', MidV w1 wr F (fun _ => False) p kn n D' F' → wr.heap[w.heap.size]? = some (.cells c.arr 28 (0, 0))) := Lib.hid fun wr D' F' h => mid_own h L0.out nFl (fun q => q)
  have NEED : Hid (∀ a w2, Rr = .need a → DeadAt w2 p a → Turned (fun b => F b ∨ False) w1 w2 → WentV w F p kn (fun x : Int => Value.int .i64 x) Rr (.panicked (endOf p)) w2) := Lib.hid fun a w2 e hd ht => mid_need MM.out (fun _ q => q.elim) e hd ht
  have DONE : Hid (∀ x w2 D' F', Rr = .ok x D' → MidV w1 w2 F (fun _ => False) p kn n D' F' → WentV w F p kn (fun x : Int => Value.int .i64 x) Rr (.returned ((fun x : Int => Value.int .i64 x) x)) w2) := Lib.hid fun x w2 D' F' e h => mid_done MM.out (fun _ q => q.elim) h e
  have HK := Lib.hid hk
  have HR := Lib.hid R
  have HH := Lib.hid H
  clear hl1 m1 hv hD hk R H nFl
  unfold etrimP at hRr
  have pg1 := HR.out.pg1
  have pg2 := HR.out.pg2
  have HRr := Lib.hid hRr
  have hch : chunksV c.pg ≤ 64 ∧ 0 ≤ chunksV c.pg := by unfold chunksV; omega
  clear hRr
  go_enter Tryz.func24, Tryz.ntmps24
  go_wp2_with (first | (refine wpList_load_row rfl 28 _ rfl _ rfl 28 _ _ _ L0.out Tryz.underlying28 rfl (by kernel_rfl) ?_) | (refine wpList_load_rowG rfl 28 _ rfl _ rfl 28 _ _ _ L0.out Tryz.underlying28 rfl (by kernel_rfl) ?_))
  refine (y_chunks HR.out _).mono ?_
  rintro e w2 ⟨rfl, h2⟩
  have START := Lib.hid (And.intro (M0.out.more h2) HRr.out)
  clear h2 HRr
  go_wp2_with fail
  go_loopw [5, 11] (fun v5 v11 wr => ∃ (i : Nat) (s : Int) (D' : List KV) (F' : Nat → Prop), v5 = .int .i64 s ∧ v11 = .int .i64 (i : Int) ∧ (i : Int) ≤ chunksV c.pg ∧ 0 ≤ s ∧ s ≤ 4 * (i : Int) ∧ MidV w1 wr F (fun _ => False) p kn n D' F' ∧ etrimN c.pg c.st ((chunksV c.pg).toNat - i) (i : Int) s kn D' = Rr) (fun _ v11 _ => (chunksV c.pg - intOf v11).toNat)
  case atStart => exact ⟨0, 0, D, F, rfl, rfl, by omega, by omega, by omega, START.out.1, by simpa using START.out.2⟩
  case round =>
    clear START
    obtain ⟨i, s, D', F', rfl, rfl, hi, s0, s1', MI, hrest⟩ := hrel
    have MI := Lib.hid MI
    have LI := Lib.hid (KL.out _ _ _ MI.out)
    by_cases hlt : (i : Int) < chunksV c.pg
    · have d3 : decide ((i : Int) < chunksV c.pg) = true := by simp; omega
      have q3 : IntKind.i64.wrap ((i : Int) + 1) = (i : Int) + 1 := wrap_in (by omega) (by omega)
      have hsz := size_b HH.out.toTblIn (i : Int)
      have hfw : W64 (firstV c.pg (i : Int)) := by unfold firstV W64; split <;> omega
      rw [show (chunksV c.pg).toNat - i = ((chunksV c.pg).toNat - (i + 1)) + 1 by omega, trimN_step] at hrest
      have RI := Lib.hid hrest
      have q4 : IntKind.i64.wrap (s + sizeV c.pg (i : Int)) = s + sizeV c.pg (i : Int) := wrap_in (by omega) (by omega)
      have NEXT : Hid (∀ x wz Dz Fz, 0 ≤ x → x ≤ 4 → MidV w1 wz F (fun _ => False) p kn n Dz Fz → etrimN c.pg c.st ((chunksV c.pg).toNat - (i + 1)) ((i : Int) + 1) (s + x) kn Dz = Rr → ∃ (i' : Nat) (s' : Int) (D' : List KV) (F' : Nat → Prop), Value.int .i64 (s + x) = .int .i64 s' ∧ Value.int .i64 ((i : Int) + 1) = .int .i64 (i' : Int) ∧ (i' : Int) ≤ chunksV c.pg ∧ 0 ≤ s' ∧ s' ≤ 4 * (i' : Int) ∧ MidV w1 wz F (fun _ => False) p kn n D' F' ∧ etrimN c.pg c.st ((chunksV c.pg).toNat - i') (i' : Int) s' kn D' = Rr) := Lib.hid fun x wz Dz Fz x0 x4 hm hr =>
        ⟨i + 1, s + x, Dz, Fz, rfl, by simp, by omega, by omega, by omega, hm, by rw [show ((i + 1 : Nat) : Int) = (i : Int) + 1 by omega]; exact hr⟩
      clear hrest
      go_wp2_with (first | (refine wpList_load_row rfl 28 _ rfl _ rfl 28 _ _ _ LI.out Tryz.underlying28 rfl (by kernel_rfl) ?_) | (refine wpList_load_rowG rfl 28 _ rfl _ rfl 28 _ _ _ LI.out Tryz.underlying28 rfl (by kernel_rfl) ?_))
      refine (c_Pages HR.out (i : Int) _).mono ?_
      rintro e w3 ⟨rfl, h3⟩
      have M3 := Lib.hid (MI.out.more h3)
      have L3 := Lib.hid (KL.out _ _ _ M3.out)
      clear h3
      have R3 := Lib.hid (by have := RI.out; unfold etrim1 at this; rwa [bindP_assoc] at this)
      clear RI
      go_wp2_with (first | (refine wpList_load_row rfl 28 _ rfl _ rfl 28 _ _ _ L3.out Tryz.underlying28 rfl (by kernel_rfl) ?_) | (refine wpList_load_rowG rfl 28 _ rfl _ rfl 28 _ _ _ L3.out Tryz.underlying28 rfl (by kernel_rfl) ?_))
      refine (c_Mapped HR.out F' p kn D' (i : Int) w3 M3.out.view).mono ?_
      intro e w4 he
      rcases M3.out.step (More.refl _) HK.out (good_mapped HH.out.toTblIn _) he with ⟨a', hE, rfl, hd', ht', _⟩ | ⟨x4, D4, F4, hE, rfl, M4, hq4, _, _⟩
      · exact ⟨rfl, NEED.out a' w4 (R3.out.symm.trans (bindP_need hE)) hd' ht'⟩
      have L4 := Lib.hid (KL.out _ _ _ M4)
      have R4 := Lib.hid ((bindP_ok hE).symm.trans R3.out)
      have M4 := Lib.hid M4
      clear he hE
      cases x4 with
      | false =>
        have NX := Lib.hid (NEXT.out 0 w4 D4 F4 (by omega) (by omega) M4.out R4.out)
        rw [Int.add_zero] at NX
        clear R4 NEXT
        go_wp2_with fail
        go_roundw
        case rel => exact NX.out
        case measure => simp [intOf]; omega
      | true =>
        have R4' := Lib.hid (by have := R4.out; simp only [if_true, bindP_assoc] at this; exact this)
        clear R4
        go_wp2_with (first | (refine wpList_load_row rfl 28 _ rfl _ rfl 28 _ _ _ L4.out Tryz.underlying28 rfl (by kernel_rfl) ?_) | (refine wpList_load_rowG rfl 28 _ rfl _ rfl 28 _ _ _ L4.out Tryz.underlying28 rfl (by kernel_rfl) ?_))
        refine (e_vacant HR.out HH.out F4 p kn D4 (firstV c.pg (i : Int)) (sizeV c.pg (i : Int)) hfw w4 M4.out.view HK.out M4.out.inv).mono ?_
        intro e w5 he
        rcases M4.out.step (More.refl _) HK.out (good_vac HH.out _ _) he with ⟨a', hE, rfl, hd', ht', _⟩ | ⟨x5, D5, F5, hE, rfl, M5, hq5, _, _⟩
        · exact ⟨rfl, NEED.out a' w5 (R4'.out.symm.trans (bindP_need hE)) hd' ht'⟩
        have L5 := Lib.hid (KL.out _ _ _ M5)
        have R5 := Lib.hid ((bindP_ok hE).symm.trans R4'.out)
        have M5 := Lib.hid M5
        clear he hE
        cases x5 with
        | false =>
          have NX := Lib.hid (NEXT.out 0 w5 D5 F5 (by omega) (by omega) M5.out R5.out)
          rw [Int.add_zero] at NX
          clear R5 NEXT
          go_wp2_with fail
          go_roundw
          case rel => exact NX.out
          case measure => simp [intOf]; omega
        | true =>
          have R5' := Lib.hid (turn_mapW (f := fun b : Bool => if b then sizeV c.pg (i : Int) else 0) R5.out)
          clear R5
          have MP := c_Unmap HR.out HH.out.toTblIn hn F5 p kn D5 (i : Int)
          simp only [mapR_eq] at MP
          have MP := Lib.hid MP
          go_wp2_with (first | (refine wpList_load_row rfl 28 _ rfl _ rfl 28 _ _ _ L5.out Tryz.underlying28 rfl (by kernel_rfl) ?_) | (refine wpList_load_rowG rfl 28 _ rfl _ rfl 28 _ _ _ L5.out Tryz.underlying28 rfl (by kernel_rfl) ?_))
          refine (MP.out w5 M5.out.view HK.out M5.out.inv).mono ?_
          intro e w6 he
          rcases M5.out.step (More.refl _) HK.out (good_bind (good_turn HH.out.toTblIn (i : Int) 0 w64_0) (fun x hx => good_pure n (Q := fun _ => True) trivial)) he with ⟨a', hE, rfl, hd', ht', _⟩ | ⟨x6, D6, F6, hE, rfl, M6, hq6, _, _⟩
          · exact ⟨rfl, NEED.out a' w6 (R5'.out.symm.trans (bindP_need hE)) hd' ht'⟩
          have L6 := Lib.hid (KL.out _ _ _ M6)
          have R6 := Lib.hid ((bindP_ok hE).symm.trans R5'.out)
          have M6 := Lib.hid M6
          clear he hE
          cases x6 with
          | false =>
            have NX := Lib.hid (NEXT.out 0 w6 D6 F6 (by omega) (by omega) M6.out R6.out)
            rw [Int.add_zero] at NX
            clear R6 NEXT
            go_wp2_with fail
            go_roundw
            case rel => exact NX.out
            case measure => simp [intOf]; omega
          | true =>
            have NX := Lib.hid (NEXT.out (sizeV c.pg (i : Int)) w6 D6 F6 (by omega) (by omega) M6.out R6.out)
            clear R6 NEXT
            go_wp2_with fail
            go_roundw
            case rel => exact NX.out
            case measure => simp [intOf]; omega
    · have hie : (i : Int) = chunksV c.pg := by omega
      have d3 : decide ((i : Int) < chunksV c.pg) = false := by simp; omega
      have FIN := Lib.hid (DONE.out s wr D' F' (by rw [show (chunksV c.pg).toNat - i = 0 by omega] at hrest; exact hrest.symm) MI.out)
      clear hrest
      go_wp2_with fail
      go_ret
      exact FIN.out
end Go.Proofs.YtogfikemodaepaaGreat
