/-
  The landed package extent: Drop, First, Take, Trim.
-/
import Derived.Test.YtogfikemodaepaaGreatExtB
namespace Go.Proofs.YtogfikemodaepaaGreat
open Go.RowKit Go.Sort Go.Maps Go.Shelf
set_option linter.unusedVariables false
set_option linter.unusedSimpArgs false

theorem good_put2 {pg st : Int} {n : Nat} (H : PgIn pg st n) {p : Int} (h : isPage pg p = true) {k x : Int} (hk : W64 k) (hx : W64 x) : Good n (fun _ => True) (eputP pg st p k x) := good_put H h hk hx
theorem good_kind3 {pg st : Int} {n : Nat} (H : PgIn pg st n) (p : Int) : Good n (fun k : Int => k = 7 → 0 ≤ p ∧ p < pg) (ekindP pg st p) :=
  good_ite (fun h => good_imp (good_read n (page_b H h).1.2.1) (fun _ _ _ => isPage_iff.1 h)) (fun _ => good_pure n (fun h => by omega))
/-- Asked twice, it needs a word but once. -/
theorem kind_twice {α : Type} {pg st q x : Int} {kn : Int → Option Int} {D D' : List KV} (h : ekindP pg st q kn D = .ok x D') (f : Int → Prg α) : bindP (ekindP pg st q) f kn D = bindP (ekindP pg st q) f kn D' := by
  have : D' = D := by
    unfold ekindP at h
    split at h
    · unfold readP at h
      split at h
      · cases h
      · cases h; rfl
    · cases h; rfl
  rw [this]
theorem w64_0 : W64 0 := by unfold W64; omega
theorem w64_7 : W64 7 := by unfold W64; omega
theorem putN_step {pg st k : Int} {m : Nat} {q : Int} : eputN pg st k (m + 1) q = bindP (eputP pg st q k 0) fun _ => eputN pg st k m (q + 1) := rfl

set_option maxRecDepth 100000 in
set_option maxHeartbeats 2000000 in
theorem e_Drop {c : Cfg} (R : c.Ok) {n : Nat} (H : PgIn c.pg c.st n) (hn : n ≤ 10000) (F : Nat → Prop) (p : Nat) (kn : Int → Option Int) (D : List KV) (q : Int) (hq : W64 q) (w : World) (hv : ViewAt w F p kn D) (hk : OkK kn) (hD : InvD n D) :
    Calls Tryz.prog 23 #[.pointer (some ⟨p, 0, none⟩), .agg c.arr, .int .i64 q] w (WentV w F p kn (fun x => .int .i64 x) (edropP c.pg c.st q kn D)) := by
  obtain ⟨Rr, hRr⟩ : ∃ Rr, edropP c.pg c.st q kn D = Rr := ⟨_, rfl⟩
  rw [hRr]
  obtain ⟨w1, e1, hl1, m1, s1⟩ := entry1 w (.cells c.arr 28)
  have nFl : ¬ F w.heap.size := fun q => by have := hv.lt _ q; omega
  have MM := Lib.hid m1
  have L0 := Lib.hid hl1
  have M0 : Hid (MidV w1 w1 F (fun _ => False) p kn n D F) := Lib.hid (MidV.begin (hv.more m1) hD)
  have KL : Hid (∀ wr D' F', MidV w1 wr F (fun _ => False) p kn n D' F' → wr.heap[w.heap.size]? = some (.cells c.arr 28 (0, 0))) := Lib.hid fun wr D' F' h => mid_own h L0.out nFl (fun q => q)
  have NEED : Hid (∀ a w2, Rr = .need a → DeadAt w2 p a → Turned (fun b => F b ∨ False) w1 w2 → WentV w F p kn (fun x : Int => Value.int .i64 x) Rr (.panicked (endOf p)) w2) := Lib.hid fun a w2 e hd ht => mid_need MM.out (fun _ q => q.elim) e hd ht
  have DONE : Hid (∀ x w2 D' F', Rr = .ok x D' → MidV w1 w2 F (fun _ => False) p kn n D' F' → WentV w F p kn (fun x : Int => Value.int .i64 x) Rr (.returned ((fun x : Int => Value.int .i64 x) x)) w2) := Lib.hid fun x w2 D' F' e h => mid_done MM.out (fun _ q => q.elim) h e
  have HK := Lib.hid hk
  have HR := Lib.hid R
  have HH := Lib.hid H
  clear hl1 m1 hv hD hk R H nFl
  unfold edropP at hRr
  have pg1 := HR.out.pg1
  have pg2 := HR.out.pg2
  unfold W64 at hq
  have HRr := Lib.hid hRr
  clear hRr
  go_enter Tryz.func23, Tryz.ntmps23
  go_wp2_with (first | (refine wpList_load_row rfl 28 _ rfl _ rfl 28 _ _ _ L0.out Tryz.underlying28 rfl (by kernel_rfl) ?_) | (refine wpList_load_rowG rfl 28 _ rfl _ rfl 28 _ _ _ L0.out Tryz.underlying28 rfl (by kernel_rfl) ?_))
  refine (e_length HR.out HH.out F p kn D q w1 M0.out.view HK.out M0.out.inv).mono ?_
  intro e w2 he
  rcases M0.out.step (More.refl _) HK.out (good_len HH.out _) he with ⟨a', hE, rfl, hd', ht', _⟩ | ⟨x2, D2, F2, hE, rfl, M2, hq2, _, _⟩
  · exact ⟨rfl, NEED.out a' w2 (HRr.out.symm.trans (bindP_need hE)) hd' ht'⟩
  have L2 := Lib.hid (KL.out _ _ _ M2)
  have R2 := Lib.hid ((bindP_ok hE).symm.trans HRr.out)
  have M2 := Lib.hid M2
  clear he hE
  have hpi : Hid (x2 = 0 ∨ (0 ≤ q ∧ q < c.pg ∧ 1 ≤ x2 ∧ x2 ≤ c.pg - q)) := Lib.hid (by
    rcases hq2 with h | ⟨h, h1, h2⟩
    · exact .inl h
    · have := isPage_iff.1 h; exact .inr ⟨this.1, this.2, h1, h2⟩)
  clear hq2
  have qa : IntKind.i64.wrap (q + x2) = q + x2 := by have := hpi.out; exact wrap_in (by omega) (by omega)
  have START := Lib.hid (And.intro M2.out R2.out)
  clear R2 M2 L2
  go_wp2_with fail
  go_loopw [8] (fun v8 wr => ∃ (i : Nat) (D' : List KV) (F' : Nat → Prop), v8 = .int .i64 (q + (i : Int)) ∧ (i : Int) ≤ x2 ∧ MidV w1 wr F (fun _ => False) p kn n D' F' ∧ bindP (eputN c.pg c.st 0 (x2.toNat - i) (q + (i : Int))) (fun _ => pureP x2) kn D' = Rr) (fun v8 _ => (q + x2 - intOf v8).toNat)
  case atStart => exact ⟨0, D2, F2, by simp, by have := hpi.out; omega, START.out.1, by simpa using START.out.2⟩
  case round =>
    clear START
    obtain ⟨i, D', F', rfl, hi, MI, hrest⟩ := hrel
    have MI := Lib.hid MI
    have LI := Lib.hid (KL.out _ _ _ MI.out)
    have hp := hpi.out
    by_cases hlt : (i : Int) < x2
    · have d3 : decide (q + (i : Int) < q + x2) = true := by simp; omega
      have q3 : IntKind.i64.wrap (q + (i : Int) + 1) = q + (i : Int) + 1 := wrap_in (by omega) (by omega)
      rw [show x2.toNat - i = (x2.toNat - (i + 1)) + 1 by omega, putN_step, bindP_assoc] at hrest
      have RI := Lib.hid hrest
      have hpg : isPage c.pg (q + (i : Int)) = true := isPage_iff.2 ⟨by omega, by omega⟩
      clear hrest hp
      go_wp2_with (first | (refine wpList_load_row rfl 28 _ rfl _ rfl 28 _ _ _ LI.out Tryz.underlying28 rfl (by kernel_rfl) ?_) | (refine wpList_load_rowG rfl 28 _ rfl _ rfl 28 _ _ _ LI.out Tryz.underlying28 rfl (by kernel_rfl) ?_))
      refine (e_put HR.out HH.out hn F' p kn D' (q + (i : Int)) 0 0 hpg w64_0 w64_0 wr MI.out.view HK.out MI.out.inv).mono ?_
      intro e w4 he
      rcases MI.out.step (More.refl _) HK.out (good_put2 HH.out hpg w64_0 w64_0) he with ⟨a', hE, rfl, hd', ht', _⟩ | ⟨x4, D4, F4, hE, rfl, M4, hq4, _, _⟩
      · exact ⟨rfl, NEED.out a' w4 (RI.out.symm.trans (bindP_need hE)) hd' ht'⟩
      have L4 := Lib.hid (KL.out _ _ _ M4)
      have R4 := Lib.hid ((bindP_ok hE).symm.trans RI.out)
      have M4 := Lib.hid M4
      clear he hE
      have NX := Lib.hid (show bindP (eputN c.pg c.st 0 (x2.toNat - (i + 1)) (q + (i : Int) + 1)) (fun _ => pureP x2) kn D4 = Rr from R4.out)
      clear R4
      go_wp2_with fail
      go_roundw
      case rel => exact ⟨i + 1, D4, F4, by go_num, by omega, M4.out, by rw [show q + ((i + 1 : Nat) : Int) = q + (i : Int) + 1 by omega]; exact NX.out⟩
      case measure => simp [intOf]; omega
    · obtain rfl : (i : Int) = x2 := by omega
      have d3 : decide (q + (i : Int) < q + (i : Int)) = false := by simp
      have FIN := Lib.hid (DONE.out (i : Int) wr D' F' (by rw [show ((i : Int).toNat - i) = 0 by omega] at hrest; exact hrest.symm) MI.out)
      clear hrest hp
      go_wp2_with fail
      go_ret
      exact FIN.out

theorem firstN_step {pg st : Int} {m : Nat} {q : Int} : efirstN pg st (m + 1) q = bindP (ekindP pg st q) (fun k => if k = 7 then efirstN pg st m (q - 1) else pureP q) := rfl
set_option maxRecDepth 100000 in
set_option maxHeartbeats 2000000 in
theorem e_First {c : Cfg} (R : c.Ok) {n : Nat} (H : PgIn c.pg c.st n) (F : Nat → Prop) (p : Nat) (kn : Int → Option Int) (D : List KV) (q : Int) (hq : W64 q) (w : World) (hv : ViewAt w F p kn D) (hk : OkK kn) (hD : InvD n D) :
    Calls Tryz.prog 26 #[.pointer (some ⟨p, 0, none⟩), .agg c.arr, .int .i64 q] w (WentV w F p kn (fun x => .int .i64 x) (efirstP c.pg c.st q kn D)) := by
  obtain ⟨Rr, hRr⟩ : ∃ Rr, efirstP c.pg c.st q kn D = Rr := ⟨_, rfl⟩
  rw [hRr]
  obtain ⟨w1, e1, hl1, m1, s1⟩ := entry1 w (.cells c.arr 28)
  have nFl : ¬ F w.heap.size := fun q => by have := hv.lt _ q; omega
  have MM := Lib.hid m1
  have L0 := Lib.hid hl1
  have M0 : Hid (MidV w1 w1 F (fun _ => False) p kn n D F) := Lib.hid (MidV.begin (hv.more m1) hD)
  have KL : Hid (∀ wr D' F', MidV w1 wr F (fun _ => False) p kn n D' F' → wr.heap[w.heap.size]? = some (.cells c.arr 28 (0, 0))) := Lib.hid fun wr D' F' h => mid_own h L0.out nFl (fun q => q)
  have NEED : Hid (∀ a w2, Rr = .need a → DeadAt w2 p a → Turned (fun b => F b ∨ False) w1 w2 → WentV w F p kn (fun x : Int => Value.int .i64 x) Rr (.panicked (endOf p)) w2) := Lib.hid fun a w2 e hd ht => mid_need MM.out (fun _ q => q.elim) e hd ht
  have DONE : Hid (∀ x w2 D' F', Rr = .ok x D' → MidV w1 w2 F (fun _ => False) p kn n D' F' → WentV w F p kn (fun x : Int => Value.int .i64 x) Rr (.returned ((fun x : Int => Value.int .i64 x) x)) w2) := Lib.hid fun x w2 D' F' e h => mid_done MM.out (fun _ q => q.elim) h e
  have HK := Lib.hid hk
  have HR := Lib.hid R
  have HH := Lib.hid H
  clear hl1 m1 hv hD hk R H nFl
  unfold efirstP at hRr
  have pg1 := HR.out.pg1
  have pg2 := HR.out.pg2
  unfold W64 at hq
  have START := Lib.hid (And.intro M0.out hRr)
  clear hRr
  go_enter Tryz.func26, Tryz.ntmps26
  go_wp2_with fail
  go_loopw [2] (fun v2 wr => ∃ (m : Nat) (q' : Int) (D' : List KV) (F' : Nat → Prop), v2 = .int .i64 q' ∧ (q' = q ∨ -1 ≤ q' ∧ q' < c.pg) ∧ m = (q' + 2).toNat ∧ MidV w1 wr F (fun _ => False) p kn n D' F' ∧ bindP (efirstN c.pg c.st m q') (fun q => bindP (ekindP c.pg c.st q) (fun k => if k = 0 ∨ k = -1 then pureP (-1) else pureP q)) kn D' = Rr) (fun v2 _ => (intOf v2 + 2).toNat)
  case atStart => exact ⟨_, q, D, F, rfl, .inl rfl, rfl, START.out.1, START.out.2⟩
  case round =>
    clear START
    obtain ⟨m, q', D', F', rfl, hi, rfl, MI, hrest⟩ := hrel
    have MI := Lib.hid MI
    have LI := Lib.hid (KL.out _ _ _ MI.out)
    have RI := Lib.hid hrest
    clear hrest
    have KD := e_Kind HR.out HH.out F' p kn D' q' wr MI.out.view HK.out MI.out.inv
    have GK := good_kind3 HH.out q'
    have LAST : Hid (∀ (w5 : World) (D5 : List KV) (F5 : Nat → Prop), MidV w1 w5 F (fun _ => False) p kn n D5 F5 → bindP (ekindP c.pg c.st q') (fun k => if k = 0 ∨ k = -1 then pureP (-1) else pureP q') kn D5 = Rr → w5.heap[w.heap.size]? = some (.cells c.arr 28 (0, 0))) := Lib.hid fun w5 D5 F5 h _ => KL.out _ _ _ h
    go_wp2_with (first | (refine wpList_load_row rfl 28 _ rfl _ rfl 28 _ _ _ LI.out Tryz.underlying28 rfl (by kernel_rfl) ?_) | (refine wpList_load_rowG rfl 28 _ rfl _ rfl 28 _ _ _ LI.out Tryz.underlying28 rfl (by kernel_rfl) ?_))
    refine KD.mono ?_
    intro e w4 he
    have he2 := MI.out.step (More.refl _) HK.out GK he
    clear he KD GK
    rcases he2 with ⟨a', hE, rfl, hd', ht', _⟩ | ⟨x4, D4, F4, hE, rfl, M4, hq4, _, _⟩
    · refine ⟨rfl, NEED.out a' w4 (RI.out.symm.trans ?_) hd' ht'⟩
      cases hm : (q' + 2).toNat with
      | zero => exact bindP_need (p := ekindP c.pg c.st q') hE
      | succ j => rw [firstN_step, bindP_assoc]; exact bindP_need hE
    have L4 := Lib.hid (KL.out _ _ _ M4)
    have M4 := Lib.hid M4
    by_cases h7 : x4 = 7
    · have hpi := hq4 h7
      have e7 : (x4 == 7) = true := by simp [h7]
      have q3 : IntKind.i64.wrap (q' - 1) = q' - 1 := wrap_in (by omega) (by omega)
      have NX := RI.out
      rw [show (q' + 2).toNat = (q' - 1 + 2).toNat + 1 by omega, firstN_step, bindP_assoc, bindP_ok hE, if_pos h7] at NX
      have NX := Lib.hid NX
      clear hE h7 RI LAST
      go_wp2_with fail
      go_roundw
      case rel => exact ⟨_, q' - 1, D4, F4, rfl, .inr (by omega), rfl, M4.out, NX.out⟩
      case measure => simp [intOf]; omega
    · have e7 : (x4 == 7) = false := by simp [h7]
      have NX : bindP (ekindP c.pg c.st q') (fun k => if k = 0 ∨ k = -1 then pureP (-1) else pureP q') kn D4 = Rr := by
        have NX := RI.out
        cases hm : (q' + 2).toNat with
        | zero => rw [hm] at NX; exact (kind_twice hE _).symm.trans NX
        | succ j => rw [hm, firstN_step, bindP_assoc, bindP_ok hE, if_neg h7] at NX; exact NX
      have HNX := Lib.hid NX
      clear hE h7 RI LAST NX
      go_wp2_with (first | (refine wpList_load_row rfl 28 _ rfl _ rfl 28 _ _ _ L4.out Tryz.underlying28 rfl (by kernel_rfl) ?_) | (refine wpList_load_rowG rfl 28 _ rfl _ rfl 28 _ _ _ L4.out Tryz.underlying28 rfl (by kernel_rfl) ?_))
      refine (e_Kind HR.out HH.out F4 p kn D4 q' w4 M4.out.view HK.out M4.out.inv).mono ?_
      intro e w6 he
      rcases M4.out.step (More.refl _) HK.out (good_kind HH.out _) he with ⟨a', hE, rfl, hd', ht', _⟩ | ⟨x6, D6, F6, hE, rfl, M6, hq6, _, _⟩
      · exact ⟨rfl, NEED.out a' w6 (HNX.out.symm.trans (bindP_need hE)) hd' ht'⟩
      have L6 := Lib.hid (KL.out _ _ _ M6)
      have R6 := Lib.hid ((bindP_ok hE).symm.trans HNX.out)
      have M6 := Lib.hid M6
      clear he hE
      by_cases z0 : x6 = 0
      · have e0 : (x6 == 0) = true := by simp [z0]
        have FIN := Lib.hid (DONE.out (-1) w6 D6 F6 (by have := R6.out; rw [if_pos (.inl z0)] at this; exact this.symm) M6.out)
        clear R6 z0
        go_wp2_with fail
        go_ret
        exact FIN.out
      · have e0 : (x6 == 0) = false := by simp [z0]
        by_cases z1 : x6 = -1
        · have e1 : (x6 == -1) = true := by simp [z1]
          have FIN := Lib.hid (DONE.out (-1) w6 D6 F6 (by have := R6.out; rw [if_pos (.inr z1)] at this; exact this.symm) M6.out)
          clear R6 z0 z1
          go_wp2_with fail
          go_ret
          exact FIN.out
        · have e1 : (x6 == -1) = false := by simp [z1]
          have FIN := Lib.hid (DONE.out q' w6 D6 F6 (by have := R6.out; rw [if_neg (by rintro (h | h); exact z0 h; exact z1 h)] at this; exact this.symm) M6.out)
          clear R6 z0 z1
          go_wp2_with fail
          go_ret
          exact FIN.out
end Go.Proofs.YtogfikemodaepaaGreat
