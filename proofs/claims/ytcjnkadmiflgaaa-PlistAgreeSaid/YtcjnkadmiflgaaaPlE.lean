/-
  The landed package plist: List, Unlink.
-/
import Derived.Test.YtcjnkadmiflgaaaPlC
namespace Go.Proofs.Ytcjnkadmiflgaaa
open Go.RowKit Go.Sort Go.Maps Go.Shelf
set_option linter.unusedVariables false
set_option linter.unusedSimpArgs false

/-- What List hands back. -/
def ListPost (b : Nat) (l : List Int) (v : Value) (w : World) (F : Nat → Prop) : Prop := OwnR b F w v l
set_option maxRecDepth 100000 in
set_option maxHeartbeats 4000000 in
theorem pl_List {c : Cfg} (R : c.Ok) {n : Nat} (H : HdIn c.pg c.st n) (F : Nat → Prop) (p : Nat) (kn : Int → Option Int) (D : List KV) (cl f : Int) (w : World) (hv : ViewAt w F p kn D) (hk : OkK kn) (hD : InvD n D) :
    Calls Try.prog 28 #[.pointer (some ⟨p, 0, none⟩), .agg c.arr, .int .i64 cl, .int .i64 f] w (WentR w F p kn (ListPost w.heap.size) (plListP c.pg c.st cl f kn D)) := by
  obtain ⟨Rr, hRr⟩ : ∃ Rr, plListP c.pg c.st cl f kn D = Rr := ⟨_, rfl⟩
  rw [hRr]
  obtain ⟨w1, e1, hl1, m1, s1⟩ := entry1 w (.cells c.arr 28)
  have nFl : ¬ F w.heap.size := fun q => by have := hv.lt _ q; omega
  have MM := Lib.hid m1
  have L0 := Lib.hid hl1
  have M0 : Hid (MidV w1 w1 F (fun _ => False) p kn n D F) := Lib.hid (MidV.begin (hv.more m1) hD)
  have KL : Hid (∀ wr D' F', MidV w1 wr F (fun _ => False) p kn n D' F' → wr.heap[w.heap.size]? = some (.cells c.arr 28 (0, 0))) := Lib.hid fun wr D' F' h => mid_own h L0.out nFl (fun q => q)
  have NEED : Hid (∀ a w2, Rr = .need a → DeadAt w2 p a → Turned (fun b => F b ∨ False) w1 w2 → WentR w F p kn (ListPost w.heap.size) Rr (.panicked (endOf p)) w2) := Lib.hid fun a w2 e hd ht => midR_need MM.out (fun _ q => q.elim) e hd ht
  have DONE : Hid (∀ x v w2 D' F', Rr = .ok x D' → MidV w1 w2 F (fun _ => False) p kn n D' F' → (ListPost w.heap.size) x v w2 F' → WentR w F p kn (ListPost w.heap.size) Rr (.returned v) w2) := Lib.hid fun x v w2 D' F' e h hp => midR_done MM.out (fun _ q => q.elim) h e hp
  have HK := Lib.hid hk
  have HR := Lib.hid R
  have HH := Lib.hid H
  clear hl1 m1 hv hD hk R H nFl
  have HRr := Lib.hid (show bindP (plThrP c.pg c.st (-1) cl f) (fun r => pureP r.1) kn D = Rr from hRr)
  have hw1 : w.heap.size ≤ w1.heap.size := by omega
  clear hRr
  go_enter Try.func28, Try.ntmps28
  go_wp2_with (first | (refine wpList_load_row rfl 28 _ rfl _ rfl 28 _ _ _ L0.out Try.underlying28 rfl (by kernel_rfl) ?_) | (refine wpList_load_rowG rfl 28 _ rfl _ rfl 28 _ _ _ L0.out Try.underlying28 rfl (by kernel_rfl) ?_))
  refine (pl_through HR.out HH.out F p kn D (-1) cl f w1 M0.out.view HK.out M0.out.inv).mono ?_
  intro e w2 he
  rcases M0.out.stepR (More.refl _) HK.out (good_plThr HH.out (-1) cl f) he with ⟨a', hE, rfl, hd', ht', _⟩ | ⟨r, D2, F2, v, hE, rfl, ⟨u, rfl, hu⟩, M2, _, _, _⟩
  · exact ⟨rfl, NEED.out a' w2 (HRr.out.symm.trans (bindP_need hE)) hd' ht'⟩
  have FIN := Lib.hid (DONE.out r.1 u w2 D2 F2 (HRr.out.symm.trans (bindP_ok hE)) M2 (hu.mono hw1))
  clear he hE M2 hu
  go_wp2_with fail
  go_ret
  exact FIN.out

set_option maxRecDepth 100000 in
set_option maxHeartbeats 4000000 in
theorem pl_Unlink {c : Cfg} (R : c.Ok) {n : Nat} (H : HdIn c.pg c.st n) (hn : n ≤ 10000) (F : Nat → Prop) (p : Nat) (kn : Int → Option Int) (D : List KV) (q cl f : Int) (w : World) (hv : ViewAt w F p kn D) (hk : OkK kn) (hD : InvD n D) :
    Calls Try.prog 58 #[.pointer (some ⟨p, 0, none⟩), .agg c.arr, .int .i64 q, .int .i64 cl, .int .i64 f] w (WentV w F p kn (fun b => .bool b) (plUnlinkP c.pg c.st q cl f kn D)) := by
  obtain ⟨Rr, hRr⟩ : ∃ Rr, plUnlinkP c.pg c.st q cl f kn D = Rr := ⟨_, rfl⟩
  rw [hRr]
  obtain ⟨w1, e1, hl1, m1, s1⟩ := entry1 w (.cells c.arr 28)
  have nFl : ¬ F w.heap.size := fun q => by have := hv.lt _ q; omega
  have MM := Lib.hid m1
  have L0 := Lib.hid hl1
  have M0 : Hid (MidV w1 w1 F (fun _ => False) p kn n D F) := Lib.hid (MidV.begin (hv.more m1) hD)
  have KL : Hid (∀ wr D' F', MidV w1 wr F (fun _ => False) p kn n D' F' → wr.heap[w.heap.size]? = some (.cells c.arr 28 (0, 0))) := Lib.hid fun wr D' F' h => mid_own h L0.out nFl (fun q => q)
  have NEED : Hid (∀ a w2, Rr = .need a → DeadAt w2 p a → Turned (fun b => F b ∨ False) w1 w2 → WentV w F p kn (fun b : Bool => Value.bool b) Rr (.panicked (endOf p)) w2) := Lib.hid fun a w2 e hd ht => mid_need MM.out (fun _ q => q.elim) e hd ht
  have DONE : Hid (∀ x w2 D' F', Rr = .ok x D' → MidV w1 w2 F (fun _ => False) p kn n D' F' → WentV w F p kn (fun b : Bool => Value.bool b) Rr (.returned ((fun b : Bool => Value.bool b) x)) w2) := Lib.hid fun x w2 D' F' e h => mid_done MM.out (fun _ q => q.elim) h e
  have HK := Lib.hid hk
  have HR := Lib.hid R
  have HH := Lib.hid H
  clear hl1 m1 hv hD hk R H nFl
  unfold plUnlinkP at hRr
  cases hq : isPage c.pg q with
  | false =>
    rw [hq] at hRr
    have FIN : Hid (∀ w2, More w1 w2 → WentV w F p kn (fun b : Bool => Value.bool b) Rr (.returned (.bool false)) w2) := Lib.hid fun w2 h => DONE.out false w2 D F hRr.symm (M0.out.more h)
    clear hRr
    go_enter Try.func58, Try.ntmps58
    go_wp2_with (first | (refine wpList_load_row rfl 28 _ rfl _ rfl 28 _ _ _ L0.out Try.underlying28 rfl (by kernel_rfl) ?_) | (refine wpList_load_rowG rfl 28 _ rfl _ rfl 28 _ _ _ L0.out Try.underlying28 rfl (by kernel_rfl) ?_))
    refine (pl_there HR.out HH.out q _).mono ?_
    rw [hq]
    rintro e w3 ⟨rfl, h3⟩
    have H3 := Lib.hid h3
    clear h3
    go_wp2_with fail
    go_ret
    exact FIN.out _ H3.out
  | true =>
    rw [hq] at hRr
    have HRr := Lib.hid (show bindP (plThrP c.pg c.st q cl f) (fun r => if r.2 then bindP (plLeadP c.pg (nA c.pg c.st q)) (fun x => bindP (plJoinP c.pg c.st (headV c.pg c.st cl f) (lastO r.1) x) fun _ => bindP (writeP (nA c.pg c.st q) 0) fun _ => bindP (writeP (vA c.pg c.st q) 0) fun _ => pureP true) else pureP false) kn D = Rr from hRr)
    have P3 := Lib.hid (page3 (st := c.st) hq)
    have P4 := Lib.hid (page4 (st := c.st) hq)
    have NB := Lib.hid (nv_b HH.out hq)
    have HQ := Lib.hid hq
    clear hRr hq
    go_enter Try.func58, Try.ntmps58
    go_wp2_with (first | (refine wpList_load_row rfl 28 _ rfl _ rfl 28 _ _ _ L0.out Try.underlying28 rfl (by kernel_rfl) ?_) | (refine wpList_load_rowG rfl 28 _ rfl _ rfl 28 _ _ _ L0.out Try.underlying28 rfl (by kernel_rfl) ?_))
    refine (pl_there HR.out HH.out q _).mono ?_
    rw [HQ.out]
    rintro e w2 ⟨rfl, h2⟩
    have M2 := Lib.hid (M0.out.more h2)
    have L2 := Lib.hid (KL.out _ _ _ M2.out)
    clear h2
    go_wp2_with (first | (refine wpList_load_row rfl 28 _ rfl _ rfl 28 _ _ _ L2.out Try.underlying28 rfl (by kernel_rfl) ?_) | (refine wpList_load_rowG rfl 28 _ rfl _ rfl 28 _ _ _ L2.out Try.underlying28 rfl (by kernel_rfl) ?_))
    refine (pl_through HR.out HH.out F p kn D q cl f w2 M2.out.view HK.out M2.out.inv).mono ?_
    intro e w3 he
    rcases M2.out.stepR (More.refl _) HK.out (good_plThr HH.out q cl f) he with ⟨a', hE, rfl, hd', ht', _⟩ | ⟨⟨xs, b⟩, D2, F2, v, hE, rfl, ⟨u, rfl, hu⟩, M3, hxs, _, _⟩
    · exact ⟨rfl, NEED.out a' w3 (HRr.out.symm.trans (bindP_need hE)) hd' ht'⟩
    have R2 := Lib.hid ((bindP_ok hE).symm.trans HRr.out)
    have HXS := Lib.hid (show ∀ x ∈ xs, isPage c.pg x = true from hxs.1)
    have hxl : xs.length ≤ 256 := hxs.2
    have M3 := Lib.hid M3
    have L3 := Lib.hid (KL.out _ _ _ M3.out)
    have HU := Lib.hid (show OwnR w2.heap.size F2 w3 u xs from hu)
    clear he hE hxs hu M2 L2
    cases b with
    | false =>
      have FIN := Lib.hid (DONE.out false w3 D2 F2 R2.out.symm M3.out)
      clear R2
      go_wp2_with fail
      go_ret
      exact FIN.out
    | true =>
      have R2' := Lib.hid (show bindP (plLeadP c.pg (nA c.pg c.st q)) (fun x => bindP (plJoinP c.pg c.st (headV c.pg c.st cl f) (lastO xs) x) fun _ => bindP (writeP (nA c.pg c.st q) 0) fun _ => bindP (writeP (vA c.pg c.st q) 0) fun _ => pureP true) kn D2 = Rr from R2.out)
      obtain ⟨av, cv, rfl, hrd⟩ := HU.out.1.reads
      by_cases h0 : xs.length = 0
      · have hxn : xs = [] := List.length_eq_zero_iff.1 h0
        subst hxn
        clear R2 hrd h0 HU
        go_wp2_with fail
        refine wp_region_anyC (TrC c w.heap.size) (by kernel_rfl) ?_
        have MR := Lib.hid (M3.out.more ((More.refl w3).drewN 1))
        change anyC _ _ _ _ _ _ _ _ (w3.drewN 1)
        generalize w3.drewN 1 = wr at MR ⊢
        generalize hA : Act.mk _ _ = A
        have HF : AG 63 A [(0, .pointer (some ⟨p, 0, none⟩)), (1, .agg c.arr), (2, .int .i64 q), (3, .int .i64 cl), (4, .int .i64 f), (6, .pointer (some ⟨w.heap.size, 0, none⟩)), (13, .int .i64 (-1))] := by
          rw [← hA]
          refine ⟨⟨Nat.le_of_ble_eq_true rfl, rfl⟩, ?_⟩
          intro z hz; simp only [List.mem_cons, List.not_mem_nil, or_false] at hz; rcases hz with rfl | rfl | rfl | rfl | rfl | rfl | rfl <;> rfl
        refine anyC_start (fun a W => ∃ (u39 u40 u41 u42 u43 u45 u46 u47 u48 u49 u44 u50 u51 u52 : Value) (D9 : List KV) (F9 : Nat → Prop), a = (Act.put (Act.put (Act.put (Act.put (Act.put (Act.put (Act.put (Act.put (Act.put (Act.put (Act.put (Act.put (Act.put (Act.put A (some 39) u39) (some 40) u40) (some 41) u41) (some 42) u42) (some 43) u43) (some 45) u45) (some 46) u46) (some 47) u47) (some 48) u48) (some 49) u49) (some 44) u44) (some 50) u50) (some 51) u51) (some 52) u52) ∧ MidV w1 W F (fun _ => False) p kn n D9 F9 ∧ bindP (writeP (nA c.pg c.st q) 0) (fun _ => bindP (writeP (vA c.pg c.st q) 0) fun _ => pureP true) kn D9 = Rr) (fun W => WentV w F p kn (fun b : Bool => Value.bool b) Rr (.panicked (endOf p)) W) (endOf p) (fun a W hd h => ⟨hd, h⟩) (fun _ _ _ _ _ h => h) ?_ ?_
        · skip
          rintro a wa ⟨u39, u40, u41, u42, u43, u45, u46, u47, u48, u49, u44, u50, u51, u52, D7, F7, rfl, MS, RS⟩
          rw [← hA]
          have MS := Lib.hid MS
          have LS := Lib.hid (KL.out _ _ _ MS.out)
          have RS := Lib.hid RS
          clear HF hA MR M3 R2' L3
          go_wp2_with (first | (refine wpList_load_row rfl 28 _ rfl _ rfl 28 _ _ _ LS.out Try.underlying28 rfl (by kernel_rfl) ?_) | (refine wpList_load_rowG rfl 28 _ rfl _ rfl 28 _ _ _ LS.out Try.underlying28 rfl (by kernel_rfl) ?_))
          refine (y_next HR.out _ q).mono ?_
          rw [P3.out]
          rintro e w8 ⟨rfl, h8⟩
          have M8 := Lib.hid (MS.out.more h8)
          clear h8
          go_wp2_with fail
          refine (write_any F7 p kn D7 _ 0 w8 M8.out.view (by have := M8.out.inv.len; omega)).mono ?_
          intro e w9 he
          rcases M8.out.step (More.refl _) HK.out (good_write n NB.out.1.2.2 NB.out.1.2.1 (by unfold W64; omega)) he with ⟨a', hE, rfl, hd', ht', _⟩ | ⟨x9, D9, F9, hE, rfl, M9, hq9, _, _⟩
          · exact ⟨rfl, NEED.out a' w9 (RS.out.symm.trans (bindP_need hE)) hd' ht'⟩
          have L9 := Lib.hid (KL.out _ _ _ M9)
          have R9 := Lib.hid ((bindP_ok hE).symm.trans RS.out)
          have M9 := Lib.hid M9
          clear he hE
          go_wp2_with (first | (refine wpList_load_row rfl 28 _ rfl _ rfl 28 _ _ _ L9.out Try.underlying28 rfl (by kernel_rfl) ?_) | (refine wpList_load_rowG rfl 28 _ rfl _ rfl 28 _ _ _ L9.out Try.underlying28 rfl (by kernel_rfl) ?_))
          refine (y_prev HR.out _ q).mono ?_
          rw [P4.out]
          rintro e w10 ⟨rfl, h10⟩
          have M10 := Lib.hid (M9.out.more h10)
          clear h10
          go_wp2_with fail
          refine (write_any F9 p kn D9 _ 0 w10 M10.out.view (by have := M10.out.inv.len; omega)).mono ?_
          intro e w11 he
          rcases M10.out.step (More.refl _) HK.out (good_write n NB.out.2.2.2 NB.out.2.2.1 (by unfold W64; omega)) he with ⟨a', hE, rfl, hd', ht', _⟩ | ⟨x11, D11, F11, hE, rfl, M11, hq11, _, _⟩
          · exact ⟨rfl, NEED.out a' w11 (R9.out.symm.trans (bindP_need hE)) hd' ht'⟩
          have FIN := Lib.hid (DONE.out true w11 D11 F11 (R9.out.symm.trans (bindP_ok hE)) M11)
          clear he hE M11
          go_wp2_with fail
          go_ret
          exact FIN.out
        intro QQ FINE FIND FINQ
        clear hA
        refine anyC_takeD (i := 0) (v := .pointer (some ⟨p, 0, none⟩)) (some 39) rfl rfl (by kernel_rfl) (by kernel_rfl) (by kernel_rfl) (fun c a w => FINQ c a _ _ w) (KL.out _ _ _ MR.out) (by exact yieldsC_moveG (wanted_none rfl) _ rfl (HF.get 0 rfl)) ?_
        replace HF := HF.put 39 (.pointer (some ⟨p, 0, none⟩)) (by decide) rfl
        generalize hB1_39 : Act.put _ _ _ = A at HF ⊢
        refine anyC_takeD (i := 1) (v := .agg c.arr) (some 40) rfl rfl (by kernel_rfl) (by kernel_rfl) (by kernel_rfl) (fun c a w => FINQ c a _ _ w) (KL.out _ _ _ MR.out) (by exact yieldsC_row (C := (TrC c w.heap.size)) (wanted_none rfl) 28 _ rfl w.heap.size (HF.get 6 rfl) 28 _ _ _ (fun W hW => hW) Try.underlying28 rfl (by kernel_rfl)) ?_
        replace HF := HF.put 40 (.agg c.arr) (by decide) rfl
        generalize hB2_40 : Act.put _ _ _ = A at HF ⊢
        refine anyC_takeD (i := 2) (v := .agg c.arr) (some 41) rfl rfl (by kernel_rfl) (by kernel_rfl) (by kernel_rfl) (fun c a w => FINQ c a _ _ w) (KL.out _ _ _ MR.out) (by exact yieldsC_row (C := (TrC c w.heap.size)) (wanted_none rfl) 28 _ rfl w.heap.size (HF.get 7 rfl) 28 _ _ _ (fun W hW => hW) Try.underlying28 rfl (by kernel_rfl)) ?_
        replace HF := HF.put 41 (.agg c.arr) (by decide) rfl
        generalize hB3_41 : Act.put _ _ _ = A at HF ⊢
        refine anyC_takeD (i := 3) (v := .int .i64 cl) (some 42) rfl rfl (by kernel_rfl) (by kernel_rfl) (by kernel_rfl) (fun c a w => FINQ c a _ _ w) (KL.out _ _ _ MR.out) (by exact yieldsC_moveG (wanted_none rfl) _ rfl (HF.get 6 rfl)) ?_
        replace HF := HF.put 42 (.int .i64 cl) (by decide) rfl
        generalize hB4_42 : Act.put _ _ _ = A at HF ⊢
        refine anyC_takeD (i := 4) (v := .int .i64 f) (some 43) rfl rfl (by kernel_rfl) (by kernel_rfl) (by kernel_rfl) (fun c a w => FINQ c a _ _ w) (KL.out _ _ _ MR.out) (by exact yieldsC_moveG (wanted_none rfl) _ rfl (HF.get 8 rfl)) ?_
        replace HF := HF.put 43 (.int .i64 f) (by decide) rfl
        generalize hB5_43 : Act.put _ _ _ = A at HF ⊢
        refine anyC_takeD (i := 6) (v := .int .i64 (-1)) (some 45) rfl rfl (by kernel_rfl) (by kernel_rfl) (by kernel_rfl) (fun c a w => FINQ c a _ _ w) (KL.out _ _ _ MR.out) (by exact yieldsC_moveG (wanted_none rfl) _ rfl (HF.get 11 rfl)) ?_
        replace HF := HF.put 45 (.int .i64 (-1)) (by decide) rfl
        generalize hB6_45 : Act.put _ _ _ = A at HF ⊢
        refine anyC_takeD (i := 7) (v := .pointer (some ⟨p, 0, none⟩)) (some 46) rfl rfl (by kernel_rfl) (by kernel_rfl) (by kernel_rfl) (fun c a w => FINQ c a _ _ w) (KL.out _ _ _ MR.out) (by exact yieldsC_moveG (wanted_none rfl) _ rfl (HF.get 6 rfl)) ?_
        replace HF := HF.put 46 (.pointer (some ⟨p, 0, none⟩)) (by decide) rfl
        generalize hB7_46 : Act.put _ _ _ = A at HF ⊢
        refine anyC_takeD (i := 8) (v := .agg c.arr) (some 47) rfl rfl (by kernel_rfl) (by kernel_rfl) (by kernel_rfl) (fun c a w => FINQ c a _ _ w) (KL.out _ _ _ MR.out) (by exact yieldsC_row (C := (TrC c w.heap.size)) (wanted_none rfl) 28 _ rfl w.heap.size (HF.get 12 rfl) 28 _ _ _ (fun W hW => hW) Try.underlying28 rfl (by kernel_rfl)) ?_
        replace HF := HF.put 47 (.agg c.arr) (by decide) rfl
        generalize hB8_47 : Act.put _ _ _ = A at HF ⊢
        refine anyC_takeD (i := 9) (v := .agg c.arr) (some 48) rfl rfl (by kernel_rfl) (by kernel_rfl) (by kernel_rfl) (fun c a w => FINQ c a _ _ w) (KL.out _ _ _ MR.out) (by exact yieldsC_row (C := (TrC c w.heap.size)) (wanted_none rfl) 28 _ rfl w.heap.size (HF.get 13 rfl) 28 _ _ _ (fun W hW => hW) Try.underlying28 rfl (by kernel_rfl)) ?_
        replace HF := HF.put 48 (.agg c.arr) (by decide) rfl
        generalize hB9_48 : Act.put _ _ _ = A at HF ⊢
        refine anyC_takeD (i := 10) (v := .int .i64 q) (some 49) rfl rfl (by kernel_rfl) (by kernel_rfl) (by kernel_rfl) (fun c a w => FINQ c a _ _ w) (KL.out _ _ _ MR.out) (by exact yieldsC_moveG (wanted_none rfl) _ rfl (HF.get 11 rfl)) ?_
        replace HF := HF.put 49 (.int .i64 q) (by decide) rfl
        generalize hB10_49 : Act.put _ _ _ = A at HF ⊢
        refine anyC_oneK (i := 5) (some 44) (by kernel_rfl) rfl (wanted_none rfl) rfl (fun K hK => ?_)
        refine wp_call3 (v0 := .agg c.arr) (v1 := .int .i64 cl) (v2 := .int .i64 f) rfl (HF.get 7 rfl) (HF.get 6 rfl) (HF.get 5 rfl) (enters_of Try.func84 (by kernel_rfl) rfl) ?_
        refine (y_head HR.out wr cl f).mono ?_
        rintro e w4 ⟨rfl, h4⟩
        have M4 := Lib.hid (MR.out.more h4)
        clear h4
        refine hK _ _ (KL.out _ _ _ M4.out) ?_
        clear hK K
        replace HF := HF.put 44 (.int .i64 (headV c.pg c.st cl f)) (by decide) rfl
        generalize hB11_44 : Act.put _ _ _ = A at HF ⊢
        refine anyC_oneK (i := 11) (some 50) (by kernel_rfl) rfl (wanted_none rfl) rfl (fun K hK => ?_)
        refine wp_call2 (v0 := .agg c.arr) (v1 := .int .i64 q) rfl (HF.get 2 rfl) (HF.get 1 rfl) (enters_of Try.func25 (by kernel_rfl) rfl) ?_
        refine (y_next HR.out w4 q).mono ?_
        rw [P3.out]
        rintro e w5 ⟨rfl, h5⟩
        have M5 := Lib.hid (M4.out.more h5)
        clear h5
        refine hK _ _ (KL.out _ _ _ M5.out) ?_
        clear hK K
        replace HF := HF.put 50 (.int .i64 (nA c.pg c.st q)) (by decide) rfl
        generalize hB12_50 : Act.put _ _ _ = A at HF ⊢
        refine anyC_oneK (i := 12) (some 51) (by kernel_rfl) rfl (wanted_none rfl) rfl (fun K hK => ?_)
        refine wp_call3 (v0 := .pointer (some ⟨p, 0, none⟩)) (v1 := .agg c.arr) (v2 := .int .i64 (nA c.pg c.st q)) rfl (HF.get 5 rfl) (HF.get 4 rfl) (HF.get 0 rfl) (enters_of Try.func87 (by kernel_rfl) rfl) ?_
        refine (pl_leads HR.out HH.out F2 p kn D2 (nA c.pg c.st q) NB.out.1.2.2 NB.out.1.2.1 w5 M5.out.view HK.out M5.out.inv).mono ?_
        intro e w6 he
        rcases M5.out.step (More.refl _) HK.out (good_plLead HH.out NB.out.1.2.1) he with ⟨a', hE, rfl, hd', ht', _⟩ | ⟨x6, D6, F6, hE, rfl, M6, hq6, _, _⟩
        · exact FIND _ _ HF.1.2 (NEED.out a' w6 (R2'.out.symm.trans (bindP_need hE)) hd' ht')
        have R6 := Lib.hid ((bindP_ok hE).symm.trans R2'.out)
        have M6 := Lib.hid M6
        clear he hE
        refine hK _ _ (KL.out _ _ _ M6.out) ?_
        clear hK K
        replace HF := HF.put 51 (.int .i64 x6) (by decide) rfl
        generalize hB13_51 : Act.put _ _ _ = A at HF ⊢
        refine anyC_oneK (i := 13) (some 52) (by kernel_rfl) rfl (wanted_none rfl) rfl (fun K hK => ?_)
        refine wp_call5 (v0 := .pointer (some ⟨p, 0, none⟩)) (v1 := .agg c.arr) (v2 := .int .i64 (headV c.pg c.st cl f)) (v3 := .int .i64 (-1)) (v4 := .int .i64 x6) rfl (HF.get 12 rfl) (HF.get 11 rfl) (HF.get 2 rfl) (HF.get 7 rfl) (HF.get 0 rfl) (enters_of Try.func86 (by kernel_rfl) rfl) ?_
        refine (pl_join HR.out HH.out hn F6 p kn D6 (headV c.pg c.st cl f) (-1) x6 (head_b HH.out).2.2 (head_b HH.out).2.1 (.inl rfl) hq6 w6 M6.out.view HK.out M6.out.inv).mono ?_
        intro e w7 he
        rcases M6.out.step (More.refl _) HK.out (good_plJoin HH.out (head_b HH.out).2.2 (head_b HH.out).2.1 (.inl rfl) hq6) he with ⟨a', hE, rfl, hd', ht', _⟩ | ⟨x7, D7, F7, hE, rfl, M7, hq7, _, _⟩
        · exact FIND _ _ HF.1.2 (NEED.out a' w7 (R6.out.symm.trans (bindP_need hE)) hd' ht')
        have R7 := Lib.hid ((bindP_ok hE).symm.trans R6.out)
        have M7 := Lib.hid M7
        clear he hE
        refine hK _ _ (KL.out _ _ _ M7.out) ?_
        clear hK K
        replace HF := HF.put 52 (.tuple #[]) (by decide) rfl
        generalize hB14_52 : Act.put _ _ _ = A at HF ⊢
        exact anyC_done (by kernel_rfl) (FINE _ _ ⟨(.pointer (some ⟨p, 0, none⟩)), (.agg c.arr), (.agg c.arr), (.int .i64 cl), (.int .i64 f), (.int .i64 (-1)), (.pointer (some ⟨p, 0, none⟩)), (.agg c.arr), (.agg c.arr), (.int .i64 q), (.int .i64 (headV c.pg c.st cl f)), (.int .i64 (nA c.pg c.st q)), (.int .i64 x6), (.tuple #[]), D7, F7, by rw [← hB14_52, ← hB13_51, ← hB12_50, ← hB11_44, ← hB10_49, ← hB9_48, ← hB8_47, ← hB7_46, ← hB6_45, ← hB5_43, ← hB4_42, ← hB3_41, ← hB2_40, ← hB1_39], M7.out, R7.out⟩)
      · obtain ⟨g, rfl, _, _, hcell⟩ := hrd 0 (by omega)
        have d0 : decide ((0 : Int) < (xs.length : Int)) = true := by simp; omega
        have hlast : xs.getD (xs.length - 1) 0 = lastO xs := by
          unfold lastO
          rw [List.getD_eq_getElem?_getD, List.getD_eq_getElem?_getD, List.getElem?_eq_getElem (by omega)]
          rfl
        have hc := hcell (xs.length - 1) (by omega)
        rw [hlast] at hc
        obtain ⟨m, hm⟩ : ∃ m : Nat, xs.length = m + 1 := ⟨xs.length - 1, by omega⟩
        rw [hm] at hc ⊢
        have hc : w3.cell? ⟨g, m, none⟩ = some (.int .i64 (lastO xs)) := hc
        have hm9 : m < 9000000000000000000 := by omega
        have q1 : IntKind.i64.wrap (((m + 1 : Nat) : Int) - 1) = (m : Int) := by rw [show ((m + 1 : Nat) : Int) - 1 = (m : Int) by omega]; exact wrap_in (by omega) (by omega)
        have d1 : decide ((0 : Int) < ((m + 1 : Nat) : Int)) = true := by simp
        clear R2 hrd h0 HU hcell hlast hm d0
        go_wp2_with fail
        clear hc
        refine wp_region_anyC (TrC c w.heap.size) (by kernel_rfl) ?_
        have MR := Lib.hid (M3.out.more ((More.refl w3).drewN 1))
        change anyC _ _ _ _ _ _ _ _ (w3.drewN 1)
        generalize w3.drewN 1 = wr at MR ⊢
        generalize hA : Act.mk _ _ = A
        have HF : AG 63 A [(0, .pointer (some ⟨p, 0, none⟩)), (1, .agg c.arr), (2, .int .i64 q), (3, .int .i64 cl), (4, .int .i64 f), (6, .pointer (some ⟨w.heap.size, 0, none⟩)), (13, .int .i64 (lastO xs))] := by
          rw [← hA]
          refine ⟨⟨Nat.le_of_ble_eq_true rfl, rfl⟩, ?_⟩
          intro z hz; simp only [List.mem_cons, List.not_mem_nil, or_false] at hz; rcases hz with rfl | rfl | rfl | rfl | rfl | rfl | rfl <;> rfl
        refine anyC_start (fun a W => ∃ (u39 u40 u41 u42 u43 u45 u46 u47 u48 u49 u44 u50 u51 u52 : Value) (D9 : List KV) (F9 : Nat → Prop), a = (Act.put (Act.put (Act.put (Act.put (Act.put (Act.put (Act.put (Act.put (Act.put (Act.put (Act.put (Act.put (Act.put (Act.put A (some 39) u39) (some 40) u40) (some 41) u41) (some 42) u42) (some 43) u43) (some 45) u45) (some 46) u46) (some 47) u47) (some 48) u48) (some 49) u49) (some 44) u44) (some 50) u50) (some 51) u51) (some 52) u52) ∧ MidV w1 W F (fun _ => False) p kn n D9 F9 ∧ bindP (writeP (nA c.pg c.st q) 0) (fun _ => bindP (writeP (vA c.pg c.st q) 0) fun _ => pureP true) kn D9 = Rr) (fun W => WentV w F p kn (fun b : Bool => Value.bool b) Rr (.panicked (endOf p)) W) (endOf p) (fun a W hd h => ⟨hd, h⟩) (fun _ _ _ _ _ h => h) ?_ ?_
        · skip
          rintro a wa ⟨u39, u40, u41, u42, u43, u45, u46, u47, u48, u49, u44, u50, u51, u52, D7, F7, rfl, MS, RS⟩
          rw [← hA]
          have MS := Lib.hid MS
          have LS := Lib.hid (KL.out _ _ _ MS.out)
          have RS := Lib.hid RS
          clear HF hA MR M3 R2' L3
          go_wp2_with (first | (refine wpList_load_row rfl 28 _ rfl _ rfl 28 _ _ _ LS.out Try.underlying28 rfl (by kernel_rfl) ?_) | (refine wpList_load_rowG rfl 28 _ rfl _ rfl 28 _ _ _ LS.out Try.underlying28 rfl (by kernel_rfl) ?_))
          refine (y_next HR.out _ q).mono ?_
          rw [P3.out]
          rintro e w8 ⟨rfl, h8⟩
          have M8 := Lib.hid (MS.out.more h8)
          clear h8
          go_wp2_with fail
          refine (write_any F7 p kn D7 _ 0 w8 M8.out.view (by have := M8.out.inv.len; omega)).mono ?_
          intro e w9 he
          rcases M8.out.step (More.refl _) HK.out (good_write n NB.out.1.2.2 NB.out.1.2.1 (by unfold W64; omega)) he with ⟨a', hE, rfl, hd', ht', _⟩ | ⟨x9, D9, F9, hE, rfl, M9, hq9, _, _⟩
          · exact ⟨rfl, NEED.out a' w9 (RS.out.symm.trans (bindP_need hE)) hd' ht'⟩
          have L9 := Lib.hid (KL.out _ _ _ M9)
          have R9 := Lib.hid ((bindP_ok hE).symm.trans RS.out)
          have M9 := Lib.hid M9
          clear he hE
          go_wp2_with (first | (refine wpList_load_row rfl 28 _ rfl _ rfl 28 _ _ _ L9.out Try.underlying28 rfl (by kernel_rfl) ?_) | (refine wpList_load_rowG rfl 28 _ rfl _ rfl 28 _ _ _ L9.out Try.underlying28 rfl (by kernel_rfl) ?_))
          refine (y_prev HR.out _ q).mono ?_
          rw [P4.out]
          rintro e w10 ⟨rfl, h10⟩
          have M10 := Lib.hid (M9.out.more h10)
          clear h10
          go_wp2_with fail
          refine (write_any F9 p kn D9 _ 0 w10 M10.out.view (by have := M10.out.inv.len; omega)).mono ?_
          intro e w11 he
          rcases M10.out.step (More.refl _) HK.out (good_write n NB.out.2.2.2 NB.out.2.2.1 (by unfold W64; omega)) he with ⟨a', hE, rfl, hd', ht', _⟩ | ⟨x11, D11, F11, hE, rfl, M11, hq11, _, _⟩
          · exact ⟨rfl, NEED.out a' w11 (R9.out.symm.trans (bindP_need hE)) hd' ht'⟩
          have FIN := Lib.hid (DONE.out true w11 D11 F11 (R9.out.symm.trans (bindP_ok hE)) M11)
          clear he hE M11
          go_wp2_with fail
          go_ret
          exact FIN.out
        intro QQ FINE FIND FINQ
        clear hA
        refine anyC_takeD (i := 0) (v := .pointer (some ⟨p, 0, none⟩)) (some 39) rfl rfl (by kernel_rfl) (by kernel_rfl) (by kernel_rfl) (fun c a w => FINQ c a _ _ w) (KL.out _ _ _ MR.out) (by exact yieldsC_moveG (wanted_none rfl) _ rfl (HF.get 0 rfl)) ?_
        replace HF := HF.put 39 (.pointer (some ⟨p, 0, none⟩)) (by decide) rfl
        generalize hB1_39 : Act.put _ _ _ = A at HF ⊢
        refine anyC_takeD (i := 1) (v := .agg c.arr) (some 40) rfl rfl (by kernel_rfl) (by kernel_rfl) (by kernel_rfl) (fun c a w => FINQ c a _ _ w) (KL.out _ _ _ MR.out) (by exact yieldsC_row (C := (TrC c w.heap.size)) (wanted_none rfl) 28 _ rfl w.heap.size (HF.get 6 rfl) 28 _ _ _ (fun W hW => hW) Try.underlying28 rfl (by kernel_rfl)) ?_
        replace HF := HF.put 40 (.agg c.arr) (by decide) rfl
        generalize hB2_40 : Act.put _ _ _ = A at HF ⊢
        refine anyC_takeD (i := 2) (v := .agg c.arr) (some 41) rfl rfl (by kernel_rfl) (by kernel_rfl) (by kernel_rfl) (fun c a w => FINQ c a _ _ w) (KL.out _ _ _ MR.out) (by exact yieldsC_row (C := (TrC c w.heap.size)) (wanted_none rfl) 28 _ rfl w.heap.size (HF.get 7 rfl) 28 _ _ _ (fun W hW => hW) Try.underlying28 rfl (by kernel_rfl)) ?_
        replace HF := HF.put 41 (.agg c.arr) (by decide) rfl
        generalize hB3_41 : Act.put _ _ _ = A at HF ⊢
        refine anyC_takeD (i := 3) (v := .int .i64 cl) (some 42) rfl rfl (by kernel_rfl) (by kernel_rfl) (by kernel_rfl) (fun c a w => FINQ c a _ _ w) (KL.out _ _ _ MR.out) (by exact yieldsC_moveG (wanted_none rfl) _ rfl (HF.get 6 rfl)) ?_
        replace HF := HF.put 42 (.int .i64 cl) (by decide) rfl
        generalize hB4_42 : Act.put _ _ _ = A at HF ⊢
        refine anyC_takeD (i := 4) (v := .int .i64 f) (some 43) rfl rfl (by kernel_rfl) (by kernel_rfl) (by kernel_rfl) (fun c a w => FINQ c a _ _ w) (KL.out _ _ _ MR.out) (by exact yieldsC_moveG (wanted_none rfl) _ rfl (HF.get 8 rfl)) ?_
        replace HF := HF.put 43 (.int .i64 f) (by decide) rfl
        generalize hB5_43 : Act.put _ _ _ = A at HF ⊢
        refine anyC_takeD (i := 6) (v := .int .i64 (lastO xs)) (some 45) rfl rfl (by kernel_rfl) (by kernel_rfl) (by kernel_rfl) (fun c a w => FINQ c a _ _ w) (KL.out _ _ _ MR.out) (by exact yieldsC_moveG (wanted_none rfl) _ rfl (HF.get 11 rfl)) ?_
        replace HF := HF.put 45 (.int .i64 (lastO xs)) (by decide) rfl
        generalize hB6_45 : Act.put _ _ _ = A at HF ⊢
        refine anyC_takeD (i := 7) (v := .pointer (some ⟨p, 0, none⟩)) (some 46) rfl rfl (by kernel_rfl) (by kernel_rfl) (by kernel_rfl) (fun c a w => FINQ c a _ _ w) (KL.out _ _ _ MR.out) (by exact yieldsC_moveG (wanted_none rfl) _ rfl (HF.get 6 rfl)) ?_
        replace HF := HF.put 46 (.pointer (some ⟨p, 0, none⟩)) (by decide) rfl
        generalize hB7_46 : Act.put _ _ _ = A at HF ⊢
        refine anyC_takeD (i := 8) (v := .agg c.arr) (some 47) rfl rfl (by kernel_rfl) (by kernel_rfl) (by kernel_rfl) (fun c a w => FINQ c a _ _ w) (KL.out _ _ _ MR.out) (by exact yieldsC_row (C := (TrC c w.heap.size)) (wanted_none rfl) 28 _ rfl w.heap.size (HF.get 12 rfl) 28 _ _ _ (fun W hW => hW) Try.underlying28 rfl (by kernel_rfl)) ?_
        replace HF := HF.put 47 (.agg c.arr) (by decide) rfl
        generalize hB8_47 : Act.put _ _ _ = A at HF ⊢
        refine anyC_takeD (i := 9) (v := .agg c.arr) (some 48) rfl rfl (by kernel_rfl) (by kernel_rfl) (by kernel_rfl) (fun c a w => FINQ c a _ _ w) (KL.out _ _ _ MR.out) (by exact yieldsC_row (C := (TrC c w.heap.size)) (wanted_none rfl) 28 _ rfl w.heap.size (HF.get 13 rfl) 28 _ _ _ (fun W hW => hW) Try.underlying28 rfl (by kernel_rfl)) ?_
        replace HF := HF.put 48 (.agg c.arr) (by decide) rfl
        generalize hB9_48 : Act.put _ _ _ = A at HF ⊢
        refine anyC_takeD (i := 10) (v := .int .i64 q) (some 49) rfl rfl (by kernel_rfl) (by kernel_rfl) (by kernel_rfl) (fun c a w => FINQ c a _ _ w) (KL.out _ _ _ MR.out) (by exact yieldsC_moveG (wanted_none rfl) _ rfl (HF.get 11 rfl)) ?_
        replace HF := HF.put 49 (.int .i64 q) (by decide) rfl
        generalize hB10_49 : Act.put _ _ _ = A at HF ⊢
        refine anyC_oneK (i := 5) (some 44) (by kernel_rfl) rfl (wanted_none rfl) rfl (fun K hK => ?_)
        refine wp_call3 (v0 := .agg c.arr) (v1 := .int .i64 cl) (v2 := .int .i64 f) rfl (HF.get 7 rfl) (HF.get 6 rfl) (HF.get 5 rfl) (enters_of Try.func84 (by kernel_rfl) rfl) ?_
        refine (y_head HR.out wr cl f).mono ?_
        rintro e w4 ⟨rfl, h4⟩
        have M4 := Lib.hid (MR.out.more h4)
        clear h4
        refine hK _ _ (KL.out _ _ _ M4.out) ?_
        clear hK K
        replace HF := HF.put 44 (.int .i64 (headV c.pg c.st cl f)) (by decide) rfl
        generalize hB11_44 : Act.put _ _ _ = A at HF ⊢
        refine anyC_oneK (i := 11) (some 50) (by kernel_rfl) rfl (wanted_none rfl) rfl (fun K hK => ?_)
        refine wp_call2 (v0 := .agg c.arr) (v1 := .int .i64 q) rfl (HF.get 2 rfl) (HF.get 1 rfl) (enters_of Try.func25 (by kernel_rfl) rfl) ?_
        refine (y_next HR.out w4 q).mono ?_
        rw [P3.out]
        rintro e w5 ⟨rfl, h5⟩
        have M5 := Lib.hid (M4.out.more h5)
        clear h5
        refine hK _ _ (KL.out _ _ _ M5.out) ?_
        clear hK K
        replace HF := HF.put 50 (.int .i64 (nA c.pg c.st q)) (by decide) rfl
        generalize hB12_50 : Act.put _ _ _ = A at HF ⊢
        refine anyC_oneK (i := 12) (some 51) (by kernel_rfl) rfl (wanted_none rfl) rfl (fun K hK => ?_)
        refine wp_call3 (v0 := .pointer (some ⟨p, 0, none⟩)) (v1 := .agg c.arr) (v2 := .int .i64 (nA c.pg c.st q)) rfl (HF.get 5 rfl) (HF.get 4 rfl) (HF.get 0 rfl) (enters_of Try.func87 (by kernel_rfl) rfl) ?_
        refine (pl_leads HR.out HH.out F2 p kn D2 (nA c.pg c.st q) NB.out.1.2.2 NB.out.1.2.1 w5 M5.out.view HK.out M5.out.inv).mono ?_
        intro e w6 he
        rcases M5.out.step (More.refl _) HK.out (good_plLead HH.out NB.out.1.2.1) he with ⟨a', hE, rfl, hd', ht', _⟩ | ⟨x6, D6, F6, hE, rfl, M6, hq6, _, _⟩
        · exact FIND _ _ HF.1.2 (NEED.out a' w6 (R2'.out.symm.trans (bindP_need hE)) hd' ht')
        have R6 := Lib.hid ((bindP_ok hE).symm.trans R2'.out)
        have M6 := Lib.hid M6
        clear he hE
        refine hK _ _ (KL.out _ _ _ M6.out) ?_
        clear hK K
        replace HF := HF.put 51 (.int .i64 x6) (by decide) rfl
        generalize hB13_51 : Act.put _ _ _ = A at HF ⊢
        refine anyC_oneK (i := 13) (some 52) (by kernel_rfl) rfl (wanted_none rfl) rfl (fun K hK => ?_)
        refine wp_call5 (v0 := .pointer (some ⟨p, 0, none⟩)) (v1 := .agg c.arr) (v2 := .int .i64 (headV c.pg c.st cl f)) (v3 := .int .i64 (lastO xs)) (v4 := .int .i64 x6) rfl (HF.get 12 rfl) (HF.get 11 rfl) (HF.get 2 rfl) (HF.get 7 rfl) (HF.get 0 rfl) (enters_of Try.func86 (by kernel_rfl) rfl) ?_
        refine (pl_join HR.out HH.out hn F6 p kn D6 (headV c.pg c.st cl f) (lastO xs) x6 (head_b HH.out).2.2 (head_b HH.out).2.1 (lastO_b HH.out HXS.out) hq6 w6 M6.out.view HK.out M6.out.inv).mono ?_
        intro e w7 he
        rcases M6.out.step (More.refl _) HK.out (good_plJoin HH.out (head_b HH.out).2.2 (head_b HH.out).2.1 (lastO_b HH.out HXS.out) hq6) he with ⟨a', hE, rfl, hd', ht', _⟩ | ⟨x7, D7, F7, hE, rfl, M7, hq7, _, _⟩
        · exact FIND _ _ HF.1.2 (NEED.out a' w7 (R6.out.symm.trans (bindP_need hE)) hd' ht')
        have R7 := Lib.hid ((bindP_ok hE).symm.trans R6.out)
        have M7 := Lib.hid M7
        clear he hE
        refine hK _ _ (KL.out _ _ _ M7.out) ?_
        clear hK K
        replace HF := HF.put 52 (.tuple #[]) (by decide) rfl
        generalize hB14_52 : Act.put _ _ _ = A at HF ⊢
        exact anyC_done (by kernel_rfl) (FINE _ _ ⟨(.pointer (some ⟨p, 0, none⟩)), (.agg c.arr), (.agg c.arr), (.int .i64 cl), (.int .i64 f), (.int .i64 (lastO xs)), (.pointer (some ⟨p, 0, none⟩)), (.agg c.arr), (.agg c.arr), (.int .i64 q), (.int .i64 (headV c.pg c.st cl f)), (.int .i64 (nA c.pg c.st q)), (.int .i64 x6), (.tuple #[]), D7, F7, by rw [← hB14_52, ← hB13_51, ← hB12_50, ← hB11_44, ← hB10_49, ← hB9_48, ← hB8_47, ← hB7_46, ← hB6_45, ← hB5_43, ← hB4_42, ← hB3_41, ← hB2_40, ← hB1_39], M7.out, R7.out⟩)
end Go.Proofs.Ytcjnkadmiflgaaa
