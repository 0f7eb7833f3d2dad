/-
  The landed package plist: the pages of a list.
-/
import Derived.Test.YtcjnkadmiflgaaaPlA
import Derived.Test.YtcjnkadmiflgaaaWentR
import Derived.ScopeJumps
import Derived.WalkMore
namespace Go.Proofs.Ytcjnkadmiflgaaa
open Go.RowKit Go.Sort Go.Maps Go.Shelf
set_option linter.unusedVariables false
set_option linter.unusedSimpArgs false

/-- What through hands back: a row, and whether the page was met. -/
def ThrPost (b : Nat) (r : List Int × Bool) (v : Value) (w : World) (F : Nat → Prop) : Prop := ∃ u, v = .tuple #[u, .bool r.2] ∧ OwnR b F w u r.1
set_option maxRecDepth 100000 in
set_option maxHeartbeats 8000000 in
theorem pl_through {c : Cfg} (R : c.Ok) {n : Nat} (H : HdIn c.pg c.st n) (F : Nat → Prop) (p : Nat) (kn : Int → Option Int) (D : List KV) (q cl f : Int) (w : World) (hv : ViewAt w F p kn D) (hk : OkK kn) (hD : InvD n D) :
    Calls Try.prog 63 #[.pointer (some ⟨p, 0, none⟩), .agg c.arr, .int .i64 q, .int .i64 cl, .int .i64 f] w (WentR w F p kn (ThrPost w.heap.size) (plThrP c.pg c.st q cl f kn D)) := by
  obtain ⟨Rr, hRr⟩ : ∃ Rr, plThrP c.pg c.st q cl f kn D = Rr := ⟨_, rfl⟩
  rw [hRr]
  obtain ⟨w1, e1, hl1, m1, s1⟩ := entry1 w (.cells c.arr 28)
  have nFl : ¬ F w.heap.size := fun q => by have := hv.lt _ q; omega
  have MM := Lib.hid m1
  have L0 := Lib.hid hl1
  have M0 : Hid (MidV w1 w1 F (fun _ => False) p kn n D F) := Lib.hid (MidV.begin (hv.more m1) hD)
  have KL : Hid (∀ wr D' F', MidV w1 wr F (fun _ => False) p kn n D' F' → wr.heap[w.heap.size]? = some (.cells c.arr 28 (0, 0))) := Lib.hid fun wr D' F' h => mid_own h L0.out nFl (fun q => q)
  have NEED : Hid (∀ a w2, Rr = .need a → DeadAt w2 p a → Turned (fun b => F b ∨ False) w1 w2 → WentR w F p kn (ThrPost w.heap.size) Rr (.panicked (endOf p)) w2) := Lib.hid fun a w2 e hd ht => midR_need MM.out (fun _ q => q.elim) e hd ht
  have DONE : Hid (∀ x v w2 D' F', Rr = .ok x D' → MidV w1 w2 F (fun _ => False) p kn n D' F' → (ThrPost w.heap.size) x v w2 F' → WentR w F p kn (ThrPost w.heap.size) Rr (.returned v) w2) := Lib.hid fun x v w2 D' F' e h hp => midR_done MM.out (fun _ q => q.elim) h e hp
  have HK := Lib.hid hk
  have HR := Lib.hid R
  have HH := Lib.hid H
  clear hl1 m1 hv hD hk R H nFl
  unfold plThrP at hRr
  have HRr := Lib.hid hRr
  have hfl := field_pages c
  have pg1 := HR.out.pg1
  have pg2 := HR.out.pg2
  have hw1 : w.heap.size ≤ w1.heap.size := by omega
  clear hRr
  go_enter Try.func63, Try.ntmps63
  go_wp2_with fail
  refine wp_scope_jumps 0 (fun a' w' => ∃ (v : Value) (b : Bool) (u12 u13 u14 u15 u16 u17 u18 u19 u20 u21 u22 u23 u24 u25 u26 u27 u28 u29 u30 u31 u32 u33 u34 u35 u36 u37 u38 u39 u40 u41 u42 : Value), a' = { tmps := #[.pointer (some ⟨p, 0, none⟩), .agg c.arr, .int .i64 q, .int .i64 cl, .int .i64 f, undef, .pointer (some ⟨w.heap.size, 0, none⟩), undef, undef, undef, v, .bool b, u12, u13, u14, u15, u16, u17, u18, u19, u20, u21, u22, u23, u24, u25, u26, u27, u28, u29, u30, u31, u32, u33, u34, u35, u36, u37, u38, u39, u40, u41, u42], defers := [] } ∧ ∃ (l : List Int) (D4 : List KV) (F4 : Nat → Prop), Rr = .ok (l, b) D4 ∧ MidV w1 w' F (fun _ => False) p kn n D4 F4 ∧ OwnR w1.heap.size F4 w' v l) (fun _ _ => 0) rfl ?_ ?_
  · go_wp2_with (first | (refine wpList_load_row rfl 28 _ rfl _ rfl 28 _ _ _ L0.out Try.underlying28 rfl (by kernel_rfl) ?_) | (refine wpList_load_rowG rfl 28 _ rfl _ rfl 28 _ _ _ L0.out Try.underlying28 rfl (by kernel_rfl) ?_))
    refine (y_head HR.out _ cl f).mono ?_
    rintro e w2 ⟨rfl, h2⟩
    have M2 := Lib.hid (M0.out.more h2)
    have L2 := Lib.hid (KL.out _ _ _ M2.out)
    clear h2
    go_wp2_with (first | (refine wpList_load_row rfl 28 _ rfl _ rfl 28 _ _ _ L2.out Try.underlying28 rfl (by kernel_rfl) ?_) | (refine wpList_load_rowG rfl 28 _ rfl _ rfl 28 _ _ _ L2.out Try.underlying28 rfl (by kernel_rfl) ?_))
    refine (y_config HR.out _).mono ?_
    rintro e w3 ⟨rfl, h3⟩
    have M3 := Lib.hid (M2.out.more h3)
    clear h3 M2 L2
    go_wp2_with fail
    go_loopw [10, 11, 12, 21] (fun u10 v11 v12 v21 wr => ∃ (v10 : Value) (i : Nat) (a : Int) (l : List Int) (D' : List KV) (F' : Nat → Prop), v10 = u10 ∧ v11 = .bool false ∧ v21 = .int .i64 (i : Int) ∧ (i : Int) ≤ c.pg ∧ v12 = .int .i64 a ∧ W64 a ∧ a < n ∧ MidV w1 wr F (fun _ => False) p kn n D' F' ∧ OwnR w1.heap.size F' wr v10 l ∧ l.length = i ∧ plThrN c.pg c.st q (c.pg.toNat - i) a l kn D' = Rr) (fun _ _ _ v21 _ => c.pg.toNat - (intOf v21).toNat)
    case atStart => exact ⟨_, 0, _, [], D, F, rfl, rfl, rfl, by omega, rfl, (head_b HH.out).2.2, (head_b HH.out).2.1, M3.out, OwnR.nil _ _ _, rfl, HRr.out⟩
    case round =>
      clear M3 HRr
      obtain ⟨v10, i, a, l, D', F', rfl, rfl, rfl, hi, rfl, haw, han, MI, RWI, hl, hrest⟩ := hrel
      have MI := Lib.hid MI
      have RWI := Lib.hid RWI
      have LI := Lib.hid (KL.out _ _ _ MI.out)
      have qi : IntKind.i64.wrap ((i : Int) + 1) = (i : Int) + 1 := wrap_in (by omega) (by omega)
      by_cases hlt : (i : Int) < c.pg
      · have d3 : decide ((i : Int) < c.pg) = true := by simp [hlt]
        rw [show c.pg.toNat - i = (c.pg.toNat - (i + 1)) + 1 by omega] at hrest
        have RI := Lib.hid (show bindP (plLeadP c.pg a) (fun x => if x = q then pureP (l, true) else if x = -1 then pureP (l, false) else plThrN c.pg c.st q (c.pg.toNat - (i + 1)) (nA c.pg c.st x) (l ++ [x])) kn D' = Rr from hrest)
        clear hrest
        go_wp2_with (first | (refine wpList_load_row rfl 28 _ rfl _ rfl 28 _ _ _ LI.out Try.underlying28 rfl (by kernel_rfl) ?_) | (refine wpList_load_rowG rfl 28 _ rfl _ rfl 28 _ _ _ LI.out Try.underlying28 rfl (by kernel_rfl) ?_))
        refine (pl_leads HR.out HH.out F' p kn D' a haw han wr MI.out.view HK.out MI.out.inv).mono ?_
        intro e w4 he
        rcases MI.out.step (More.refl _) HK.out (good_plLead HH.out han) he with ⟨a', hE, rfl, hd', ht', _⟩ | ⟨x4, D4, F4, hE, rfl, M4, hq4, hkp, hnw⟩
        · exact ⟨rfl, NEED.out a' w4 (RI.out.symm.trans (bindP_need hE)) hd' ht'⟩
        have R4 := Lib.hid ((bindP_ok hE).symm.trans RI.out)
        have RW4 := Lib.hid (RWI.out.went hkp hnw)
        have M4 := Lib.hid M4
        clear he hE hkp hnw
        by_cases ex : x4 = q
        · have d4 : (x4 == q) = true := by simp [ex]
          have E4 := Lib.hid (show Rr = .ok (l, true) D4 from by have := R4.out; rw [if_pos ex] at this; exact this.symm)
          clear R4 ex
          go_wp2_with fail
          go_step3
          refine ⟨rfl, v10, true, _, _, _, _, _, _, _, _, _, _, _, _, _, _, _, _, _, _, _, _, _, _, _, _, _, _, _, _, _, _, _, rfl, ⟨l, D4, F4, E4.out, M4.out, RW4.out⟩⟩
        have d4 : (x4 == q) = false := by simp [ex]
        by_cases en : x4 = -1
        · have d5 : (x4 == -1) = true := by simp [en]
          have E4 := Lib.hid (show Rr = .ok (l, false) D4 from by have := R4.out; rw [if_neg ex, if_pos en] at this; exact this.symm)
          clear R4 ex en
          go_wp2_with fail
          go_step3
          refine ⟨rfl, v10, false, _, _, _, _, _, _, _, _, _, _, _, _, _, _, _, _, _, _, _, _, _, _, _, _, _, _, _, _, _, _, _, rfl, ⟨l, D4, F4, E4.out, M4.out, RW4.out⟩⟩
        have d5 : (x4 == -1) = false := by simp [en]
        have hpx := hq4.resolve_left en
        have P3 := Lib.hid (page3 (st := c.st) hpx)
        have NB := Lib.hid (nv_b HH.out hpx)
        have NX := Lib.hid (show plThrN c.pg c.st q (c.pg.toNat - (i + 1)) (nA c.pg c.st x4) (l ++ [x4]) kn D4 = Rr from by have := R4.out; rw [if_neg ex, if_neg en] at this; exact this)
        clear R4 ex en hq4 hpx haw han
        go_wp2_with fail
        refine wp_region_anyC (TrC c w.heap.size) (by kernel_rfl) ?_
        have MR := Lib.hid (M4.out.more ((More.refl w4).drewN 1))
        have RR := Lib.hid (RW4.out.more ((More.refl w4).drewN 1))
        change anyC _ _ _ _ _ _ _ _ (w4.drewN 1)
        generalize w4.drewN 1 = wq at MR RR ⊢
        clear M4 RW4 MI RWI LI
        generalize hA : Act.mk _ _ = A
        have HF : AG 43 A [(6, .pointer (some ⟨w.heap.size, 0, none⟩)), (13, .int .i64 x4), (10, v10)] := by
          rw [← hA]
          refine ⟨⟨Nat.le_of_ble_eq_true rfl, rfl⟩, ?_⟩
          intro z hz; simp only [List.mem_cons, List.not_mem_nil, or_false] at hz; rcases hz with rfl | rfl | rfl <;> rfl
        refine anyC_start (fun a W => ∃ (u28 u29 u32 u33 u30 u31 u34 v' : Value) (D9 : List KV) (F9 : Nat → Prop), a = (Act.put (Act.put (Act.put (Act.put (Act.put (Act.put (Act.put (Act.put (Act.put A (some 28) u28) (some 29) u29) (some 32) u32) (some 33) u33) (some 30) u30) (some 31) u31) (some 34) u34) (some 10) v') (some 12) (.int .i64 (nA c.pg c.st x4))) ∧ MidV w1 W F (fun _ => False) p kn n D4 F4 ∧ OwnR w1.heap.size F4 W v' (l ++ [x4])) (fun W => WentR w F p kn (ThrPost w.heap.size) Rr (.panicked (endOf p)) W) (endOf p) (fun a W hd h => ⟨hd, h⟩) (fun _ _ _ _ _ h => h) ?_ ?_
        · rintro a wa ⟨u28, u29, u32, u33, u30, u31, u34, v', _, _, rfl, MS, RS⟩
          rw [← hA]
          have MS := Lib.hid MS
          have RS := Lib.hid RS
          clear HF hA MR RR
          go_wp2_with fail
          go_roundw
          case rel => exact ⟨_, i + 1, _, l ++ [x4], D4, F4, rfl, rfl, by go_num, by omega, rfl, NB.out.1.2.2, NB.out.1.2.1, MS.out, RS.out, by simp [hl], NX.out⟩
          case measure => simp [intOf]; omega
        intro QQ FINE FIND FINQ
        clear hA
        refine anyC_takeD (i := 0) (v := v10) (some 28) rfl rfl (by kernel_rfl) (by kernel_rfl) (by kernel_rfl) (fun c a w => FINQ c a _ _ w) (KL.out _ _ _ MR.out) (by exact yieldsC_moveG (wanted_none rfl) _ rfl (HF.get 2 rfl)) ?_
        replace HF : AG 43 A [(6, .pointer (some ⟨w.heap.size, 0, none⟩)), (13, .int .i64 x4)] := HF.sub (fun z hz => by simp only [List.mem_cons, List.not_mem_nil, or_false] at hz ⊢; rcases hz with h | h; exact .inl h; exact .inr (.inl h))
        replace HF := HF.put 28 (v10) (by decide) rfl
        generalize hB1 : Act.put _ _ _ = A at HF ⊢
        refine anyC_takeD (i := 1) (v := .int .i64 x4) (some 29) rfl rfl (by kernel_rfl) (by kernel_rfl) (by kernel_rfl) (fun c a w => FINQ c a _ _ w) (KL.out _ _ _ MR.out) (by exact yieldsC_moveG (wanted_none rfl) _ rfl (HF.get 2 rfl)) ?_
        replace HF := HF.put 29 (.int .i64 x4) (by decide) rfl
        generalize hB2 : Act.put _ _ _ = A at HF ⊢
        refine anyC_takeD (i := 4) (v := .agg c.arr) (some 32) rfl rfl (by kernel_rfl) (by kernel_rfl) (by kernel_rfl) (fun c a w => FINQ c a _ _ w) (KL.out _ _ _ MR.out) (by exact yieldsC_row (C := TrC c w.heap.size) (wanted_none rfl) 28 _ rfl w.heap.size (HF.get 2 rfl) 28 _ _ _ (fun W hW => hW) Try.underlying28 rfl (by kernel_rfl)) ?_
        replace HF := HF.put 32 (.agg c.arr) (by decide) rfl
        generalize hB3 : Act.put _ _ _ = A at HF ⊢
        refine anyC_takeD (i := 5) (v := .int .i64 x4) (some 33) rfl rfl (by kernel_rfl) (by kernel_rfl) (by kernel_rfl) (fun c a w => FINQ c a _ _ w) (KL.out _ _ _ MR.out) (by exact yieldsC_moveG (wanted_none rfl) _ rfl (HF.get 4 rfl)) ?_
        replace HF := HF.put 33 (.int .i64 x4) (by decide) rfl
        generalize hB4 : Act.put _ _ _ = A at HF ⊢
        refine anyC_oneK (i := 2) (some 30) (by kernel_rfl) rfl (wanted_none rfl) rfl (fun K hK => ?_)
        refine wp_build1 rfl x4 (HF.get 2 rfl) ?_
        have MRb := Lib.hid (MR.out.more ((More.refl wq).alloc (.cells #[.int .i64 x4] 3)))
        have RRb := Lib.hid (RR.out.more ((More.refl wq).alloc (.cells #[.int .i64 x4] 3)))
        have BL := Lib.hid (heap_new wq (.cells #[.int .i64 x4] 3))
        refine hK _ _ (KL.out _ _ _ MRb.out) ?_
        clear hK K
        generalize hg : wq.heap.size = gb at BL ⊢
        generalize wq.alloc (.cells #[.int .i64 x4] 3) = wqb at MRb RRb BL ⊢
        clear hg
        replace HF := HF.put 30 (.slice (some ⟨gb, 0, none⟩) 1 1) (by decide) rfl
        generalize hB5 : Act.put _ _ _ = A at HF ⊢
        refine anyC_oneK (i := 3) (some 31) (by kernel_rfl) rfl (wanted_none rfl) rfl (fun K hK => ?_)
        refine wp_push (xs := l) x4 _ _ rfl (HF.get 4 rfl) RRb.out.1 (by have := MRb.out.size; omega) (by omega) (HF.get 0 rfl) BL.out ?_
        intro v' wqba hr' ht' hv'
        obtain ⟨mA, rA⟩ := MRb.out.grew RRb.out (Nat.le_refl _) ht' hr' hv'
        have MA := Lib.hid mA
        have RA := Lib.hid rA
        clear mA rA hr' ht' hv'
        refine hK _ _ (KL.out _ _ _ MA.out) ?_
        clear hK K
        replace HF := HF.put 31 (v') (by decide) rfl
        generalize hB6 : Act.put _ _ _ = A at HF ⊢
        refine anyC_oneK (i := 6) (some 34) (by kernel_rfl) rfl (wanted_none rfl) rfl (fun K hK => ?_)
        refine wp_call2 (v0 := .agg c.arr) (v1 := .int .i64 x4) rfl (HF.get 3 rfl) (HF.get 2 rfl) (enters_of Try.func25 (by kernel_rfl) rfl) ?_
        refine (y_next HR.out wqba x4).mono ?_
        rw [P3.out]
        rintro e wqban ⟨rfl, hn'⟩
        have MAn := Lib.hid (MA.out.more hn')
        have RAn := Lib.hid (RA.out.more hn')
        skip
        clear hn'
        refine hK _ _ (KL.out _ _ _ MAn.out) ?_
        clear hK K
        replace HF := HF.put 34 (.int .i64 (nA c.pg c.st x4)) (by decide) rfl
        generalize hB7 : Act.put _ _ _ = A at HF ⊢
        refine anyC_takeD (i := 7) (v := v') (some 10) rfl rfl (by kernel_rfl) (by kernel_rfl) (by kernel_rfl) (fun c a w => FINQ c a _ _ w) (KL.out _ _ _ MAn.out) (by exact yieldsC_assign (wanted_none rfl) _ rfl (HF.get 1 rfl)) ?_
        replace HF := HF.put 10 (v') (by decide) rfl
        generalize hC1 : Act.put _ _ _ = A at HF ⊢
        refine anyC_takeD (i := 8) (v := .int .i64 (nA c.pg c.st x4)) (some 12) rfl rfl (by kernel_rfl) (by kernel_rfl) (by kernel_rfl) (fun c a w => FINQ c a _ _ w) (KL.out _ _ _ MAn.out) (by exact yieldsC_assign (wanted_none rfl) _ rfl (HF.get 1 rfl)) ?_
        replace HF := HF.put 12 (.int .i64 (nA c.pg c.st x4)) (by decide) rfl
        generalize hC2 : Act.put _ _ _ = A at HF ⊢
        exact anyC_done (by kernel_rfl) (FINE _ _ ⟨_, _, _, _, _, _, _, v', D4, F4, by rw [← hC2, ← hC1, ← hB7, ← hB6, ← hB5, ← hB4, ← hB3, ← hB2, ← hB1], MAn.out, RAn.out⟩)
      · have hie : (i : Int) = c.pg := by omega
        have d3 : decide ((i : Int) < c.pg) = false := by simp; omega
        rw [show c.pg.toNat - i = 0 by omega] at hrest
        have FIN := Lib.hid (DONE.out (l, false) (.tuple #[v10, .bool false]) wr D' F' hrest.symm MI.out ⟨v10, rfl, RWI.out.mono hw1⟩)
        clear hrest
        go_wp2_with fail
        go_step3
        go_wp2_with fail
        go_ret2
        exact FIN.out
  · rintro a w' ⟨v, b, u12, u13, u14, u15, u16, u17, u18, u19, u20, u21, u22, u23, u24, u25, u26, u27, u28, u29, u30, u31, u32, u33, u34, u35, u36, u37, u38, u39, u40, u41, u42, rfl, l, D4, F4, hE, MS, RS⟩
    have FIN := Lib.hid (DONE.out (l, b) (.tuple #[v, .bool b]) w' D4 F4 hE MS ⟨v, rfl, RS.mono hw1⟩)
    clear hE MS RS
    go_wp2_with fail
    go_ret2
    exact FIN.out
end Go.Proofs.Ytcjnkadmiflgaaa
