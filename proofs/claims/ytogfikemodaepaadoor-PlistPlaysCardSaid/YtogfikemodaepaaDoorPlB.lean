/-
  The landed package plist: Link.
-/
import Derived.Test.YtogfikemodaepaaDoorPlA
namespace Go.Proofs.YtogfikemodaepaaDoor
open Go.RowKit Go.Sort Go.Maps Go.Shelf
set_option linter.unusedVariables false
set_option linter.unusedSimpArgs false

set_option maxRecDepth 100000 in
set_option maxHeartbeats 4000000 in
theorem pl_Link {c : Cfg} (R : c.Ok) {n : Nat} (H : HdIn c.pg c.st n) (hn : n ≤ 10000) (F : Nat → Prop) (p : Nat) (kn : Int → Option Int) (D : List KV) (q cl f : Int) (w : World) (hv : ViewAt w F p kn D) (hk : OkK kn) (hD : InvD n D) :
    Calls Tryd.prog 24 #[.pointer (some ⟨p, 0, none⟩), .agg c.arr, .int .i64 q, .int .i64 cl, .int .i64 f] w (WentV w F p kn (fun b => .bool b) (plLinkP c.pg c.st q cl f kn D)) := by
  obtain ⟨Rr, hRr⟩ : ∃ Rr, plLinkP c.pg c.st q cl f kn D = Rr := ⟨_, rfl⟩
  rw [hRr]
  obtain ⟨w1, e1, hl1, m1, s1⟩ := entry1 w (.cells c.arr 28)
  have nFl : ¬ F w.heap.size := fun q => by have := hv.lt _ q; omega
  have MM := Lib.hid m1
  have L0 := Lib.hid hl1
  have M0 : Hid (MidV w1 w1 F (fun _ => False) p kn n D F) := Lib.hid (MidV.begin (hv.more m1) hD)
  have KL : Hid (∀ wr D' F', MidV w1 wr F (fun _ => False) p kn n D' F' → wr.heap[w.heap.size]? = some (.cells c.arr 28 (0, 0))) := Lib.hid fun wr D' F' h => mid_own h L0.out nFl (fun q => q)
  have NEED : Hid (∀ a w2, Rr = .need a → DeadAt w2 p a → Turned (fun b => F b ∨ False) w1 w2 → WentV w F p kn (fun b : Bool => Value.bool b) Rr (.panicked (endOf p)) w2) := Lib.hid fun a w2 e hd ht => mid_need MM.out (fun _ q => q.elim) e hd ht
  have DONE : Hid (∀ x w2 D' F', Rr = .ok x D' → MidV w1 w2 F (fun _ => False) p kn n D' F' → WentV w F p kn (fun b : Bool => Value.bool b) Rr (.returned ((fun b : Bool => Value.bool b) x)) w2) := Lib.hid fun x w2 D' F' e h => mid_done MM.out (fun _ q => q.elim) h e
  have HK := Lib.hid hk
  have HR := Lib.hid R
  have HH := Lib.hid H
  clear hl1 m1 hv hD hk R H nFl
  unfold plLinkP at hRr
  by_cases hz : headV c.pg c.st cl f = 0
  · have d0 : (headV c.pg c.st cl f == 0) = true := by simp [hz]
    rw [if_pos hz] at hRr
    have FIN : Hid (∀ w2, More w1 w2 → WentV w F p kn (fun b : Bool => Value.bool b) Rr (.returned (.bool false)) w2) := Lib.hid fun w2 h => DONE.out false w2 D F hRr.symm (M0.out.more h)
    clear hRr hz
    go_enter Tryd.func24, Tryd.ntmps24
    go_wp2_with (first | (refine wpList_load_row rfl 28 _ rfl _ rfl 28 _ _ _ L0.out Tryd.underlying28 rfl (by kernel_rfl) ?_) | (refine wpList_load_rowG rfl 28 _ rfl _ rfl 28 _ _ _ L0.out Tryd.underlying28 rfl (by kernel_rfl) ?_))
    refine (y_head HR.out _ cl f).mono ?_
    rintro e w2 ⟨rfl, h2⟩
    have H2 := Lib.hid h2
    clear h2
    go_wp2_with fail
    go_ret
    exact FIN.out _ H2.out
  have d0 : (headV c.pg c.st cl f == 0) = false := by simp [hz]
  rw [if_neg hz] at hRr
  cases hq : isPage c.pg q with
  | false =>
    rw [hq] at hRr
    have FIN : Hid (∀ w2, More w1 w2 → WentV w F p kn (fun b : Bool => Value.bool b) Rr (.returned (.bool false)) w2) := Lib.hid fun w2 h => DONE.out false w2 D F hRr.symm (M0.out.more h)
    clear hRr hz
    go_enter Tryd.func24, Tryd.ntmps24
    go_wp2_with (first | (refine wpList_load_row rfl 28 _ rfl _ rfl 28 _ _ _ L0.out Tryd.underlying28 rfl (by kernel_rfl) ?_) | (refine wpList_load_rowG rfl 28 _ rfl _ rfl 28 _ _ _ L0.out Tryd.underlying28 rfl (by kernel_rfl) ?_))
    refine (y_head HR.out _ cl f).mono ?_
    rintro e w2 ⟨rfl, h2⟩
    have L2 := Lib.hid (h2.block L0.out)
    have H2 := Lib.hid h2
    clear h2
    go_wp2_with (first | (refine wpList_load_row rfl 28 _ rfl _ rfl 28 _ _ _ L2.out Tryd.underlying28 rfl (by kernel_rfl) ?_) | (refine wpList_load_rowG rfl 28 _ rfl _ rfl 28 _ _ _ L2.out Tryd.underlying28 rfl (by kernel_rfl) ?_))
    refine (pl_there HR.out HH.out q _).mono ?_
    rw [hq]
    rintro e w3 ⟨rfl, h3⟩
    have H3 := Lib.hid (H2.out.trans h3)
    clear h3
    go_wp2_with fail
    go_ret
    exact FIN.out _ H3.out
  | true =>
    rw [hq] at hRr
    have HQ := Lib.hid hq
    have HRr := Lib.hid (show bindP (plLeadP c.pg (headV c.pg c.st cl f)) (fun x => bindP (plJoinP c.pg c.st (headV c.pg c.st cl f) q x) fun _ => bindP (plJoinP c.pg c.st (headV c.pg c.st cl f) (-1) q) fun _ => pureP true) kn D = Rr from hRr)
    clear hRr hz hq
    go_enter Tryd.func24, Tryd.ntmps24
    go_wp2_with (first | (refine wpList_load_row rfl 28 _ rfl _ rfl 28 _ _ _ L0.out Tryd.underlying28 rfl (by kernel_rfl) ?_) | (refine wpList_load_rowG rfl 28 _ rfl _ rfl 28 _ _ _ L0.out Tryd.underlying28 rfl (by kernel_rfl) ?_))
    refine (y_head HR.out _ cl f).mono ?_
    rintro e w2 ⟨rfl, h2⟩
    have M2 := Lib.hid (M0.out.more h2)
    have L2 := Lib.hid (KL.out _ _ _ M2.out)
    clear h2
    go_wp2_with (first | (refine wpList_load_row rfl 28 _ rfl _ rfl 28 _ _ _ L2.out Tryd.underlying28 rfl (by kernel_rfl) ?_) | (refine wpList_load_rowG rfl 28 _ rfl _ rfl 28 _ _ _ L2.out Tryd.underlying28 rfl (by kernel_rfl) ?_))
    refine (pl_there HR.out HH.out q _).mono ?_
    rw [HQ.out]
    rintro e w3 ⟨rfl, h3⟩
    have M3 := Lib.hid (M2.out.more h3)
    clear h3 M2 L2
    go_wp2_with fail
    refine wp_region_anyC (TrC c w.heap.size) (by kernel_rfl) ?_
    have MR := Lib.hid (M3.out.more ((More.refl w3).drewN 1))
    change anyC _ _ _ _ _ _ _ _ (w3.drewN 1)
    generalize w3.drewN 1 = wr at MR ⊢
    generalize hA : Act.mk _ _ = A
    have HF : AG 38 A [(0, .pointer (some ⟨p, 0, none⟩)), (1, .agg c.arr), (2, .int .i64 q), (3, .int .i64 cl), (4, .int .i64 f), (6, .pointer (some ⟨w.heap.size, 0, none⟩)), (11, .int .i64 (headV c.pg c.st cl f))] := by
      rw [← hA]
      refine ⟨⟨Nat.le_of_ble_eq_true rfl, rfl⟩, ?_⟩
      intro z hz; simp only [List.mem_cons, List.not_mem_nil, or_false] at hz; rcases hz with rfl | rfl | rfl | rfl | rfl | rfl | rfl <;> rfl
    refine anyC_start (fun a W => ∃ (u24 u25 u26 u27 u28 u29 u30 u31 u32 : Value) (D9 : List KV) (F9 : Nat → Prop), a = (Act.put (Act.put (Act.put (Act.put (Act.put (Act.put (Act.put (Act.put (Act.put A (some 24) u24) (some 25) u25) (some 26) u26) (some 27) u27) (some 28) u28) (some 29) u29) (some 30) u30) (some 31) u31) (some 32) u32) ∧ MidV w1 W F (fun _ => False) p kn n D9 F9 ∧ bindP (plJoinP c.pg c.st (headV c.pg c.st cl f) (-1) q) (fun _ => pureP true) kn D9 = Rr) (fun W => WentV w F p kn (fun b : Bool => Value.bool b) Rr (.panicked (endOf p)) W) (endOf p) (fun a W hd h => ⟨hd, h⟩) (fun _ _ _ _ _ h => h) ?_ ?_
    · skip
      rintro a wa ⟨u24, u25, u26, u27, u28, u29, u30, u31, u32, D5, F5, rfl, MS, RS⟩
      rw [← hA]
      have MS := Lib.hid MS
      have LS := Lib.hid (KL.out _ _ _ MS.out)
      have RS := Lib.hid RS
      clear HF hA MR M3 HRr
      go_wp2_with (first | (refine wpList_load_row rfl 28 _ rfl _ rfl 28 _ _ _ LS.out Tryd.underlying28 rfl (by kernel_rfl) ?_) | (refine wpList_load_rowG rfl 28 _ rfl _ rfl 28 _ _ _ LS.out Tryd.underlying28 rfl (by kernel_rfl) ?_))
      refine (pl_join HR.out HH.out hn F5 p kn D5 (headV c.pg c.st cl f) (-1) q (head_b HH.out).2.2 (head_b HH.out).2.1 (.inl rfl) (.inr HQ.out) wa MS.out.view HK.out MS.out.inv).mono ?_
      intro e w6 he
      rcases MS.out.step (More.refl _) HK.out (good_plJoin HH.out (head_b HH.out).2.2 (head_b HH.out).2.1 (.inl rfl) (.inr HQ.out)) he with ⟨a', hE, rfl, hd', ht', _⟩ | ⟨x6, D6, F6, hE, rfl, M6, hq6, _, _⟩
      · exact ⟨rfl, NEED.out a' w6 (RS.out.symm.trans (bindP_need hE)) hd' ht'⟩
      have FIN := Lib.hid (DONE.out true w6 D6 F6 (RS.out.symm.trans (bindP_ok hE)) M6)
      clear he hE M6
      go_wp2_with fail
      go_ret
      exact FIN.out
    intro QQ FINE FIND FINQ
    clear hA
    refine anyC_takeD (i := 0) (v := .pointer (some ⟨p, 0, none⟩)) (some 24) rfl rfl (by kernel_rfl) (by kernel_rfl) (by kernel_rfl) (fun c a w => FINQ c a _ _ w) (KL.out _ _ _ MR.out) (by exact yieldsC_moveG (wanted_none rfl) _ rfl (HF.get 0 rfl)) ?_
    replace HF := HF.put 24 (.pointer (some ⟨p, 0, none⟩)) (by decide) rfl
    generalize hB1_24 : Act.put _ _ _ = A at HF ⊢
    refine anyC_takeD (i := 1) (v := .agg c.arr) (some 25) rfl rfl (by kernel_rfl) (by kernel_rfl) (by kernel_rfl) (fun c a w => FINQ c a _ _ w) (KL.out _ _ _ MR.out) (by exact yieldsC_row (C := (TrC c w.heap.size)) (wanted_none rfl) 28 _ rfl w.heap.size (HF.get 6 rfl) 28 _ _ _ (fun W hW => hW) Tryd.underlying28 rfl (by kernel_rfl)) ?_
    replace HF := HF.put 25 (.agg c.arr) (by decide) rfl
    generalize hB2_25 : Act.put _ _ _ = A at HF ⊢
    refine anyC_takeD (i := 2) (v := .int .i64 (headV c.pg c.st cl f)) (some 26) rfl rfl (by kernel_rfl) (by kernel_rfl) (by kernel_rfl) (fun c a w => FINQ c a _ _ w) (KL.out _ _ _ MR.out) (by exact yieldsC_moveG (wanted_none rfl) _ rfl (HF.get 8 rfl)) ?_
    replace HF := HF.put 26 (.int .i64 (headV c.pg c.st cl f)) (by decide) rfl
    generalize hB3_26 : Act.put _ _ _ = A at HF ⊢
    refine anyC_takeD (i := 3) (v := .int .i64 q) (some 27) rfl rfl (by kernel_rfl) (by kernel_rfl) (by kernel_rfl) (fun c a w => FINQ c a _ _ w) (KL.out _ _ _ MR.out) (by exact yieldsC_moveG (wanted_none rfl) _ rfl (HF.get 5 rfl)) ?_
    replace HF := HF.put 27 (.int .i64 q) (by decide) rfl
    generalize hB4_27 : Act.put _ _ _ = A at HF ⊢
    refine anyC_takeD (i := 4) (v := .pointer (some ⟨p, 0, none⟩)) (some 28) rfl rfl (by kernel_rfl) (by kernel_rfl) (by kernel_rfl) (fun c a w => FINQ c a _ _ w) (KL.out _ _ _ MR.out) (by exact yieldsC_moveG (wanted_none rfl) _ rfl (HF.get 4 rfl)) ?_
    replace HF := HF.put 28 (.pointer (some ⟨p, 0, none⟩)) (by decide) rfl
    generalize hB5_28 : Act.put _ _ _ = A at HF ⊢
    refine anyC_takeD (i := 5) (v := .agg c.arr) (some 29) rfl rfl (by kernel_rfl) (by kernel_rfl) (by kernel_rfl) (fun c a w => FINQ c a _ _ w) (KL.out _ _ _ MR.out) (by exact yieldsC_row (C := (TrC c w.heap.size)) (wanted_none rfl) 28 _ rfl w.heap.size (HF.get 10 rfl) 28 _ _ _ (fun W hW => hW) Tryd.underlying28 rfl (by kernel_rfl)) ?_
    replace HF := HF.put 29 (.agg c.arr) (by decide) rfl
    generalize hB6_29 : Act.put _ _ _ = A at HF ⊢
    refine anyC_takeD (i := 6) (v := .int .i64 (headV c.pg c.st cl f)) (some 30) rfl rfl (by kernel_rfl) (by kernel_rfl) (by kernel_rfl) (fun c a w => FINQ c a _ _ w) (KL.out _ _ _ MR.out) (by exact yieldsC_moveG (wanted_none rfl) _ rfl (HF.get 12 rfl)) ?_
    replace HF := HF.put 30 (.int .i64 (headV c.pg c.st cl f)) (by decide) rfl
    generalize hB7_30 : Act.put _ _ _ = A at HF ⊢
    refine anyC_oneK (i := 7) (some 31) (by kernel_rfl) rfl (wanted_none rfl) rfl (fun K hK => ?_)
    refine wp_call3 (v0 := .pointer (some ⟨p, 0, none⟩)) (v1 := .agg c.arr) (v2 := .int .i64 (headV c.pg c.st cl f)) rfl (HF.get 2 rfl) (HF.get 1 rfl) (HF.get 0 rfl) (enters_of Tryd.func34 (by kernel_rfl) rfl) ?_
    refine (pl_leads HR.out HH.out F p kn D (headV c.pg c.st cl f) (head_b HH.out).2.2 (head_b HH.out).2.1 wr MR.out.view HK.out MR.out.inv).mono ?_
    intro e w4 he
    rcases MR.out.step (More.refl _) HK.out (good_plLead HH.out (head_b HH.out).2.1) he with ⟨a', hE, rfl, hd', ht', _⟩ | ⟨x4, D4, F4, hE, rfl, M4, hq4, _, _⟩
    · exact FIND _ _ HF.1.2 (NEED.out a' w4 (HRr.out.symm.trans (bindP_need hE)) hd' ht')
    have R4 := Lib.hid ((bindP_ok hE).symm.trans HRr.out)
    have M4 := Lib.hid M4
    clear he hE
    refine hK _ _ (KL.out _ _ _ M4.out) ?_
    clear hK K
    replace HF := HF.put 31 (.int .i64 x4) (by decide) rfl
    generalize hB8_31 : Act.put _ _ _ = A at HF ⊢
    refine anyC_oneK (i := 8) (some 32) (by kernel_rfl) rfl (wanted_none rfl) rfl (fun K hK => ?_)
    refine wp_call5 (v0 := .pointer (some ⟨p, 0, none⟩)) (v1 := .agg c.arr) (v2 := .int .i64 (headV c.pg c.st cl f)) (v3 := .int .i64 q) (v4 := .int .i64 x4) rfl (HF.get 7 rfl) (HF.get 6 rfl) (HF.get 5 rfl) (HF.get 4 rfl) (HF.get 0 rfl) (enters_of Tryd.func43 (by kernel_rfl) rfl) ?_
    refine (pl_join HR.out HH.out hn F4 p kn D4 (headV c.pg c.st cl f) q x4 (head_b HH.out).2.2 (head_b HH.out).2.1 (.inr HQ.out) hq4 w4 M4.out.view HK.out M4.out.inv).mono ?_
    intro e w5 he
    rcases M4.out.step (More.refl _) HK.out (good_plJoin HH.out (head_b HH.out).2.2 (head_b HH.out).2.1 (.inr HQ.out) hq4) he with ⟨a', hE, rfl, hd', ht', _⟩ | ⟨x5, D5, F5, hE, rfl, M5, hq5, _, _⟩
    · exact FIND _ _ HF.1.2 (NEED.out a' w5 (R4.out.symm.trans (bindP_need hE)) hd' ht')
    have R5 := Lib.hid ((bindP_ok hE).symm.trans R4.out)
    have M5 := Lib.hid M5
    clear he hE
    refine hK _ _ (KL.out _ _ _ M5.out) ?_
    clear hK K
    replace HF := HF.put 32 (.tuple #[]) (by decide) rfl
    generalize hB9_32 : Act.put _ _ _ = A at HF ⊢
    exact anyC_done (by kernel_rfl) (FINE _ _ ⟨(.pointer (some ⟨p, 0, none⟩)), (.agg c.arr), (.int .i64 (headV c.pg c.st cl f)), (.int .i64 q), (.pointer (some ⟨p, 0, none⟩)), (.agg c.arr), (.int .i64 (headV c.pg c.st cl f)), (.int .i64 x4), (.tuple #[]), D5, F5, by rw [← hB9_32, ← hB8_31, ← hB7_30, ← hB6_29, ← hB5_28, ← hB4_27, ← hB3_26, ← hB2_25, ← hB1_24], M5.out, R5.out⟩)
end Go.Proofs.YtogfikemodaepaaDoor
