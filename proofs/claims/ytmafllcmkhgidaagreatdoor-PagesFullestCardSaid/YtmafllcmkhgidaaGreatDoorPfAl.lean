/-
  The landed package pages: put.
-/
import Derived.Test.YtmafllcmkhgidaaGreatDoorPfAk
import Derived.Test.YtmafllcmkhgidaaGreatDoorPfAi
import Derived.Test.YtmafllcmkhgidaaGreatDoorPfAh
set_option maxRecDepth 100000
set_option maxHeartbeats 8000000
set_option linter.unusedVariables false
set_option linter.unusedSimpArgs false
set_option linter.unusedSectionVars false
namespace Go.Proofs.YtmafllcmkhgidaaGreatDoor
open Go.RowKit Go.Sort Go.Maps Go.Shelf
def openV (k b : Int) : Int := slotsC k - slCountV b (slotsC k)
def pgPutP (pg st q k b : Int) : Prg Unit := if openV k b = slotsC k then bindP (edropP pg st q) (fun _ => pureP ()) else bindP (writeP (bA pg st q) b) fun _ => bindP (writeP (cA pg st q) (openV k b)) fun _ => pureP ()
theorem sound_pgPut (pg st q k b : Int) : Sound (pgPutP pg st q k b) := sound_ite (sound_bind (sound_drop _ _ _) (fun _ => sound_pure _)) (sound_bind (sound_write _ _) (fun _ => sound_bind (sound_write _ _) (fun _ => sound_pure _)))
theorem g_put {c : Cfg} (R : c.Ok) {n : Nat} (H : PgIn c.pg c.st n) (hn : n ≤ 10000) (F : Nat → Prop) (p : Nat) (kn : Int → Option Int) (D : List KV) (q k b : Int) (hq : isPage c.pg q = true) (hb : W64 b) (hcb : 0 ≤ slCountV b (slotsC k) ∧ slCountV b (slotsC k) ≤ 32) (w : World) (hv : ViewAt w F p kn D) (hk : OkK kn) (hD : InvD n D) (bt : Nat) (hs : SzAt bt w) (nF0 : ¬ F 0) (nFb : ¬ F bt) :
   Calls Tryz.prog 39 #[.agg (pgArr c p q k),.int .i64 b] w (WentV w F p kn (fun _ : Unit => .tuple #[]) (pgPutP c.pg c.st q k b kn D)) := by
 obtain ⟨Rr,hRr⟩ : ∃ Rr,pgPutP c.pg c.st q k b kn D = Rr := ⟨_,rfl⟩
 rw [hRr]
 obtain ⟨w1,e1,hl1,m1,s1⟩ := entry1 w (.cells (pgArr c p q k) 74)
 have MM := hQQ m1
 have L0 := hQQ hl1
 have c0 := (show w1.cell? ⟨w.heap.size,0,none⟩ = some (.pointer (some ⟨p,0,none⟩)) by rw [cell_of_row w1 _ _ _ _ _ hl1]; exact pg_v c p q k)
 have c25 := (show w1.cell? ⟨w.heap.size,25,none⟩ = some (.int .i64 q) by rw [cell_of_row w1 _ _ _ _ _ hl1]; exact pg_n c p q k)
 have c26 := (show w1.cell? ⟨w.heap.size,26,none⟩ = some (.int .i64 k) by rw [cell_of_row w1 _ _ _ _ _ hl1]; exact pg_c c p q k)
 have nFl : ¬ F w.heap.size := fun z => by have := hv.lt _ z; omega
 have L00 := hQQ hl1
 have SZ1 := hQQ (hs.more m1)
 have KP : Hid (∀ wr D' F',MidV w1 wr F (fun _ => False) p kn n D' F' → wr.heap[w.heap.size]? = some (.cells (pgArr c p q k) 74 (0,0)) ∧ SzAt bt wr) := hQQ fun wr D' F' h => ⟨mid_own h L00.out nFl (fun q => q),SZ1.out.keep h.turn (by rintro (z | z); exact nF0 z; exact z) (by rintro (z | z); exact nFb z; exact z)⟩
 have nFl : ¬ F w.heap.size := fun z => by have := hv.lt _ z; omega
 have M0 : Hid (MidV w1 w1 F (fun _ => False) p kn n D F) := hQQ (MidV.begin (hv.more m1) hD)
 have NEED : Hid (∀ a w2,Rr = .need a → DeadAt w2 p a → Turned (fun b => F b ∨ False) w1 w2 → WentV w F p kn (fun _ : Unit => Value.tuple #[]) Rr (.panicked (endOf p)) w2) := hQQ fun a w2 e hd ht => mid_need MM.out (fun _ q => q.elim) e hd ht
 have DONE : Hid (∀ x w2 D' F',Rr = .ok x D' → MidV w1 w2 F (fun _ => False) p kn n D' F' → WentV w F p kn (fun _ : Unit => Value.tuple #[]) Rr (.returned ((fun _ : Unit => Value.tuple #[]) x)) w2) := hQQ fun x w2 D' F' e h => mid_done MM.out (fun _ q => q.elim) h e
 have HK := hQQ hk
 have HR := hQQ R
 clear hl1 m1 hv hD hk R nFl
 have CC : Hid (∀ W : World,W.heap[w.heap.size]? = some (.cells (pgArr c p q k) 74 (0,0)) → W.cell? ⟨w.heap.size,0,none⟩ = some (.pointer (some ⟨p,0,none⟩)) ∧ W.cell? ⟨w.heap.size,25,none⟩ = some (.int .i64 q) ∧ W.cell? ⟨w.heap.size,26,none⟩ = some (.int .i64 k)) := hQQ fun W hl1 =>
   ⟨by rw [cell_of_row W _ _ _ _ _ hl1]; exact pg_v c p q k,by rw [cell_of_row W _ _ _ _ _ hl1]; exact pg_n c p q k,by rw [cell_of_row W _ _ _ _ _ hl1]; exact pg_c c p q k⟩
 have YB := hQQ (fun W => by have := g_bitsA HR.out W q; rw [page2 hq] at this; exact this)
 have YC := hQQ (fun W => by have := g_countA HR.out W q; rw [page1 hq] at this; exact this)
 have PB := hQQ (page_b H hq)
 have hs3 := slots_in k
 have hqq := isPage_iff.1 hq
 have pg2 := HR.out.pg2
 have HB := hQQ hb
 have HH := hQQ H
 have GO := hQQ (fun W (hW : SzAt bt W) => g_open c p q k b W hW hcb)
 have GS := hQQ (fun W (hW : SzAt bt W) => g_slots k W hW)
 have OB : W64 (openV k b) := by unfold openV W64; omega
 have HOB := hQQ OB
 unfold pgPutP at hRr
 obtain ⟨ov,hov⟩ : ∃ ov,openV k b = ov := ⟨_,rfl⟩
 rw [show slotsC k - slCountV b (slotsC k) = ov from hov] at GO
 rw [hov] at hRr HOB
 obtain ⟨sv,hsv⟩ : ∃ sv,slotsC k = sv := ⟨_,rfl⟩
 rw [hsv] at hRr GS
 clear H hq hb hcb hs OB hov hsv hs3 nF0 nFb c0 c25 c26
 go_enter Tryz.func39,Tryz.ntmps39
 go_wp2_with (refine wpList_load_row rfl 74 _ rfl _ rfl 74 _ _ _ L0.out Tryz.underlying74 rfl (by kernel_rfl) ?_)
 clear e1
 refine (GO.out w1 SZ1.out).mono ?_
 rintro e w2 ⟨rfl,h2⟩
 have M2 := hQQ (M0.out.more h2)
 have L2 := hQQ (KP.out _ _ _ M2.out).1
 clear h2
 obtain ⟨c0,c25,c26⟩ := CC.out _ L2.out
 go_wp2_with fail
 refine (GS.out w2 (KP.out _ _ _ M2.out).2).mono ?_
 rintro e w3 ⟨rfl,h3⟩
 have M3 := hQQ (M2.out.more h3)
 have L3 := hQQ (KP.out _ _ _ M3.out).1
 clear h3 c0 c25 c26
 obtain ⟨c0,c25,c26⟩ := CC.out _ L3.out
 by_cases eo : ov = sv
 · have d0 : (ov == sv) = true := by simp [eo]
   rw [if_pos eo] at hRr
   have HRr := hQQ hRr
   clear hRr eo
   go_wp2_with (refine wpList_load_sub rfl 28 _ rfl w.heap.size 1 rfl 74 _ c.arr _ _ L3.out (pg_part c p q k) Tryz.underlying28 rfl (by kernel_rfl) ?_)
   clear c0 c25 c26
   refine (e_Drop HR.out HH.out hn F p kn D q (by unfold W64; omega) w3 M3.out.view HK.out M3.out.inv).mono ?_
   intro e w4 he
   rcases M3.out.step (More.refl _) HK.out (good_drop HH.out _) he with ⟨a',hE,rfl,hd',ht',_⟩ | ⟨x4,D4,F4,hE,rfl,M4,hq4,_,_⟩
   · exact ⟨rfl,NEED.out a' w4 (HRr.out.symm.trans (bindP_need hE)) hd' ht'⟩
   have R4 := hQQ ((bindP_ok hE).symm.trans HRr.out)
   have M4 := hQQ M4
   obtain ⟨lp,lc⟩ := KP.out _ _ _ M4.out
   have L4 := hQQ lp
   clear he hE lp lc
   have FIN := hQQ (DONE.out () w4 D4 F4 R4.out.symm M4.out)
   go_wp2_with fail
   go_end0
   exact FIN.out
 · have d0 : (ov == sv) = false := by simpa using eo
   rw [if_neg eo] at hRr
   have HRr := hQQ hRr
   clear hRr eo
   have C0 := hQQ c0
   have C25 := hQQ c25
   clear c0 c25 c26
   go_wp2_with fail
   refine wp_region_more_tail 8 (by kernel_rfl) (by kernel_rfl) ?_
   simp only [List.take_succ_cons,List.take_zero,List.drop_succ_cons,List.drop_zero]
   iterate 3
     with_reducible refine wpQuiet_step (fun K hK => ?_)
     go_simp
     first
     | (refine hK _ ?_; clear hK K)
     | (apply Exists.intro
        refine ⟨fun W hW => ?_,hK _ ?_⟩
        first
        | (have c1' := hW.cell C0.out; go_simp; try rfl)
        clear hK K)
   refine wpQuiet_load_sub rfl 28 _ rfl w.heap.size 1 rfl 74 _ c.arr _ _ (fun W hW => hW.block L3.out) (pg_part c p q k) Tryz.underlying28 rfl (by kernel_rfl) ?_
   iterate 2
     with_reducible refine wpQuiet_step (fun K hK => ?_)
     go_simp
     first
     | (refine hK _ ?_; clear hK K)
     | (apply Exists.intro
        refine ⟨fun W hW => ?_,hK _ ?_⟩
        first
        | (have c1' := hW.cell C25.out; go_simp; try rfl)
        clear hK K)
   iterate 1
     with_reducible refine wpQuiet_step (fun K hK => ?_)
     go_simp
     first
     | (refine hK _ ?_; clear hK K)
     | (apply Exists.intro
        refine ⟨fun W hW => ?_,hK _ ?_⟩
        first
        | (go_at_call 11; exact Calls.more hW (YB.out W))
        | (go_simp; try rfl)
        clear hK K)
   iterate 1
     with_reducible refine wpQuiet_step (fun K hK => ?_)
     go_simp
     first
     | (refine hK _ ?_; clear hK K)
     | (apply Exists.intro
        refine ⟨fun W hW => ?_,hK _ ?_⟩
        first
        | (go_simp; try rfl)
        clear hK K)
   refine wpQuiet_nil ?_
   intro w4 h4
   have M4 := hQQ (M3.out.more h4)
   clear h4
   go_wp2_with fail
   refine (write_any F p kn D (bA c.pg c.st q) b w4 M4.out.view (by have := M4.out.inv.len; omega)).mono ?_
   intro e w5 he
   rcases M4.out.step (More.refl _) HK.out (good_write n (by have := PB.out.2.2; unfold W64; omega) PB.out.2.2.2.1 HB.out) he with ⟨a',hE,rfl,hd',ht',_⟩ | ⟨x5,D5,F5,hE,rfl,M5,hq5,_,_⟩
   · exact ⟨rfl,NEED.out a' w5 (HRr.out.symm.trans (bindP_need hE)) hd' ht'⟩
   have R5 := hQQ ((bindP_ok hE).symm.trans HRr.out)
   have M5 := hQQ M5
   obtain ⟨lp,lc⟩ := KP.out _ _ _ M5.out
   have L5 := hQQ lp
   clear he hE lp lc
   obtain ⟨c0,c25,c26⟩ := CC.out _ L5.out
   have C05 := hQQ c0
   have C255 := hQQ c25
   clear c0 c25 c26
   go_wp2_with fail
   refine wp_region_more_tail 8 (by kernel_rfl) (by kernel_rfl) ?_
   simp only [List.take_succ_cons,List.take_zero,List.drop_succ_cons,List.drop_zero]
   iterate 3
     with_reducible refine wpQuiet_step (fun K hK => ?_)
     go_simp
     first
     | (refine hK _ ?_; clear hK K)
     | (apply Exists.intro
        refine ⟨fun W hW => ?_,hK _ ?_⟩
        first
        | (have c1' := hW.cell C05.out; go_simp; try rfl)
        clear hK K)
   refine wpQuiet_load_sub rfl 28 _ rfl w.heap.size 1 rfl 74 _ c.arr _ _ (fun W hW => hW.block L5.out) (pg_part c p q k) Tryz.underlying28 rfl (by kernel_rfl) ?_
   iterate 2
     with_reducible refine wpQuiet_step (fun K hK => ?_)
     go_simp
     first
     | (refine hK _ ?_; clear hK K)
     | (apply Exists.intro
        refine ⟨fun W hW => ?_,hK _ ?_⟩
        first
        | (have c1' := hW.cell C255.out; go_simp; try rfl)
        clear hK K)
   iterate 1
     with_reducible refine wpQuiet_step (fun K hK => ?_)
     go_simp
     first
     | (refine hK _ ?_; clear hK K)
     | (apply Exists.intro
        refine ⟨fun W hW => ?_,hK _ ?_⟩
        first
        | (go_at_call 69; exact Calls.more hW (YC.out W))
        | (go_simp; try rfl)
        clear hK K)
   iterate 1
     with_reducible refine wpQuiet_step (fun K hK => ?_)
     go_simp
     first
     | (refine hK _ ?_; clear hK K)
     | (apply Exists.intro
        refine ⟨fun W hW => ?_,hK _ ?_⟩
        first
        | (go_simp; try rfl)
        clear hK K)
   refine wpQuiet_nil ?_
   intro w6 h6
   have M6 := hQQ (M5.out.more h6)
   clear h6
   go_wp2_with fail
   refine (write_any F5 p kn D5 (cA c.pg c.st q) ov w6 M6.out.view (by have := M6.out.inv.len; omega)).mono ?_
   intro e w7 he
   rcases M6.out.step (More.refl _) HK.out (good_write n (by have := PB.out.2.1; unfold W64; omega) PB.out.2.1.2.1 HOB.out) he with ⟨a',hE,rfl,hd',ht',_⟩ | ⟨x7,D7,F7,hE,rfl,M7,hq7,_,_⟩
   · exact ⟨rfl,NEED.out a' w7 (R5.out.symm.trans (bindP_need hE)) hd' ht'⟩
   have R7 := hQQ ((bindP_ok hE).symm.trans R5.out)
   have M7 := hQQ M7
   obtain ⟨lp,lc⟩ := KP.out _ _ _ M7.out
   have L7 := hQQ lp
   clear he hE lp lc
   have FIN := hQQ (DONE.out () w7 D7 F7 R7.out.symm M7.out)
   go_wp2_with fail
   go_end0
   exact FIN.out
theorem pl_Link {c : Cfg} (R : c.Ok) {n : Nat} (H : HdIn c.pg c.st n) (hn : n ≤ 10000) (F : Nat → Prop) (p : Nat) (kn : Int → Option Int) (D : List KV) (q cl f : Int) (w : World) (hv : ViewAt w F p kn D) (hk : OkK kn) (hD : InvD n D) :
   Calls Tryz.prog 66 #[.pointer (some ⟨p,0,none⟩),.agg c.arr,.int .i64 q,.int .i64 cl,.int .i64 f] w (WentV w F p kn (fun b => .bool b) (plLinkP c.pg c.st q cl f kn D)) := by
 obtain ⟨Rr,hRr⟩ : ∃ Rr,plLinkP c.pg c.st q cl f kn D = Rr := ⟨_,rfl⟩
 rw [hRr]
 obtain ⟨w1,e1,hl1,m1,s1⟩ := entry1 w (.cells c.arr 28)
 have nFl : ¬ F w.heap.size := fun q => by have := hv.lt _ q; omega
 have MM := hQQ m1
 have L0 := hQQ hl1
 have M0 : Hid (MidV w1 w1 F (fun _ => False) p kn n D F) := hQQ (MidV.begin (hv.more m1) hD)
 have KL : Hid (∀ wr D' F',MidV w1 wr F (fun _ => False) p kn n D' F' → wr.heap[w.heap.size]? = some (.cells c.arr 28 (0,0))) := hQQ fun wr D' F' h => mid_own h L0.out nFl (fun q => q)
 have NEED : Hid (∀ a w2,Rr = .need a → DeadAt w2 p a → Turned (fun b => F b ∨ False) w1 w2 → WentV w F p kn (fun b : Bool => Value.bool b) Rr (.panicked (endOf p)) w2) := hQQ fun a w2 e hd ht => mid_need MM.out (fun _ q => q.elim) e hd ht
 have DONE : Hid (∀ x w2 D' F',Rr = .ok x D' → MidV w1 w2 F (fun _ => False) p kn n D' F' → WentV w F p kn (fun b : Bool => Value.bool b) Rr (.returned ((fun b : Bool => Value.bool b) x)) w2) := hQQ fun x w2 D' F' e h => mid_done MM.out (fun _ q => q.elim) h e
 have HK := hQQ hk
 have HR := hQQ R
 have HH := hQQ H
 clear hl1 m1 hv hD hk R H nFl
 unfold plLinkP at hRr
 by_cases hz : headV c.pg c.st cl f = 0
 · have d0 : (headV c.pg c.st cl f == 0) = true := by simp [hz]
   rw [if_pos hz] at hRr
   have FIN : Hid (∀ w2,More w1 w2 → WentV w F p kn (fun b : Bool => Value.bool b) Rr (.returned (.bool false)) w2) := hQQ fun w2 h => DONE.out false w2 D F hRr.symm (M0.out.more h)
   clear hRr hz
   go_enter Tryz.func66,Tryz.ntmps66
   go_wp2_with (refine wpList_load_rowG rfl 28 _ rfl _ rfl 28 _ _ _ L0.out Tryz.underlying28 rfl (by kernel_rfl) ?_)
   refine (y_head HR.out _ cl f).mono ?_
   rintro e w2 ⟨rfl,h2⟩
   have H2 := hQQ h2
   clear h2
   go_wp2_with fail
   go_ret
   exact FIN.out _ H2.out
 have d0 : (headV c.pg c.st cl f == 0) = false := by simp [hz]
 rw [if_neg hz] at hRr
 cases hq : isPage c.pg q with
 | false =>
   rw [hq] at hRr
   have FIN : Hid (∀ w2,More w1 w2 → WentV w F p kn (fun b : Bool => Value.bool b) Rr (.returned (.bool false)) w2) := hQQ fun w2 h => DONE.out false w2 D F hRr.symm (M0.out.more h)
   clear hRr hz
   go_enter Tryz.func66,Tryz.ntmps66
   go_wp2_with (refine wpList_load_rowG rfl 28 _ rfl _ rfl 28 _ _ _ L0.out Tryz.underlying28 rfl (by kernel_rfl) ?_)
   refine (y_head HR.out _ cl f).mono ?_
   rintro e w2 ⟨rfl,h2⟩
   have L2 := hQQ (h2.block L0.out)
   have H2 := hQQ h2
   clear h2
   go_wp2_with (refine wpList_load_rowG rfl 28 _ rfl _ rfl 28 _ _ _ L2.out Tryz.underlying28 rfl (by kernel_rfl) ?_)
   refine (pl_there HR.out HH.out q _).mono ?_
   rw [hq]
   rintro e w3 ⟨rfl,h3⟩
   have H3 := hQQ (H2.out.trans h3)
   clear h3
   go_wp2_with fail
   go_ret
   exact FIN.out _ H3.out
 | true =>
   rw [hq] at hRr
   have HQ := hQQ hq
   have HRr := hQQ (show bindP (plLeadP c.pg (headV c.pg c.st cl f)) (fun x => bindP (plJoinP c.pg c.st (headV c.pg c.st cl f) q x) fun _ => bindP (plJoinP c.pg c.st (headV c.pg c.st cl f) (-1) q) fun _ => pureP true) kn D = Rr from hRr)
   clear hRr hz hq
   go_enter Tryz.func66,Tryz.ntmps66
   go_wp2_with (refine wpList_load_rowG rfl 28 _ rfl _ rfl 28 _ _ _ L0.out Tryz.underlying28 rfl (by kernel_rfl) ?_)
   refine (y_head HR.out _ cl f).mono ?_
   rintro e w2 ⟨rfl,h2⟩
   have M2 := hQQ (M0.out.more h2)
   have L2 := hQQ (KL.out _ _ _ M2.out)
   clear h2
   go_wp2_with (refine wpList_load_rowG rfl 28 _ rfl _ rfl 28 _ _ _ L2.out Tryz.underlying28 rfl (by kernel_rfl) ?_)
   refine (pl_there HR.out HH.out q _).mono ?_
   rw [HQ.out]
   rintro e w3 ⟨rfl,h3⟩
   have M3 := hQQ (M2.out.more h3)
   clear h3 M2 L2
   go_wp2_with fail
   refine wp_region_anyC (TrC c w.heap.size) (by kernel_rfl) ?_
   have MR := hQQ (M3.out.more ((More.refl w3).drewN 1))
   change anyC _ _ _ _ _ _ _ _ (w3.drewN 1)
   generalize w3.drewN 1 = wr at MR ⊢
   generalize hA : Act.mk _ _ = A
   have HF : AG 38 A [(0,.pointer (some ⟨p,0,none⟩)),(1,.agg c.arr),(2,.int .i64 q),(3,.int .i64 cl),(4,.int .i64 f),(6,.pointer (some ⟨w.heap.size,0,none⟩)),(11,.int .i64 (headV c.pg c.st cl f))] := by
     rw [← hA]
     refine ⟨⟨Nat.le_of_ble_eq_true rfl,rfl⟩,?_⟩
     intro z hz; simp only [List.mem_cons,List.not_mem_nil,or_false] at hz; rcases hz with rfl | rfl | rfl | rfl | rfl | rfl | rfl <;> rfl
   refine anyC_start (fun a W => ∃ (u24 u25 u26 u27 u28 u29 u30 u31 u32 : Value) (D9 : List KV) (F9 : Nat → Prop),a = (Act.put (Act.put (Act.put (Act.put (Act.put (Act.put (Act.put (Act.put (Act.put A (some 24) u24) (some 25) u25) (some 26) u26) (some 27) u27) (some 28) u28) (some 29) u29) (some 30) u30) (some 31) u31) (some 32) u32) ∧ MidV w1 W F (fun _ => False) p kn n D9 F9 ∧ bindP (plJoinP c.pg c.st (headV c.pg c.st cl f) (-1) q) (fun _ => pureP true) kn D9 = Rr) (fun W => WentV w F p kn (fun b : Bool => Value.bool b) Rr (.panicked (endOf p)) W) (endOf p) (fun a W hd h => ⟨hd,h⟩) (fun _ _ _ _ _ h => h) ?_ ?_
   · skip
     rintro a wa ⟨u24,u25,u26,u27,u28,u29,u30,u31,u32,D5,F5,rfl,MS,RS⟩
     rw [← hA]
     have MS := hQQ MS
     have LS := hQQ (KL.out _ _ _ MS.out)
     have RS := hQQ RS
     clear HF hA MR M3 HRr
     go_wp2_with (refine wpList_load_rowG rfl 28 _ rfl _ rfl 28 _ _ _ LS.out Tryz.underlying28 rfl (by kernel_rfl) ?_)
     refine (pl_join HR.out HH.out hn F5 p kn D5 (headV c.pg c.st cl f) (-1) q (head_b HH.out).2.2 (head_b HH.out).2.1 (.inl rfl) (.inr HQ.out) wa MS.out.view HK.out MS.out.inv).mono ?_
     intro e w6 he
     rcases MS.out.step (More.refl _) HK.out (good_plJoin HH.out (head_b HH.out).2.2 (head_b HH.out).2.1 (.inl rfl) (.inr HQ.out)) he with ⟨a',hE,rfl,hd',ht',_⟩ | ⟨x6,D6,F6,hE,rfl,M6,hq6,_,_⟩
     · exact ⟨rfl,NEED.out a' w6 (RS.out.symm.trans (bindP_need hE)) hd' ht'⟩
     have FIN := hQQ (DONE.out true w6 D6 F6 (RS.out.symm.trans (bindP_ok hE)) M6)
     clear he hE M6
     go_wp2_with fail
     go_ret
     exact FIN.out
   intro QQ FINE FIND FINQ
   clear hA
   refine anyC_takeD (i:=0) (v:=.pointer (some ⟨p,0,none⟩)) (some 24) rfl rfl (by kernel_rfl) (by kernel_rfl) (by kernel_rfl) (fun c a w => FINQ c a _ _ w) (KL.out _ _ _ MR.out) (by exact yieldsC_moveG (wanted_none rfl) _ rfl (HF.get 0 rfl)) ?_
   replace HF := HF.put 24 (.pointer (some ⟨p,0,none⟩)) (by decide) rfl
   generalize hB1_24 : Act.put _ _ _ = A at HF ⊢
   refine anyC_takeD (i:=1) (v:=.agg c.arr) (some 25) rfl rfl (by kernel_rfl) (by kernel_rfl) (by kernel_rfl) (fun c a w => FINQ c a _ _ w) (KL.out _ _ _ MR.out) (by exact yieldsC_row (C:=(TrC c w.heap.size)) (wanted_none rfl) 28 _ rfl w.heap.size (HF.get 6 rfl) 28 _ _ _ (fun W hW => hW) Tryz.underlying28 rfl (by kernel_rfl)) ?_
   replace HF := HF.put 25 (.agg c.arr) (by decide) rfl
   generalize hB2_25 : Act.put _ _ _ = A at HF ⊢
   refine anyC_takeD (i:=2) (v:=.int .i64 (headV c.pg c.st cl f)) (some 26) rfl rfl (by kernel_rfl) (by kernel_rfl) (by kernel_rfl) (fun c a w => FINQ c a _ _ w) (KL.out _ _ _ MR.out) (by exact yieldsC_moveG (wanted_none rfl) _ rfl (HF.get 8 rfl)) ?_
   replace HF := HF.put 26 (.int .i64 (headV c.pg c.st cl f)) (by decide) rfl
   generalize hB3_26 : Act.put _ _ _ = A at HF ⊢
   refine anyC_takeD (i:=3) (v:=.int .i64 q) (some 27) rfl rfl (by kernel_rfl) (by kernel_rfl) (by kernel_rfl) (fun c a w => FINQ c a _ _ w) (KL.out _ _ _ MR.out) (by exact yieldsC_moveG (wanted_none rfl) _ rfl (HF.get 5 rfl)) ?_
   replace HF := HF.put 27 (.int .i64 q) (by decide) rfl
   generalize hB4_27 : Act.put _ _ _ = A at HF ⊢
   refine anyC_takeD (i:=4) (v:=.pointer (some ⟨p,0,none⟩)) (some 28) rfl rfl (by kernel_rfl) (by kernel_rfl) (by kernel_rfl) (fun c a w => FINQ c a _ _ w) (KL.out _ _ _ MR.out) (by exact yieldsC_moveG (wanted_none rfl) _ rfl (HF.get 4 rfl)) ?_
   replace HF := HF.put 28 (.pointer (some ⟨p,0,none⟩)) (by decide) rfl
   generalize hB5_28 : Act.put _ _ _ = A at HF ⊢
   refine anyC_takeD (i:=5) (v:=.agg c.arr) (some 29) rfl rfl (by kernel_rfl) (by kernel_rfl) (by kernel_rfl) (fun c a w => FINQ c a _ _ w) (KL.out _ _ _ MR.out) (by exact yieldsC_row (C:=(TrC c w.heap.size)) (wanted_none rfl) 28 _ rfl w.heap.size (HF.get 10 rfl) 28 _ _ _ (fun W hW => hW) Tryz.underlying28 rfl (by kernel_rfl)) ?_
   replace HF := HF.put 29 (.agg c.arr) (by decide) rfl
   generalize hB6_29 : Act.put _ _ _ = A at HF ⊢
   refine anyC_takeD (i:=6) (v:=.int .i64 (headV c.pg c.st cl f)) (some 30) rfl rfl (by kernel_rfl) (by kernel_rfl) (by kernel_rfl) (fun c a w => FINQ c a _ _ w) (KL.out _ _ _ MR.out) (by exact yieldsC_moveG (wanted_none rfl) _ rfl (HF.get 12 rfl)) ?_
   replace HF := HF.put 30 (.int .i64 (headV c.pg c.st cl f)) (by decide) rfl
   generalize hB7_30 : Act.put _ _ _ = A at HF ⊢
   refine anyC_oneK (i:=7) (some 31) (by kernel_rfl) rfl (wanted_none rfl) rfl (fun K hK => ?_)
   refine wp_call3 (v0:=.pointer (some ⟨p,0,none⟩)) (v1:=.agg c.arr) (v2:=.int .i64 (headV c.pg c.st cl f)) rfl (HF.get 2 rfl) (HF.get 1 rfl) (HF.get 0 rfl) (enters_of Tryz.func58 (by kernel_rfl) rfl) ?_
   refine (pl_leads HR.out HH.out F p kn D (headV c.pg c.st cl f) (head_b HH.out).2.2 (head_b HH.out).2.1 wr MR.out.view HK.out MR.out.inv).mono ?_
   intro e w4 he
   rcases MR.out.step (More.refl _) HK.out (good_plLead HH.out (head_b HH.out).2.1) he with ⟨a',hE,rfl,hd',ht',_⟩ | ⟨x4,D4,F4,hE,rfl,M4,hq4,_,_⟩
   · exact FIND _ _ HF.1.2 (NEED.out a' w4 (HRr.out.symm.trans (bindP_need hE)) hd' ht')
   have R4 := hQQ ((bindP_ok hE).symm.trans HRr.out)
   have M4 := hQQ M4
   clear he hE
   refine hK _ _ (KL.out _ _ _ M4.out) ?_
   clear hK K
   replace HF := HF.put 31 (.int .i64 x4) (by decide) rfl
   generalize hB8_31 : Act.put _ _ _ = A at HF ⊢
   refine anyC_oneK (i:=8) (some 32) (by kernel_rfl) rfl (wanted_none rfl) rfl (fun K hK => ?_)
   refine wp_call5 (v0:=.pointer (some ⟨p,0,none⟩)) (v1:=.agg c.arr) (v2:=.int .i64 (headV c.pg c.st cl f)) (v3:=.int .i64 q) (v4:=.int .i64 x4) rfl (HF.get 7 rfl) (HF.get 6 rfl) (HF.get 5 rfl) (HF.get 4 rfl) (HF.get 0 rfl) (enters_of Tryz.func94 (by kernel_rfl) rfl) ?_
   refine (pl_join HR.out HH.out hn F4 p kn D4 (headV c.pg c.st cl f) q x4 (head_b HH.out).2.2 (head_b HH.out).2.1 (.inr HQ.out) hq4 w4 M4.out.view HK.out M4.out.inv).mono ?_
   intro e w5 he
   rcases M4.out.step (More.refl _) HK.out (good_plJoin HH.out (head_b HH.out).2.2 (head_b HH.out).2.1 (.inr HQ.out) hq4) he with ⟨a',hE,rfl,hd',ht',_⟩ | ⟨x5,D5,F5,hE,rfl,M5,hq5,_,_⟩
   · exact FIND _ _ HF.1.2 (NEED.out a' w5 (R4.out.symm.trans (bindP_need hE)) hd' ht')
   have R5 := hQQ ((bindP_ok hE).symm.trans R4.out)
   have M5 := hQQ M5
   clear he hE
   refine hK _ _ (KL.out _ _ _ M5.out) ?_
   clear hK K
   replace HF := HF.put 32 (.tuple #[]) (by decide) rfl
   generalize hB9_32 : Act.put _ _ _ = A at HF ⊢
   exact anyC_done (by kernel_rfl) (FINE _ _ ⟨(.pointer (some ⟨p,0,none⟩)),(.agg c.arr),(.int .i64 (headV c.pg c.st cl f)),(.int .i64 q),(.pointer (some ⟨p,0,none⟩)),(.agg c.arr),(.int .i64 (headV c.pg c.st cl f)),(.int .i64 x4),(.tuple #[]),D5,F5,by rw [← hB9_32,← hB8_31,← hB7_30,← hB6_29,← hB5_28,← hB4_27,← hB3_26,← hB2_25,← hB1_24],M5.out,R5.out⟩)
theorem yieldsC_sub {P : Program} {ops : Array Oper} {C : World → Prop} {o : Oper} {a : Act} (hw : Region.wanted o (yielded ops a.tmps) = true) (ty : TypeId) (x : Operand) (ho : o.op = .load ty x) (g off : Nat) (hx : a.eval x = .pointer (some ⟨g,off,none⟩)) (t : TypeId) (cs hs : Array Value) (fr : Nat × Nat) (d : TypeDesc) (hg : ∀ w,C w → w.heap[g]? = some (.cells cs t fr)) (hc : ∀ j,j < hs.size → cs[off + j]? = hs[j]?)
   (hu : P.underlying ty = some d) (hd : (match d with | .struct _ | .array _ _ => true | _ => false) = true) (hi : (P.info? ty).map (·.size) = some hs.size) : YieldsC P ops C o (.agg hs) a := by
 refine .inl ⟨hw,fun w hC => ?_⟩
 unfold execOp
 simp only [ho,hx,Instr.loadAt,Instr.sureAddr,Sem.run_bind,Sem.run_pure,Result.andThen_ok,run_loadVar_sub w g off t ty cs hs fr d (hg w hC) hc hu hd hi]
def movesP (pg st q k was : Int) : Prg Unit := bindP (plUnlinkP pg st q k was) fun _ => bindP (readP (cA pg st q)) fun f => bindP (plLinkP pg st q k f) fun _ => pureP ()
theorem sound_moves (pg st q k was : Int) : Sound (movesP pg st q k was) := sound_bind (sound_plUnlink _ _ _ _ _) (fun _ => sound_bind (sound_read _) (fun _ => sound_bind (sound_plLink _ _ _ _ _) (fun _ => sound_pure _)))
theorem good_moves {pg st : Int} {n : Nat} (H : HdIn pg st n) (q k was : Int) (hq : isPage pg q = true) : Good n (fun _ => True) (movesP pg st q k was) := by
 have hb := (page_b H.toPgIn hq).2.1.2.1
 exact good_bind (good_plUnlink H q k was) (fun _ _ => good_bind (good_read n hb) (fun f _ => good_bind (good_plLink H q k f) (fun _ _ => good_pure n trivial)))
theorem g_moves1 {c : Cfg} (R : c.Ok) {n : Nat} (H : HdIn c.pg c.st n) (hn : n ≤ 10000) (F : Nat → Prop) (p : Nat) (kn : Int → Option Int) (D : List KV) (q k was : Int) (hq : isPage c.pg q = true) (gb wb : Nat) (w : World) (hv : ViewAt w F p kn D) (hk : OkK kn) (hD : InvD n D) (hg : w.heap[gb]? = some (.cells (pgArr c p q k) 74 (0,0))) (hw : w.heap[wb]? = some (.cells #[.int .i64 was] 3 (0,0))) (nFg : ¬ F gb) (u : FrameMode) :
   CallsD Tryz.prog 64 #[.pointer (some ⟨gb,0,none⟩),.pointer (some ⟨wb,0,none⟩)] u w (fun e u' w' => u' = u ∧ WentV w F p kn (fun _ : Unit => .tuple #[]) (movesP c.pg c.st q k was kn D) e w') := by
 obtain ⟨Rr,hRr⟩ : ∃ Rr,movesP c.pg c.st q k was kn D = Rr := ⟨_,rfl⟩
 rw [hRr]
 have M0 : Hid (MidV w w F (fun _ => False) p kn n D F) := hQQ (MidV.begin hv hD)
 have NEED : Hid (∀ a w2,Rr = .need a → DeadAt w2 p a → Turned (fun b => F b ∨ False) w w2 → WentV w F p kn (fun _ : Unit => Value.tuple #[]) Rr (.panicked (endOf p)) w2) := hQQ fun a w2 e hd ht => mid_need (More.refl w) (fun _ q => q.elim) e hd ht
 have DONE : Hid (∀ x w2 D' F',Rr = .ok x D' → MidV w w2 F (fun _ => False) p kn n D' F' → WentV w F p kn (fun _ : Unit => Value.tuple #[]) Rr (.returned (.tuple #[])) w2) := hQQ fun x w2 D' F' e h => mid_done (val:=fun _ : Unit => Value.tuple #[]) (More.refl w) (fun _ q => q.elim) h e
 have KP : Hid (∀ wr D' F',MidV w wr F (fun _ => False) p kn n D' F' → wr.heap[gb]? = some (.cells (pgArr c p q k) 74 (0,0))) := hQQ fun wr D' F' h => (h.turn.block gb (lt_of_heap hg) (by rintro (z | z); exact nFg z; exact z)).trans hg
 have CC : Hid (∀ W : World,W.heap[gb]? = some (.cells (pgArr c p q k) 74 (0,0)) → W.cell? ⟨gb,0,none⟩ = some (.pointer (some ⟨p,0,none⟩)) ∧ W.cell? ⟨gb,25,none⟩ = some (.int .i64 q) ∧ W.cell? ⟨gb,26,none⟩ = some (.int .i64 k)) := hQQ fun W hl1 =>
   ⟨by rw [cell_of_row W _ _ _ _ _ hl1]; exact pg_v c p q k,by rw [cell_of_row W _ _ _ _ _ hl1]; exact pg_n c p q k,by rw [cell_of_row W _ _ _ _ _ hl1]; exact pg_c c p q k⟩
 have L0 := hQQ hg
 have cw := (box_cells hw).1
 obtain ⟨c0,c25,c26⟩ := CC.out _ hg
 have HK := hQQ hk
 have HR := hQQ R
 have HH := hQQ H
 have HQ := hQQ hq
 have PB := hQQ (page_b H.toPgIn hq)
 unfold movesP at hRr
 have HRr := hQQ hRr
 clear hRr hv hk hD hg hw nFg R H hq
 go_enter_d Tryz.func64,Tryz.ntmps64
 go_wp2_with (refine wpList_load_sub rfl 28 _ rfl gb 1 rfl 74 _ c.arr _ _ L0.out (pg_part c p q k) Tryz.underlying28 rfl (by kernel_rfl) ?_)
 clear c0 c25 c26 cw
 refine (pl_Unlink HR.out HH.out hn F p kn D q k was w M0.out.view HK.out M0.out.inv).mono ?_
 intro e w2 he
 rcases M0.out.step (More.refl _) HK.out (good_plUnlink HH.out q k was) he with ⟨a',hE,rfl,hd',ht',_⟩ | ⟨x2,D2,F2,hE,rfl,M2,hq2,_,_⟩
 · exact ⟨rfl,NEED.out a' w2 (HRr.out.symm.trans (bindP_need hE)) hd' ht'⟩
 have R2 := hQQ ((bindP_ok hE).symm.trans HRr.out)
 have M2 := hQQ M2
 have L2 := hQQ (KP.out _ _ _ M2.out)
 clear he hE
 go_wp2_with fail
 refine wp_region_anyC (fun W => W.heap[gb]? = some (.cells (pgArr c p q k) 74 (0,0))) (by kernel_rfl) ?_
 have MR := hQQ (M2.out.more ((More.refl w2).drewN 1))
 change anyC _ _ _ _ _ _ _ _ (w2.drewN 1)
 generalize w2.drewN 1 = wr at MR ⊢
 generalize hA : Act.mk _ _ = A
 have HF : AG 23 A [(0,.pointer (some ⟨gb,0,none⟩))] := by
   rw [← hA]
   refine ⟨⟨Nat.le_of_ble_eq_true rfl,rfl⟩,?_⟩
   intro z hz; simp only [List.mem_cons,List.not_mem_nil,or_false] at hz; rcases hz with rfl <;> rfl
 refine anyC_start (fun a W => ∃ (u12 u13 u14 u15 u16 u17 u18 u19 u20 u21 u22 : Value) (D9 : List KV) (F9 : Nat → Prop),a = (Act.put (Act.put (Act.put (Act.put (Act.put (Act.put (Act.put (Act.put (Act.put (Act.put (Act.put A (some 12) u12) (some 13) u13) (some 14) u14) (some 15) u15) (some 16) u16) (some 17) u17) (some 18) u18) (some 19) u19) (some 20) u20) (some 21) u21) (some 22) u22) ∧ MidV w W F (fun _ => False) p kn n D9 F9 ∧ Rr = .ok () D9) (fun W => WentV w F p kn (fun _ : Unit => Value.tuple #[]) Rr (.panicked (endOf p)) W) (endOf p) (fun a W hd h => ⟨hd,h⟩) (fun _ _ _ _ _ h => h) ?_ ?_
 · skip
   rintro a wa ⟨u12,u13,u14,u15,u16,u17,u18,u19,u20,u21,u22,D9,F9,rfl,MS,hr⟩
   rw [← hA]
   have FIN := hQQ (DONE.out () wa D9 F9 hr MS)
   clear HF hA MR MS hr
   go_simp
   go_wp2_with fail
   go_end0
   exact FIN.out
 intro QQ FINE FIND FINQ
 clear hA
 refine anyC_takeD (i:=0) (v:=.pointer (some ⟨gb,0,none⟩)) (some 12) rfl rfl (by kernel_rfl) (by kernel_rfl) (by kernel_rfl) (fun c a w => FINQ c a _ _ w) (KP.out _ _ _ MR.out) (by exact (Or.inl ⟨(wanted_none rfl),fun W hW => by have h5 := (HF.getD 0 rfl); go_simp⟩)) ?_
 replace HF := HF.put 12 (.pointer (some ⟨gb,0,none⟩)) (by decide) rfl
 generalize hB1_12 : Act.put _ _ _ = A at HF ⊢
 refine anyC_takeD (i:=1) (v:=.pointer (some ⟨p,0,none⟩)) (some 13) rfl rfl (by kernel_rfl) (by kernel_rfl) (by kernel_rfl) (fun c a w => FINQ c a _ _ w) (KP.out _ _ _ MR.out) (by exact yieldsC_cell (C:=(fun W => W.heap[gb]? = some (.cells (pgArr c p q k) 74 (0,0)))) (wanted_none rfl) 40 _ rfl gb 0 (HF.get 0 rfl) (.pointer (some ⟨p,0,none⟩)) _ Tryz.underlying40 rfl (fun W hW => (CC.out W hW).1)) ?_
 replace HF := HF.put 13 (.pointer (some ⟨p,0,none⟩)) (by decide) rfl
 generalize hB2_13 : Act.put _ _ _ = A at HF ⊢
 refine anyC_takeD (i:=2) (v:=.pointer (some ⟨gb,1,none⟩)) (some 14) rfl rfl (by kernel_rfl) (by kernel_rfl) (by kernel_rfl) (fun c a w => FINQ c a _ _ w) (KP.out _ _ _ MR.out) (by exact (Or.inl ⟨(wanted_none rfl),fun W hW => by have h5 := (HF.getD 2 rfl); go_simp⟩)) ?_
 replace HF := HF.put 14 (.pointer (some ⟨gb,1,none⟩)) (by decide) rfl
 generalize hB3_14 : Act.put _ _ _ = A at HF ⊢
 refine anyC_takeD (i:=3) (v:=.agg c.arr) (some 15) rfl rfl (by kernel_rfl) (by kernel_rfl) (by kernel_rfl) (fun c a w => FINQ c a _ _ w) (KP.out _ _ _ MR.out) (by exact yieldsC_sub (C:=(fun W => W.heap[gb]? = some (.cells (pgArr c p q k) 74 (0,0)))) (wanted_none rfl) 28 _ rfl gb 1 (HF.get 0 rfl) 74 _ c.arr _ _ (fun W hW => hW) (pg_part c p q k) Tryz.underlying28 rfl (by kernel_rfl)) ?_
 replace HF := HF.put 15 (.agg c.arr) (by decide) rfl
 generalize hB4_15 : Act.put _ _ _ = A at HF ⊢
 refine anyC_takeD (i:=4) (v:=.pointer (some ⟨gb,25,none⟩)) (some 16) rfl rfl (by kernel_rfl) (by kernel_rfl) (by kernel_rfl) (fun c a w => FINQ c a _ _ w) (KP.out _ _ _ MR.out) (by exact (Or.inl ⟨(wanted_none rfl),fun W hW => by have h5 := (HF.getD 4 rfl); go_simp⟩)) ?_
 replace HF := HF.put 16 (.pointer (some ⟨gb,25,none⟩)) (by decide) rfl
 generalize hB5_16 : Act.put _ _ _ = A at HF ⊢
 refine anyC_takeD (i:=5) (v:=.int .i64 q) (some 17) rfl rfl (by kernel_rfl) (by kernel_rfl) (by kernel_rfl) (fun c a w => FINQ c a _ _ w) (KP.out _ _ _ MR.out) (by exact yieldsC_cell (C:=(fun W => W.heap[gb]? = some (.cells (pgArr c p q k) 74 (0,0)))) (wanted_none rfl) 3 _ rfl gb 25 (HF.get 0 rfl) (.int .i64 q) _ Tryz.underlying3 rfl (fun W hW => (CC.out W hW).2.1)) ?_
 replace HF := HF.put 17 (.int .i64 q) (by decide) rfl
 generalize hB6_17 : Act.put _ _ _ = A at HF ⊢
 refine anyC_takeD (i:=6) (v:=.pointer (some ⟨gb,26,none⟩)) (some 18) rfl rfl (by kernel_rfl) (by kernel_rfl) (by kernel_rfl) (fun c a w => FINQ c a _ _ w) (KP.out _ _ _ MR.out) (by exact (Or.inl ⟨(wanted_none rfl),fun W hW => by have h5 := (HF.getD 6 rfl); go_simp⟩)) ?_
 replace HF := HF.put 18 (.pointer (some ⟨gb,26,none⟩)) (by decide) rfl
 generalize hB7_18 : Act.put _ _ _ = A at HF ⊢
 refine anyC_takeD (i:=7) (v:=.int .i64 k) (some 19) rfl rfl (by kernel_rfl) (by kernel_rfl) (by kernel_rfl) (fun c a w => FINQ c a _ _ w) (KP.out _ _ _ MR.out) (by exact yieldsC_cell (C:=(fun W => W.heap[gb]? = some (.cells (pgArr c p q k) 74 (0,0)))) (wanted_none rfl) 3 _ rfl gb 26 (HF.get 0 rfl) (.int .i64 k) _ Tryz.underlying3 rfl (fun W hW => (CC.out W hW).2.2)) ?_
 replace HF := HF.put 19 (.int .i64 k) (by decide) rfl
 generalize hB8_19 : Act.put _ _ _ = A at HF ⊢
 refine anyC_takeD (i:=8) (v:=.agg (pgArr c p q k)) (some 20) rfl rfl (by kernel_rfl) (by kernel_rfl) (by kernel_rfl) (fun c a w => FINQ c a _ _ w) (KP.out _ _ _ MR.out) (by exact yieldsC_row (C:=(fun W => W.heap[gb]? = some (.cells (pgArr c p q k) 74 (0,0)))) (wanted_none rfl) 74 _ rfl gb (HF.get 8 rfl) 74 _ _ _ (fun W hW => hW) Tryz.underlying74 rfl (by kernel_rfl)) ?_
 replace HF := HF.put 20 (.agg (pgArr c p q k)) (by decide) rfl
 generalize hB9_20 : Act.put _ _ _ = A at HF ⊢
 refine anyC_oneK (i:=9) (some 21) (by kernel_rfl) rfl (wanted_none rfl) rfl (fun K hK => ?_)
 refine wp_call1 (v0:=.agg (pgArr c p q k)) rfl (HF.get 0 rfl) (enters_of Tryz.func63 (by kernel_rfl) rfl) ?_
 refine (g_count HR.out HH.out.toPgIn F2 p kn D2 q k hn HQ.out wr MR.out.view HK.out MR.out.inv).mono ?_
 intro e w4 he
 rcases MR.out.step (More.refl _) HK.out (good_read n PB.out.2.1.2.1) he with ⟨a',hE,rfl,hd',ht',_⟩ | ⟨x4,D4,F4,hE,rfl,M4,hq4,_,_⟩
 · exact FIND _ _ HF.1.2 (NEED.out a' w4 (R2.out.symm.trans (bindP_need hE)) hd' ht')
 have R4 := hQQ ((bindP_ok hE).symm.trans R2.out)
 have M4 := hQQ M4
 clear he hE
 refine hK _ _ (KP.out _ _ _ M4.out) ?_
 clear hK K
 replace HF := HF.put 21 (.int .i64 x4) (by decide) rfl
 generalize hB10_21 : Act.put _ _ _ = A at HF ⊢
 refine anyC_oneK (i:=10) (some 22) (by kernel_rfl) rfl (wanted_none rfl) rfl (fun K hK => ?_)
 refine wp_call5 (v0:=.pointer (some ⟨p,0,none⟩)) (v1:=.agg c.arr) (v2:=.int .i64 q) (v3:=.int .i64 k) (v4:=.int .i64 x4) rfl (HF.get 8 rfl) (HF.get 6 rfl) (HF.get 4 rfl) (HF.get 2 rfl) (HF.get 0 rfl) (enters_of Tryz.func66 (by kernel_rfl) rfl) ?_
 refine (pl_Link HR.out HH.out hn F4 p kn D4 q k x4 w4 M4.out.view HK.out M4.out.inv).mono ?_
 intro e w5 he
 rcases M4.out.step (More.refl _) HK.out (good_plLink HH.out q k x4) he with ⟨a',hE,rfl,hd',ht',_⟩ | ⟨x5,D5,F5,hE,rfl,M5,hq5,_,_⟩
 · exact FIND _ _ HF.1.2 (NEED.out a' w5 (R4.out.symm.trans (bindP_need hE)) hd' ht')
 have R5 := hQQ ((bindP_ok hE).symm.trans R4.out)
 have M5 := hQQ M5
 clear he hE
 refine hK _ _ (KP.out _ _ _ M5.out) ?_
 clear hK K
 replace HF := HF.put 22 (.bool x5) (by decide) rfl
 generalize hB11_22 : Act.put _ _ _ = A at HF ⊢
 exact anyC_done (by kernel_rfl) (FINE _ _ ⟨(.pointer (some ⟨gb,0,none⟩)),(.pointer (some ⟨p,0,none⟩)),(.pointer (some ⟨gb,1,none⟩)),(.agg c.arr),(.pointer (some ⟨gb,25,none⟩)),(.int .i64 q),(.pointer (some ⟨gb,26,none⟩)),(.int .i64 k),(.agg (pgArr c p q k)),(.int .i64 x4),(.bool x5),D5,F5,by rw [← hB11_22,← hB10_21,← hB9_20,← hB8_19,← hB7_18,← hB6_17,← hB5_16,← hB4_15,← hB3_14,← hB2_13,← hB1_12],M5.out,R5.out.symm⟩)
def MovPost (b : Nat) (c : Cfg) (p : Nat) (q k : Int) (x : Int) (v : Value) (W : World) (F : Nat → Prop) : Prop :=
 ∃ gb wb,v = .func (.func 64) #[] #[.pointer (some ⟨gb,0,none⟩),.pointer (some ⟨wb,0,none⟩)] ∧ b ≤ gb ∧ b ≤ wb ∧ gb ≠ wb ∧ ¬ F gb ∧ ¬ F wb ∧
   W.heap[gb]? = some (.cells (pgArr c p q k) 74 (0,0)) ∧ W.heap[wb]? = some (.cells #[.int .i64 x] 3 (0,0))
theorem g_moves {c : Cfg} (R : c.Ok) {n : Nat} (H : PgIn c.pg c.st n) (hn : n ≤ 10000) (F : Nat → Prop) (p : Nat) (kn : Int → Option Int) (D : List KV) (q k : Int) (hq : isPage c.pg q = true) (w : World) (hv : ViewAt w F p kn D) (hk : OkK kn) (hD : InvD n D) :
   Calls Tryz.prog 38 #[.agg (pgArr c p q k)] w (WentR w F p kn (MovPost w.heap.size c p q k) (readP (cA c.pg c.st q) kn D)) := by
 obtain ⟨Rr,hRr⟩ : ∃ Rr,readP (cA c.pg c.st q) kn D = Rr := ⟨_,rfl⟩
 rw [hRr]
 obtain ⟨w1,e1,hl1,m1,s1⟩ := entry1 w (.cells (pgArr c p q k) 74)
 have MM := hQQ m1
 have L0 := hQQ hl1
 have c0 := (show w1.cell? ⟨w.heap.size,0,none⟩ = some (.pointer (some ⟨p,0,none⟩)) by rw [cell_of_row w1 _ _ _ _ _ hl1]; exact pg_v c p q k)
 have c25 := (show w1.cell? ⟨w.heap.size,25,none⟩ = some (.int .i64 q) by rw [cell_of_row w1 _ _ _ _ _ hl1]; exact pg_n c p q k)
 have c26 := (show w1.cell? ⟨w.heap.size,26,none⟩ = some (.int .i64 k) by rw [cell_of_row w1 _ _ _ _ _ hl1]; exact pg_c c p q k)
 have nFl : ¬ F w.heap.size := fun z => by have := hv.lt _ z; omega
 have M0 : Hid (MidV w1 w1 F (fun _ => False) p kn n D F) := hQQ (MidV.begin (hv.more m1) hD)
 have NEED : Hid (∀ a w2,Rr = .need a → DeadAt w2 p a → Turned (fun b => F b ∨ False) w1 w2 → WentR w F p kn (MovPost w.heap.size c p q k) Rr (.panicked (endOf p)) w2) := hQQ fun a w2 e hd ht => midR_need MM.out (fun _ q => q.elim) e hd ht
 have DONE : Hid (∀ x v w2 D' F',Rr = .ok x D' → MidV w1 w2 F (fun _ => False) p kn n D' F' → MovPost w.heap.size c p q k x v w2 F' → WentR w F p kn (MovPost w.heap.size c p q k) Rr (.returned v) w2) := hQQ fun x v w2 D' F' e h hp => midR_done MM.out (fun _ q => q.elim) h e hp
 have hwl : w.heap.size < w1.heap.size := by omega
 have HNF := hQQ nFl
 have PB := hQQ (page_b H hq).2.1
 have HK := hQQ hk
 have HRr := hQQ hRr
 have GC := hQQ (g_count R H F p kn D q k hn hq w1 M0.out.view HK.out M0.out.inv)
 clear hl1 m1 hv hD hk R nFl hRr H hq c0 c25 c26
 go_enter Tryz.func38,Tryz.ntmps38
 go_wp2_with (refine wpList_load_row rfl 74 _ rfl w.heap.size rfl 74 _ _ _ L0.out Tryz.underlying74 rfl (by kernel_rfl) ?_)
 clear e1
 refine GC.out.mono ?_
 intro e w4 he
 rcases M0.out.step (More.refl _) HK.out (good_read n PB.out.2.1) he with ⟨a',hE,rfl,hd',ht',_⟩ | ⟨x4,D4,F4,hE,rfl,M4,hq4,_,_⟩
 · exact ⟨rfl,NEED.out a' w4 (HRr.out.symm.trans hE) hd' ht'⟩
 have M4 := hQQ M4
 have E4 := hQQ (HRr.out.symm.trans hE)
 clear he hE
 obtain ⟨wA,eA,hA,mA,sA⟩ := entry1 w4 (.cells #[.int .i64 0] 3)
 obtain ⟨cA',fA,kA'⟩ := box_cells hA
 obtain ⟨wB,eB⟩ : ∃ wB,wA.setCell ⟨w4.heap.size,0,none⟩ (.int .i64 x4) = wB := ⟨_,rfl⟩
 have mB : More w4 wB := by rw [← eB]; exact Turned.setCell mA _ _ (fun z => by simp at z)
 have hB : wB.heap[w4.heap.size]? = some (.cells #[.int .i64 x4] 3 (0,0)) := by rw [← eB]; exact setCell_one hA _
 have FIN : Hid (WentR w F p kn (MovPost w.heap.size c p q k) Rr (.returned (.func (.func 64) #[] #[.pointer (some ⟨w.heap.size,0,none⟩),.pointer (some ⟨w4.heap.size,0,none⟩)])) wB) := hQQ (by
   have h4 : w1.heap.size ≤ w4.heap.size := M4.out.size
   have g4 := mid_own M4.out L0.out HNF.out (fun q => q)
   refine DONE.out x4 _ wB D4 F4 E4.out (M4.out.more mB) ⟨_,_,rfl,by omega,by omega,by omega,M4.out.off hwl HNF.out,fun r => by have := M4.out.view.lt _ r; omega,mB.block g4,hB⟩)
 clear hA mA sA mB hB
 go_wp2_with fail
 go_ret
 exact FIN.out
theorem built_page (c : Cfg) (p : Nat) (q k : Int) : Tryz.prog.built 74 [(0,.pointer (some ⟨p,0,none⟩)),(1,.agg c.arr),(2,.int .i64 q),(3,.int .i64 k)] = some (pgArr c p q k) := by kernel_rfl
theorem wpList_page {ops : Array Oper} {rest : List Oper} {o : Oper} {a : Act} {w : World} {Q : Exit → Act → World → Prop} (hgd : o.guard = none) (x0 x1 x2 x3 : Operand) (ho : o.op = .build 74 #[(0,x0),(1,x1),(2,x2),(3,x3)]) (c : Cfg) (p : Nat) (q k : Int)
   (h0 : a.eval x0 = .pointer (some ⟨p,0,none⟩)) (h1 : a.eval x1 = .agg c.arr) (h2 : a.eval x2 = .int .i64 q) (h3 : a.eval x3 = .int .i64 k) (h : wpList Tryz.prog ops Q rest (a.put o.dst (.agg (pgArr c p q k))) w) : wpList Tryz.prog ops Q (o :: rest) a w := by
 have e : Tryz.prog.built 74 ((#[(0,x0),(1,x1),(2,x2),(3,x3)] : Array (Nat × Operand)).map fun (i,x) => (i,a.eval x)).toList = some (pgArr c p q k) := by
   simp only [List.map_toArray,List.map_cons,List.map_nil,h0,h1,h2,h3]
   exact built_page c p q k
 refine wpList_build hgd _ _ ho ?_ ?_
 · rw [e]; rfl
 · rw [e]; exact h
theorem pg_one (c : Cfg) (p : Nat) (q k : Int) : (pgArr c p q k).all (·.oneCell') = true := by
 have h : c.arr.toList.all (·.oneCell') = true := by rw [Array.all_toList]; exact layArr_one ..
 simp [pgArr,Value.oneCell'] at h ⊢
 exact h
theorem new_page (w : World) (c : Cfg) (p : Nat) (q k : Int) : ∃ w1,(w.alloc (.cells #[Value.pointer none,Value.int IntKind.i64 0,Value.int IntKind.i64 0,Value.int IntKind.i64 0,Value.int IntKind.i64 0,Value.int IntKind.i64 0,Value.int IntKind.i64 0,Value.int IntKind.i64 0,Value.int IntKind.i64 0,Value.int IntKind.i64 0,Value.int IntKind.i64 0,Value.int IntKind.i64 0,Value.int IntKind.i64 0,Value.int IntKind.i64 0,Value.int IntKind.i64 0,Value.int IntKind.i64 0,Value.int IntKind.i64 0,Value.int IntKind.i64 0,Value.int IntKind.i64 0,Value.int IntKind.i64 0,Value.int IntKind.i64 0,Value.int IntKind.i64 0,Value.int IntKind.i64 0,Value.int IntKind.i64 0,Value.int IntKind.i64 0,Value.int IntKind.i64 0,Value.int IntKind.i64 0] 74)).setRow w.heap.size (pgArr c p q k) = w1 ∧ w1.heap[w.heap.size]? = some (.cells (pgArr c p q k) 74 (0,0)) ∧ More w w1 :=
 ⟨_,rfl,setRow_heap _ _ _ _ _ _ (row_new w _ _),((More.refl w).alloc _).setRow _ _ (Nat.le_refl _)⟩
def roomP (pg st k : Int) : Prg Bool := bindP (plFirstN pg st k (slotsC k).toNat 1) fun x => pureP (x != -1)
theorem sound_room (pg st k : Int) : Sound (roomP pg st k) := sound_bind (sound_plFirstN _ _ _ _ _) (fun _ => sound_pure _)
theorem g_Room {c : Cfg} (R : c.Ok) {n : Nat} (H : HdIn c.pg c.st n) (F : Nat → Prop) (p : Nat) (kn : Int → Option Int) (D : List KV) (k : Int) (w : World) (hv : ViewAt w F p kn D) (hk : OkK kn) (hD : InvD n D) (bt : Nat) (hs : SzAt bt w) (nF0 : ¬ F 0) (nFb : ¬ F bt) :
   Calls Tryz.prog 14 #[.pointer (some ⟨p,0,none⟩),.agg c.arr,.int .i64 k] w (WentV w F p kn (fun b => .bool b) (roomP c.pg c.st k kn D)) := by
 obtain ⟨Rr,hRr⟩ : ∃ Rr,roomP c.pg c.st k kn D = Rr := ⟨_,rfl⟩
 rw [hRr]
 obtain ⟨w1,e1,hl1,m1,s1⟩ := entry1 w (.cells c.arr 28)
 have nFl : ¬ F w.heap.size := fun q => by have := hv.lt _ q; omega
 have MM := hQQ m1
 have L0 := hQQ hl1
 have M0 : Hid (MidV w1 w1 F (fun _ => False) p kn n D F) := hQQ (MidV.begin (hv.more m1) hD)
 have KL : Hid (∀ wr D' F',MidV w1 wr F (fun _ => False) p kn n D' F' → wr.heap[w.heap.size]? = some (.cells c.arr 28 (0,0))) := hQQ fun wr D' F' h => mid_own h L0.out nFl (fun q => q)
 have NEED : Hid (∀ a w2,Rr = .need a → DeadAt w2 p a → Turned (fun b => F b ∨ False) w1 w2 → WentV w F p kn (fun b : Bool => Value.bool b) Rr (.panicked (endOf p)) w2) := hQQ fun a w2 e hd ht => mid_need MM.out (fun _ q => q.elim) e hd ht
 have DONE : Hid (∀ x w2 D' F',Rr = .ok x D' → MidV w1 w2 F (fun _ => False) p kn n D' F' → WentV w F p kn (fun b : Bool => Value.bool b) Rr (.returned ((fun b : Bool => Value.bool b) x)) w2) := hQQ fun x w2 D' F' e h => mid_done MM.out (fun _ q => q.elim) h e
 have HK := hQQ hk
 have HR := hQQ R
 have HH := hQQ H
 clear hl1 m1 hv hD hk R H nFl
 have HS := hQQ (hs.more MM.out)
 have HRr := hQQ (show bindP (plFirstN c.pg c.st k (slotsC k).toNat 1) (fun x => pureP (x != -1)) kn D = Rr from hRr)
 have HF := hQQ (And.intro nF0 nFb)
 clear hRr hs nF0 nFb
 go_enter Tryz.func14,Tryz.ntmps14
 go_wp2_with (refine wpList_load_rowG rfl 28 _ rfl _ rfl 28 _ _ _ L0.out Tryz.underlying28 rfl (by kernel_rfl) ?_)
 refine (pl_First HR.out HH.out F p kn D k w1 M0.out.view HK.out M0.out.inv bt HS.out HF.out.1 HF.out.2).mono ?_
 intro e w3 he
 rcases M0.out.step (More.refl _) HK.out (good_plFirstN HH.out _ _ _) he with ⟨a',hE,rfl,hd',ht',_⟩ | ⟨x3,D3,F3,hE,rfl,M3,hq3,_,_⟩
 · exact ⟨rfl,NEED.out a' w3 (HRr.out.symm.trans (bindP_need hE)) hd' ht'⟩
 have L3 := hQQ (KL.out _ _ _ M3)
 have R3 := hQQ ((bindP_ok hE).symm.trans HRr.out)
 have M3 := hQQ M3
 clear he hE
 have FIN := hQQ (DONE.out (x3 != -1) w3 D3 F3 R3.out.symm M3.out)
 go_wp2_with fail
 go_ret
 exact FIN.out
theorem cnt_b (b k : Int) : 0 ≤ slCountV b (slotsC k) ∧ slCountV b (slotsC k) ≤ 32 ∧ 0 ≤ openV k b ∧ openV k b ≤ 32 := by
 have h := sumC_b (cameUpTo b (endN (slotsC k)))
 rw [sumC_all,came_length] at h
 have hs := slots_in k
 have he : (endN (slotsC k) : Int) = slotsC k := by unfold endN; omega
 unfold openV
 omega
theorem g_openV (c : Cfg) (p : Nat) (q k b : Int) {bt : Nat} (w : World) (h : SzAt bt w) (hb : 0 ≤ slCountV b (slotsC k) ∧ slCountV b (slotsC k) ≤ 32) : Calls Tryz.prog 49 #[.agg (pgArr c p q k),.int .i64 b] w (Gives w (.int .i64 (openV k b))) := g_open c p q k b w h hb
def freeN (pg st k : Int) : Nat → Int → Int → Prg Int
 | 0,_,s => pureP s
 | m + 1,q,s => bindP (ekindP pg st q) fun x => if x = k + 1 then bindP (readP (bA pg st q)) fun b => freeN pg st k m (q + 1) (s + openV k b) else freeN pg st k m (q + 1) s
def freeP (pg st k : Int) : Prg Int := if slotsC k = 0 then pureP 0 else freeN pg st k pg.toNat 0 0
theorem g_Free {c : Cfg} (R : c.Ok) {n : Nat} (H : HdIn c.pg c.st n) (hn : n ≤ 10000) (F : Nat → Prop) (p : Nat) (kn : Int → Option Int) (D : List KV) (k : Int) (w : World) (hv : ViewAt w F p kn D) (hk : OkK kn) (hD : InvD n D) (bt : Nat) (hs : SzAt bt w) (nF0 : ¬ F 0) (nFb : ¬ F bt) :
   Calls Tryz.prog 22 #[.pointer (some ⟨p,0,none⟩),.agg c.arr,.int .i64 k] w (WentV w F p kn (fun x => .int .i64 x) (freeP c.pg c.st k kn D)) := by
 obtain ⟨Rr,hRr⟩ : ∃ Rr,freeP c.pg c.st k kn D = Rr := ⟨_,rfl⟩
 rw [hRr]
 obtain ⟨w1,e1,hl1,m1,s1⟩ := entry1 w (.cells c.arr 28)
 have nFl : ¬ F w.heap.size := fun q => by have := hv.lt _ q; omega
 have MM := hQQ m1
 have L0 := hQQ hl1
 have M0 : Hid (MidV w1 w1 F (fun _ => False) p kn n D F) := hQQ (MidV.begin (hv.more m1) hD)
 have KL : Hid (∀ wr D' F',MidV w1 wr F (fun _ => False) p kn n D' F' → wr.heap[w.heap.size]? = some (.cells c.arr 28 (0,0))) := hQQ fun wr D' F' h => mid_own h L0.out nFl (fun q => q)
 have NEED : Hid (∀ a w2,Rr = .need a → DeadAt w2 p a → Turned (fun b => F b ∨ False) w1 w2 → WentV w F p kn (fun x : Int => Value.int .i64 x) Rr (.panicked (endOf p)) w2) := hQQ fun a w2 e hd ht => mid_need MM.out (fun _ q => q.elim) e hd ht
 have DONE : Hid (∀ x w2 D' F',Rr = .ok x D' → MidV w1 w2 F (fun _ => False) p kn n D' F' → WentV w F p kn (fun x : Int => Value.int .i64 x) Rr (.returned ((fun x : Int => Value.int .i64 x) x)) w2) := hQQ fun x w2 D' F' e h => mid_done MM.out (fun _ q => q.elim) h e
 have HK := hQQ hk
 have HR := hQQ R
 have HH := hQQ H
 clear hl1 m1 hv hD hk R H nFl
 have SZ : Hid (∀ wr D' F',MidV w1 wr F (fun _ => False) p kn n D' F' → SzAt bt wr) := hQQ fun wr D' F' h => (hs.more MM.out).keep h.turn (by rintro (q | q); exact nF0 q; exact q) (by rintro (q | q); exact nFb q; exact q)
 unfold freeP at hRr
 have pg1 := HR.out.pg1
 have pg2 := HR.out.pg2
 have hfl := field_pages c
 clear hs nF0 nFb
 go_enter Tryz.func22,Tryz.ntmps22
 go_wp2_with fail
 refine (g_there k w1 (SZ.out _ _ _ M0.out)).mono ?_
 rintro e w2 ⟨rfl,h2⟩
 have M2 := hQQ (M0.out.more h2)
 have L2 := hQQ (KL.out _ _ _ M2.out)
 clear h2
 by_cases hz : slotsC k = 0
 · rw [if_pos hz] at hRr
   have d0 : (slotsC k != 0) = false := by simp [hz]
   have FIN := hQQ (DONE.out 0 w2 D F hRr.symm M2.out)
   clear hRr hz
   go_wp2_with fail
   go_ret
   exact FIN.out
 rw [if_neg hz] at hRr
 have d0 : (slotsC k != 0) = true := by simpa using hz
 have hk4 := slots_cls hz
 have q1 : IntKind.i64.wrap (k + 1) = k + 1 := wrap_in (by omega) (by omega)
 have HRr := hQQ hRr
 clear hRr hz
 go_wp2_with (refine wpList_load_rowG rfl 28 _ rfl _ rfl 28 _ _ _ L2.out Tryz.underlying28 rfl (by kernel_rfl) ?_)
 refine (y_config HR.out _).mono ?_
 rintro e w3 ⟨rfl,h3⟩
 have M3 := hQQ (M2.out.more h3)
 clear h3
 go_wp2_with fail
 go_loopw [7,16] (fun v7 v16 wr => ∃ (j : Nat) (s : Int) (D' : List KV) (F' : Nat → Prop),v16 = .int .i64 (j : Int) ∧ v7 = .int .i64 s ∧ (j : Int) ≤ c.pg ∧ 0 ≤ s ∧ s ≤ 32 * j ∧ MidV w1 wr F (fun _ => False) p kn n D' F' ∧ freeN c.pg c.st k (c.pg.toNat - j) j s kn D' = Rr) (fun _ v16 _ => c.pg.toNat - (intOf v16).toNat)
 case atStart => exact ⟨0,0,D,F,rfl,rfl,by omega,by omega,by omega,M3.out,HRr.out⟩
 case round =>
   clear HRr M3 M2 L2
   obtain ⟨j,s,D',F',rfl,rfl,hj,s0,s1,MI,hrest⟩ := hrel
   have MI := hQQ MI
   have LI := hQQ (KL.out _ _ _ MI.out)
   have qj : IntKind.i64.wrap ((j : Int) + 1) = (j : Int) + 1 := wrap_in (by omega) (by omega)
   by_cases hlt : (j : Int) < c.pg
   · have d1 : decide ((j : Int) < c.pg) = true := by simpa using hlt
     rw [show c.pg.toNat - j = (c.pg.toNat - (j + 1)) + 1 by omega] at hrest
     have RI := hQQ (show bindP (ekindP c.pg c.st j) (fun x => if x = k + 1 then bindP (readP (bA c.pg c.st j)) fun b => freeN c.pg c.st k (c.pg.toNat - (j + 1)) ((j : Int) + 1) (s + openV k b) else freeN c.pg c.st k (c.pg.toNat - (j + 1)) ((j : Int) + 1) s) kn D' = Rr from hrest)
     have HQ0 := hQQ (isPage_iff.2 ⟨(by omega : 0 ≤ (j : Int)),hlt⟩)
     clear hrest
     go_wp2_with (refine wpList_load_rowG rfl 28 _ rfl _ rfl 28 _ _ _ LI.out Tryz.underlying28 rfl (by kernel_rfl) ?_)
     refine (e_Kind HR.out HH.out.toPgIn F' p kn D' (j : Int) wr MI.out.view HK.out MI.out.inv).mono ?_
     intro e w2 he
     rcases MI.out.step (More.refl _) HK.out (good_kind HH.out.toPgIn _) he with ⟨a',hE,rfl,hd',ht',_⟩ | ⟨x2,D2,F2,hE,rfl,M2,hq2,_,_⟩
     · exact ⟨rfl,NEED.out a' w2 (RI.out.symm.trans (bindP_need hE)) hd' ht'⟩
     have L2 := hQQ (KL.out _ _ _ M2)
     have R2 := hQQ ((bindP_ok hE).symm.trans RI.out)
     have M2 := hQQ M2
     clear he hE
     by_cases ek : x2 = k + 1
     · have d2 : (x2 == k + 1) = true := by simpa using ek
       have RN := hQQ (show bindP (readP (bA c.pg c.st j)) (fun b => freeN c.pg c.st k (c.pg.toNat - (j + 1)) ((j : Int) + 1) (s + openV k b)) kn D2 = Rr from by have := R2.out; rw [if_pos ek] at this; exact this)
       clear ek R2
       obtain ⟨w3,e3,b3,m3⟩ := new_page w2 c p (j : Int) k
       have M3 := hQQ (M2.out.more m3)
       have nFg : ¬ F2 w2.heap.size := fun z => by have := M2.out.view.lt _ z; omega
       go_wp2_with (first | (refine wpList_load_row rfl 28 _ rfl _ rfl 28 _ _ _ L2.out Tryz.underlying28 rfl (by kernel_rfl) ?_) | (refine wpList_page rfl _ _ _ _ rfl c p (j : Int) k rfl rfl rfl rfl ?_) | (refine wpList_store_row rfl 74 _ _ rfl _ _ rfl rfl 74 _ (row_new _ _ _) (by kernel_rfl) rfl (pg_one ..) ?_))
       rw [e3]
       generalize w2.heap.size = gb at b3 nFg
       rw [show ∀ (a : Act) (v : Value),a.put none v = a from fun _ _ => rfl]
       clear e3 m3
       have PB := hQQ (page_b HH.out.toPgIn HQ0.out)
       refine wp_region_anyC (fun W => W.heap[gb]? = some (.cells (pgArr c p (j : Int) k) 74 (0,0))) (by kernel_rfl) ?_
       have MR : Hid (MidV w1 (w3.drewN 1) F (fun _ => False) p kn n D2 F2 ∧ (w3.drewN 1).heap[gb]? = some (.cells (pgArr c p (j : Int) k) 74 (0,0))) := hQQ ⟨M3.out.more ((More.refl w3).drewN 1),((More.refl w3).drewN 1).block b3⟩
       have KG : Hid (∀ W D' F',MidV w1 W F (fun _ => False) p kn n D' F' ∧ W.heap[gb]? = some (.cells (pgArr c p (j : Int) k) 74 (0,0)) → W.heap[gb]? = some (.cells (pgArr c p (j : Int) k) 74 (0,0))) := hQQ fun _ _ _ h => h.2
       clear b3 M3
       change anyC _ _ _ _ _ _ _ _ (w3.drewN 1)
       generalize w3.drewN 1 = wq at MR ⊢
       generalize hA : Act.mk _ _ = A
       have HF : AG 39 A [(7,.int .i64 s),(9,.pointer (some ⟨gb,0,none⟩))] := by
         rw [← hA]
         refine ⟨⟨Nat.le_of_ble_eq_true rfl,rfl⟩,?_⟩
         intro z hz; simp only [List.mem_cons,List.not_mem_nil,or_false] at hz; rcases hz with rfl | rfl <;> rfl
       refine anyC_start (fun a W => ∃ (u31 u32 u33 u34 u35 u36 : Value) (x9 : Int) (D9 : List KV) (F9 : Nat → Prop),a = (Act.put (Act.put (Act.put (Act.put (Act.put (Act.put (Act.put A (some 31) u31) (some 32) u32) (some 33) u33) (some 34) u34) (some 35) u35) (some 36) u36) (some 7) (.int .i64 (s + openV k x9))) ∧ (MidV w1 W F (fun _ => False) p kn n D9 F9 ∧ W.heap[gb]? = some (.cells (pgArr c p (j : Int) k) 74 (0,0))) ∧ freeN c.pg c.st k (c.pg.toNat - (j + 1)) ((j : Int) + 1) (s + openV k x9) kn D9 = Rr) (fun W => WentV w F p kn (fun x : Int => Value.int .i64 x) Rr (.panicked (endOf p)) W) (endOf p) (fun a W hd h => ⟨hd,h⟩) (fun _ _ _ _ _ h => h) ?_ ?_
       · skip
         rintro a wa ⟨u31,u32,u33,u34,u35,u36,x9,D9,F9,rfl,⟨MS,_⟩,hr⟩
         rw [← hA]
         have MS := hQQ MS
         have hcb := cnt_b x9 k
         have NX := hQQ hr
         clear HF hA MR hr KG
         go_simp
         go_wp2_with fail
         go_roundw
         case rel => exact ⟨j + 1,s + openV k x9,D9,F9,by go_num,rfl,by omega,by omega,by omega,MS.out,by have := NX.out; exact this⟩
         case measure => simp [intOf]; omega
       intro QQ FINE FIND FINQ
       clear hA
       refine anyC_takeD (i:=0) (v:=.int .i64 s) (some 31) rfl rfl (by kernel_rfl) (by kernel_rfl) (by kernel_rfl) (fun c a w => FINQ c a _ _ w) (KG.out _ _ _ MR.out) (by exact yieldsC_moveG (wanted_none rfl) _ rfl (HF.get 0 rfl)) ?_
       replace HF := HF.put 31 (.int .i64 s) (by decide) rfl
       generalize hB1_31 : Act.put _ _ _ = A at HF ⊢
       refine anyC_takeD (i:=1) (v:=.agg (pgArr c p (j : Int) k)) (some 32) rfl rfl (by kernel_rfl) (by kernel_rfl) (by kernel_rfl) (fun c a w => FINQ c a _ _ w) (KG.out _ _ _ MR.out) (by exact yieldsC_row (C:=(fun W => W.heap[gb]? = some (.cells (pgArr c p (j : Int) k) 74 (0,0)))) (wanted_none rfl) 74 _ rfl gb (HF.get 2 rfl) 74 _ _ _ (fun W hW => hW) Tryz.underlying74 rfl (by kernel_rfl)) ?_
       replace HF := HF.put 32 (.agg (pgArr c p (j : Int) k)) (by decide) rfl
       generalize hB2_32 : Act.put _ _ _ = A at HF ⊢
       refine anyC_takeD (i:=2) (v:=.agg (pgArr c p (j : Int) k)) (some 33) rfl rfl (by kernel_rfl) (by kernel_rfl) (by kernel_rfl) (fun c a w => FINQ c a _ _ w) (KG.out _ _ _ MR.out) (by exact yieldsC_row (C:=(fun W => W.heap[gb]? = some (.cells (pgArr c p (j : Int) k) 74 (0,0)))) (wanted_none rfl) 74 _ rfl gb (HF.get 3 rfl) 74 _ _ _ (fun W hW => hW) Tryz.underlying74 rfl (by kernel_rfl)) ?_
       replace HF := HF.put 33 (.agg (pgArr c p (j : Int) k)) (by decide) rfl
       generalize hB3_33 : Act.put _ _ _ = A at HF ⊢
       refine anyC_oneK (i:=3) (some 34) (by kernel_rfl) rfl (wanted_none rfl) rfl (fun K hK => ?_)
       refine wp_call1 (v0:=.agg (pgArr c p (j : Int) k)) rfl (HF.get 0 rfl) (enters_of Tryz.func37 (by kernel_rfl) rfl) ?_
       refine (g_bits HR.out HH.out.toPgIn F2 p kn D2 (j : Int) k hn HQ0.out wq MR.out.1.view HK.out MR.out.1.inv).mono ?_
       intro e w4 he
       rcases MR.out.1.step (More.refl _) HK.out (good_read n PB.out.2.2.2.1) he with ⟨a',hE,rfl,hd',ht',_⟩ | ⟨x4,D4,F4,hE,rfl,M4,hq4,hk4',_⟩
       · exact FIND _ _ HF.1.2 (NEED.out a' w4 (RN.out.symm.trans (bindP_need hE)) hd' ht')
       have R4 := hQQ ((bindP_ok hE).symm.trans RN.out)
       have M4 := hQQ (And.intro M4 (hk4' _ _ nFg MR.out.2))
       clear he hE hk4'
       refine hK _ _ (KG.out _ _ _ M4.out) ?_
       clear hK K
       replace HF := HF.put 34 (.int .i64 x4) (by decide) rfl
       generalize hB4_34 : Act.put _ _ _ = A at HF ⊢
       have hcb := cnt_b x4 k
       have qsum : IntKind.i64.wrap (s + openV k x4) = s + openV k x4 := wrap_in (by omega) (by omega)
       refine anyC_oneK (i:=4) (some 35) (by kernel_rfl) rfl (wanted_none rfl) rfl (fun K hK => ?_)
       refine wp_call2 (v0:=.agg (pgArr c p (j : Int) k)) (v1:=.int .i64 x4) rfl (HF.get 2 rfl) (HF.get 0 rfl) (enters_of Tryz.func49 (by kernel_rfl) rfl) ?_
       refine (g_openV c p (j : Int) k x4 w4 (SZ.out _ _ _ M4.out.1) (by omega)).mono ?_
       rintro e w5 ⟨rfl,h5⟩
       have M5 := hQQ (And.intro (M4.out.1.more h5) (h5.block M4.out.2))
       clear h5
       refine hK _ _ (KG.out _ _ _ M5.out) ?_
       clear hK K
       replace HF := HF.put 35 (.int .i64 (openV k x4)) (by decide) rfl
       generalize hB5_35 : Act.put _ _ _ = A at HF ⊢
       refine anyC_takeD (i:=5) (v:=.int .i64 (s + openV k x4)) (some 36) rfl rfl (by kernel_rfl) (by kernel_rfl) (by kernel_rfl) (fun c a w => FINQ c a _ _ w) (KG.out _ _ _ M5.out) (by exact yieldsC_addI (wanted_none rfl) rfl (HF.get 4 rfl) (HF.get 0 rfl) _ qsum) ?_
       replace HF := HF.put 36 (.int .i64 (s + openV k x4)) (by decide) rfl
       generalize hB6_36 : Act.put _ _ _ = A at HF ⊢
       replace HF : AG 39 A [(36,.int .i64 (s + openV k x4))] := ⟨HF.1,fun z hz => by simp only [List.mem_cons,List.not_mem_nil,or_false] at hz; subst hz; exact HF.2 _ (List.mem_cons_self ..)⟩
       refine anyC_takeD (i:=6) (v:=.int .i64 (s + openV k x4)) (some 7) rfl rfl (by kernel_rfl) (by kernel_rfl) (by kernel_rfl) (fun c a w => FINQ c a _ _ w) (KG.out _ _ _ M5.out) (by exact yieldsC_assign (wanted_none rfl) _ rfl (HF.get 0 rfl)) ?_
       replace HF := HF.put 7 (.int .i64 (s + openV k x4)) (by decide) rfl
       generalize hB7_7 : Act.put _ _ _ = A at HF ⊢
       exact anyC_done (by kernel_rfl) (FINE _ _ ⟨(.int .i64 s),(.agg (pgArr c p (j : Int) k)),(.agg (pgArr c p (j : Int) k)),(.int .i64 x4),(.int .i64 (openV k x4)),(.int .i64 (s + openV k x4)),x4,D4,F4,by rw [← hB7_7,← hB6_36,← hB5_35,← hB4_34,← hB3_33,← hB2_32,← hB1_31],M5.out,R4.out.symm.symm⟩)
     · have d2 : (x2 == k + 1) = false := by simpa using ek
       have RN := hQQ (show freeN c.pg c.st k (c.pg.toNat - (j + 1)) ((j : Int) + 1) s kn D2 = Rr from by have := R2.out; rw [if_neg ek] at this; exact this)
       clear ek
       go_wp2_with fail
       go_roundw
       case rel => exact ⟨j + 1,s,D2,F2,by go_num,rfl,by omega,by omega,by omega,M2.out,RN.out⟩
       case measure => simp [intOf]; omega
   · have d1 : decide ((j : Int) < c.pg) = false := by simpa using hlt
     rw [show c.pg.toNat - j = 0 by omega] at hrest
     have FIN := hQQ (DONE.out s wr D' F' hrest.symm MI.out)
     clear hrest
     go_wp2_with fail
     go_ret
     exact FIN.out
end Go.Proofs.YtmafllcmkhgidaaGreatDoor
namespace Go.Proofs.YtmafllcmkhgidaaGreatDoor
open Go.RowKit
section
variable {ops : Array Oper} {C : World → Prop} {o' : Oper} {a : Act} {x y : Operand}
theorem yieldsC_subI {u z : Int} (hw : Region.wanted o' (yielded ops a.tmps) = true) (ho : o'.op = .binOp .sub 3 x y 3) (hx : a.eval x = .int .i64 u) (hy : a.eval y = .int .i64 z) (t : Int) (hq : IntKind.i64.wrap (u - z) = t) : YieldsC Tryz.prog ops C o' (.int .i64 t) a :=
 .inl ⟨hw,fun w _ => by unfold execOp; generalize a.eval = ρ at hx hy ⊢; simp only [ho,hx,hy]; subst hq; go_simp⟩
end
end Go.Proofs.YtmafllcmkhgidaaGreatDoor
