/-
  The landed package plist: List, Unlink.
-/
import Derived.Test.YtflihdcliknggaaGreatDoorPbAl
import Derived.Test.YtflihdcliknggaaGreatDoorPbAk
set_option maxRecDepth 100000
set_option maxHeartbeats 8000000
set_option linter.unusedVariables false
set_option linter.unusedSimpArgs false
set_option linter.unusedSectionVars false
namespace Go.Proofs.YtflihdcliknggaaGreatDoor
open Go.RowKit Go.Sort Go.Maps Go.Shelf
theorem pl_Unlink {c : Cfg} (R : c.Ok) {n : Nat} (H : HdIn c.pg c.st n) (hn : n ≤ 10000) (F : Nat → Prop) (p : Nat) (kn : Int → Option Int) (D : List KV) (q cl f : Int) (w : World) (hv : ViewAt w F p kn D) (hk : OkK kn) (hD : InvD n D) :
   Calls Tryz.prog 100 #[.pointer (some ⟨p,0,none⟩),.agg c.arr,.int .i64 q,.int .i64 cl,.int .i64 f] w (WentV w F p kn (fun b => .bool b) (plUnlinkP c.pg c.st q cl f kn D)) := by
 obtain ⟨Rr,hRr⟩ : ∃ Rr,plUnlinkP c.pg c.st q cl f kn D = Rr := ⟨_,rfl⟩
 rw [hRr]
 obtain ⟨w1,e1,hl1,m1,s1⟩ := entry1 w (.cells c.arr 28)
 have nFl : ¬ F w.heap.size := fun q => by have := hv.lt _ q; omega
 have MM := hQQ m1
 have L0 := hQQ hl1
 have M0 : Hid (MidV w1 w1 F (fun _ => False) p kn n D F) := hQQ (MidV.begin (hv.more m1) hD)
 have KL : Hid (∀ wr D' F',MidV w1 wr F (fun _ => False) p kn n D' F' → wr.heap[w.heap.size]? = some (.cells c.arr 28 (0,0))) := hQQ fun wr D' F' h => mid_own h L0.out nFl (fun q => q)
 have NEED : Hid (∀ a w2,Rr = .need a → DeadAt w2 p a → Turned (fun b => F b ∨ False) w1 w2 → WentV w F p kn (fun b : Bool => Value.bool b) Rr (.panicked (endOf p)) w2) := hQQ fun a w2 e hd ht => mid_need MM.out (fun _ q => q.elim) e hd ht
 have DONE : Hid (∀ x w2 D' F',Rr = .ok x D' → MidV w1 w2 F (fun _ => False) p kn n D' F' → WentV w F p kn (fun b : Bool => Value.bool b) Rr (.returned ((fun b : Bool => Value.bool b) x)) w2) := hQQ fun x w2 D' F' e h => mid_done MM.out (fun _ q => q.elim) h e
 have HK := hQQ hk
 have HR := hQQ R
 have HH := hQQ H
 clear hl1 m1 hv hD hk R H nFl
 unfold plUnlinkP at hRr
 cases hq : isPage c.pg q with
 | false =>
   rw [hq] at hRr
   have FIN : Hid (∀ w2,More w1 w2 → WentV w F p kn (fun b : Bool => Value.bool b) Rr (.returned (.bool false)) w2) := hQQ fun w2 h => DONE.out false w2 D F hRr.symm (M0.out.more h)
   clear hRr
   go_enter Tryz.func100,Tryz.ntmps100
   go_wp2_with (refine wpList_load_rowG rfl 28 _ rfl _ rfl 28 _ _ _ L0.out Tryz.underlying28 rfl (by kernel_rfl) ?_)
   refine (pl_there HR.out HH.out q _).mono ?_
   rw [hq]
   rintro e w3 ⟨rfl,h3⟩
   have H3 := hQQ h3
   clear h3
   go_wp2_with fail
   go_ret
   exact FIN.out _ H3.out
 | true =>
   rw [hq] at hRr
   have HRr := hQQ (show bindP (plThrP c.pg c.st q cl f) (fun r => if r.2 then bindP (plLeadP c.pg (nA c.pg c.st q)) (fun x => bindP (plJoinP c.pg c.st (headV c.pg c.st cl f) (lastO r.1) x) fun _ => bindP (writeP (nA c.pg c.st q) 0) fun _ => bindP (writeP (vA c.pg c.st q) 0) fun _ => pureP true) else pureP false) kn D = Rr from hRr)
   have P3 := hQQ (page3 (st:=c.st) hq)
   have P4 := hQQ (page4 (st:=c.st) hq)
   have NB := hQQ (nv_b HH.out hq)
   have HQ := hQQ hq
   clear hRr hq
   go_enter Tryz.func100,Tryz.ntmps100
   go_wp2_with (refine wpList_load_rowG rfl 28 _ rfl _ rfl 28 _ _ _ L0.out Tryz.underlying28 rfl (by kernel_rfl) ?_)
   refine (pl_there HR.out HH.out q _).mono ?_
   rw [HQ.out]
   rintro e w2 ⟨rfl,h2⟩
   have M2 := hQQ (M0.out.more h2)
   have L2 := hQQ (KL.out _ _ _ M2.out)
   clear h2
   go_wp2_with (refine wpList_load_rowG rfl 28 _ rfl _ rfl 28 _ _ _ L2.out Tryz.underlying28 rfl (by kernel_rfl) ?_)
   refine (pl_through HR.out HH.out F p kn D q cl f w2 M2.out.view HK.out M2.out.inv).mono ?_
   intro e w3 he
   rcases M2.out.stepR (More.refl _) HK.out (good_plThr HH.out q cl f) he with ⟨a',hE,rfl,hd',ht',_⟩ | ⟨⟨xs,b⟩,D2,F2,v,hE,rfl,⟨u,rfl,hu⟩,M3,hxs,_,_⟩
   · exact ⟨rfl,NEED.out a' w3 (HRr.out.symm.trans (bindP_need hE)) hd' ht'⟩
   have R2 := hQQ ((bindP_ok hE).symm.trans HRr.out)
   have HXS := hQQ (show ∀ x ∈ xs,isPage c.pg x = true from hxs.1)
   have hxl : xs.length ≤ 256 := hxs.2
   have M3 := hQQ M3
   have L3 := hQQ (KL.out _ _ _ M3.out)
   have HU := hQQ (show OwnR w2.heap.size F2 w3 u xs from hu)
   clear he hE hxs hu M2 L2
   cases b with
   | false =>
     have FIN := hQQ (DONE.out false w3 D2 F2 R2.out.symm M3.out)
     clear R2
     go_wp2_with fail
     go_ret
     exact FIN.out
   | true =>
     have R2' := hQQ (show bindP (plLeadP c.pg (nA c.pg c.st q)) (fun x => bindP (plJoinP c.pg c.st (headV c.pg c.st cl f) (lastO xs) x) fun _ => bindP (writeP (nA c.pg c.st q) 0) fun _ => bindP (writeP (vA c.pg c.st q) 0) fun _ => pureP true) kn D2 = Rr from R2.out)
     obtain ⟨av,cv,rfl,hrd⟩ := HU.out.1.reads
     by_cases h0 : xs.length = 0
     · have hxn : xs = [] := List.length_eq_zero_iff.1 h0
       subst hxn
       clear R2 hrd h0 HU
       go_wp2_with fail
       refine wp_region_anyC (TrC c w.heap.size) (by kernel_rfl) ?_
       have MR := hQQ (M3.out.more ((More.refl w3).drewN 1))
       change anyC _ _ _ _ _ _ _ _ (w3.drewN 1)
       generalize w3.drewN 1 = wr at MR ⊢
       generalize hA : Act.mk _ _ = A
       have HF : AG 63 A [(0,.pointer (some ⟨p,0,none⟩)),(1,.agg c.arr),(2,.int .i64 q),(3,.int .i64 cl),(4,.int .i64 f),(6,.pointer (some ⟨w.heap.size,0,none⟩)),(13,.int .i64 (-1))] := by
         rw [← hA]
         refine ⟨⟨Nat.le_of_ble_eq_true rfl,rfl⟩,?_⟩
         intro z hz; simp only [List.mem_cons,List.not_mem_nil,or_false] at hz; rcases hz with rfl | rfl | rfl | rfl | rfl | rfl | rfl <;> rfl
       refine anyC_start (fun a W => ∃ (u39 u40 u41 u42 u43 u45 u46 u47 u48 u49 u44 u50 u51 u52 : Value) (D9 : List KV) (F9 : Nat → Prop),a = (Act.put (Act.put (Act.put (Act.put (Act.put (Act.put (Act.put (Act.put (Act.put (Act.put (Act.put (Act.put (Act.put (Act.put A (some 39) u39) (some 40) u40) (some 41) u41) (some 42) u42) (some 43) u43) (some 45) u45) (some 46) u46) (some 47) u47) (some 48) u48) (some 49) u49) (some 44) u44) (some 50) u50) (some 51) u51) (some 52) u52) ∧ MidV w1 W F (fun _ => False) p kn n D9 F9 ∧ bindP (writeP (nA c.pg c.st q) 0) (fun _ => bindP (writeP (vA c.pg c.st q) 0) fun _ => pureP true) kn D9 = Rr) (fun W => WentV w F p kn (fun b : Bool => Value.bool b) Rr (.panicked (endOf p)) W) (endOf p) (fun a W hd h => ⟨hd,h⟩) (fun _ _ _ _ _ h => h) ?_ ?_
       · skip
         rintro a wa ⟨u39,u40,u41,u42,u43,u45,u46,u47,u48,u49,u44,u50,u51,u52,D7,F7,rfl,MS,RS⟩
         rw [← hA]
         have MS := hQQ MS
         have LS := hQQ (KL.out _ _ _ MS.out)
         have RS := hQQ RS
         clear HF hA MR M3 R2' L3
         go_wp2_with (refine wpList_load_rowG rfl 28 _ rfl _ rfl 28 _ _ _ LS.out Tryz.underlying28 rfl (by kernel_rfl) ?_)
         refine (y_next HR.out _ q).mono ?_
         rw [P3.out]
         rintro e w8 ⟨rfl,h8⟩
         have M8 := hQQ (MS.out.more h8)
         clear h8
         go_wp2_with fail
         refine (write_any F7 p kn D7 _ 0 w8 M8.out.view (by have := M8.out.inv.len; omega)).mono ?_
         intro e w9 he
         rcases M8.out.step (More.refl _) HK.out (good_write n NB.out.1.2.2 NB.out.1.2.1 (by unfold W64; omega)) he with ⟨a',hE,rfl,hd',ht',_⟩ | ⟨x9,D9,F9,hE,rfl,M9,hq9,_,_⟩
         · exact ⟨rfl,NEED.out a' w9 (RS.out.symm.trans (bindP_need hE)) hd' ht'⟩
         have L9 := hQQ (KL.out _ _ _ M9)
         have R9 := hQQ ((bindP_ok hE).symm.trans RS.out)
         have M9 := hQQ M9
         clear he hE
         go_wp2_with (refine wpList_load_rowG rfl 28 _ rfl _ rfl 28 _ _ _ L9.out Tryz.underlying28 rfl (by kernel_rfl) ?_)
         refine (y_prev HR.out _ q).mono ?_
         rw [P4.out]
         rintro e w10 ⟨rfl,h10⟩
         have M10 := hQQ (M9.out.more h10)
         clear h10
         go_wp2_with fail
         refine (write_any F9 p kn D9 _ 0 w10 M10.out.view (by have := M10.out.inv.len; omega)).mono ?_
         intro e w11 he
         rcases M10.out.step (More.refl _) HK.out (good_write n NB.out.2.2.2 NB.out.2.2.1 (by unfold W64; omega)) he with ⟨a',hE,rfl,hd',ht',_⟩ | ⟨x11,D11,F11,hE,rfl,M11,hq11,_,_⟩
         · exact ⟨rfl,NEED.out a' w11 (R9.out.symm.trans (bindP_need hE)) hd' ht'⟩
         have FIN := hQQ (DONE.out true w11 D11 F11 (R9.out.symm.trans (bindP_ok hE)) M11)
         clear he hE M11
         go_wp2_with fail
         go_ret
         exact FIN.out
       intro QQ FINE FIND FINQ
       clear hA
       refine anyC_takeD (i:=0) (v:=.pointer (some ⟨p,0,none⟩)) (some 39) rfl rfl (by kernel_rfl) (by kernel_rfl) (by kernel_rfl) (fun c a w => FINQ c a _ _ w) (KL.out _ _ _ MR.out) (by exact yieldsC_moveG (wanted_none rfl) _ rfl (HF.get 0 rfl)) ?_
       replace HF := HF.put 39 (.pointer (some ⟨p,0,none⟩)) (by decide) rfl
       generalize hB1_39 : Act.put _ _ _ = A at HF ⊢
       refine anyC_takeD (i:=1) (v:=.agg c.arr) (some 40) rfl rfl (by kernel_rfl) (by kernel_rfl) (by kernel_rfl) (fun c a w => FINQ c a _ _ w) (KL.out _ _ _ MR.out) (by exact yieldsC_row (C:=(TrC c w.heap.size)) (wanted_none rfl) 28 _ rfl w.heap.size (HF.get 6 rfl) 28 _ _ _ (fun W hW => hW) Tryz.underlying28 rfl (by kernel_rfl)) ?_
       replace HF := HF.put 40 (.agg c.arr) (by decide) rfl
       generalize hB2_40 : Act.put _ _ _ = A at HF ⊢
       refine anyC_takeD (i:=2) (v:=.agg c.arr) (some 41) rfl rfl (by kernel_rfl) (by kernel_rfl) (by kernel_rfl) (fun c a w => FINQ c a _ _ w) (KL.out _ _ _ MR.out) (by exact yieldsC_row (C:=(TrC c w.heap.size)) (wanted_none rfl) 28 _ rfl w.heap.size (HF.get 7 rfl) 28 _ _ _ (fun W hW => hW) Tryz.underlying28 rfl (by kernel_rfl)) ?_
       replace HF := HF.put 41 (.agg c.arr) (by decide) rfl
       generalize hB3_41 : Act.put _ _ _ = A at HF ⊢
       refine anyC_takeD (i:=3) (v:=.int .i64 cl) (some 42) rfl rfl (by kernel_rfl) (by kernel_rfl) (by kernel_rfl) (fun c a w => FINQ c a _ _ w) (KL.out _ _ _ MR.out) (by exact yieldsC_moveG (wanted_none rfl) _ rfl (HF.get 6 rfl)) ?_
       replace HF := HF.put 42 (.int .i64 cl) (by decide) rfl
       generalize hB4_42 : Act.put _ _ _ = A at HF ⊢
       refine anyC_takeD (i:=4) (v:=.int .i64 f) (some 43) rfl rfl (by kernel_rfl) (by kernel_rfl) (by kernel_rfl) (fun c a w => FINQ c a _ _ w) (KL.out _ _ _ MR.out) (by exact yieldsC_moveG (wanted_none rfl) _ rfl (HF.get 8 rfl)) ?_
       replace HF := HF.put 43 (.int .i64 f) (by decide) rfl
       generalize hB5_43 : Act.put _ _ _ = A at HF ⊢
       refine anyC_takeD (i:=6) (v:=.int .i64 (-1)) (some 45) rfl rfl (by kernel_rfl) (by kernel_rfl) (by kernel_rfl) (fun c a w => FINQ c a _ _ w) (KL.out _ _ _ MR.out) (by exact yieldsC_moveG (wanted_none rfl) _ rfl (HF.get 11 rfl)) ?_
       replace HF := HF.put 45 (.int .i64 (-1)) (by decide) rfl
       generalize hB6_45 : Act.put _ _ _ = A at HF ⊢
       refine anyC_takeD (i:=7) (v:=.pointer (some ⟨p,0,none⟩)) (some 46) rfl rfl (by kernel_rfl) (by kernel_rfl) (by kernel_rfl) (fun c a w => FINQ c a _ _ w) (KL.out _ _ _ MR.out) (by exact yieldsC_moveG (wanted_none rfl) _ rfl (HF.get 6 rfl)) ?_
       replace HF := HF.put 46 (.pointer (some ⟨p,0,none⟩)) (by decide) rfl
       generalize hB7_46 : Act.put _ _ _ = A at HF ⊢
       refine anyC_takeD (i:=8) (v:=.agg c.arr) (some 47) rfl rfl (by kernel_rfl) (by kernel_rfl) (by kernel_rfl) (fun c a w => FINQ c a _ _ w) (KL.out _ _ _ MR.out) (by exact yieldsC_row (C:=(TrC c w.heap.size)) (wanted_none rfl) 28 _ rfl w.heap.size (HF.get 12 rfl) 28 _ _ _ (fun W hW => hW) Tryz.underlying28 rfl (by kernel_rfl)) ?_
       replace HF := HF.put 47 (.agg c.arr) (by decide) rfl
       generalize hB8_47 : Act.put _ _ _ = A at HF ⊢
       refine anyC_takeD (i:=9) (v:=.agg c.arr) (some 48) rfl rfl (by kernel_rfl) (by kernel_rfl) (by kernel_rfl) (fun c a w => FINQ c a _ _ w) (KL.out _ _ _ MR.out) (by exact yieldsC_row (C:=(TrC c w.heap.size)) (wanted_none rfl) 28 _ rfl w.heap.size (HF.get 13 rfl) 28 _ _ _ (fun W hW => hW) Tryz.underlying28 rfl (by kernel_rfl)) ?_
       replace HF := HF.put 48 (.agg c.arr) (by decide) rfl
       generalize hB9_48 : Act.put _ _ _ = A at HF ⊢
       refine anyC_takeD (i:=10) (v:=.int .i64 q) (some 49) rfl rfl (by kernel_rfl) (by kernel_rfl) (by kernel_rfl) (fun c a w => FINQ c a _ _ w) (KL.out _ _ _ MR.out) (by exact yieldsC_moveG (wanted_none rfl) _ rfl (HF.get 11 rfl)) ?_
       replace HF := HF.put 49 (.int .i64 q) (by decide) rfl
       generalize hB10_49 : Act.put _ _ _ = A at HF ⊢
       refine anyC_oneK (i:=5) (some 44) (by kernel_rfl) rfl (wanted_none rfl) rfl (fun K hK => ?_)
       refine wp_call3 (v0:=.agg c.arr) (v1:=.int .i64 cl) (v2:=.int .i64 f) rfl (HF.get 7 rfl) (HF.get 6 rfl) (HF.get 5 rfl) (enters_of Tryz.func94 (by kernel_rfl) rfl) ?_
       refine (y_head HR.out wr cl f).mono ?_
       rintro e w4 ⟨rfl,h4⟩
       have M4 := hQQ (MR.out.more h4)
       clear h4
       refine hK _ _ (KL.out _ _ _ M4.out) ?_
       clear hK K
       replace HF := HF.put 44 (.int .i64 (headV c.pg c.st cl f)) (by decide) rfl
       generalize hB11_44 : Act.put _ _ _ = A at HF ⊢
       refine anyC_oneK (i:=11) (some 50) (by kernel_rfl) rfl (wanted_none rfl) rfl (fun K hK => ?_)
       refine wp_call2 (v0:=.agg c.arr) (v1:=.int .i64 q) rfl (HF.get 2 rfl) (HF.get 1 rfl) (enters_of Tryz.func142 (by kernel_rfl) rfl) ?_
       refine (y_next HR.out w4 q).mono ?_
       rw [P3.out]
       rintro e w5 ⟨rfl,h5⟩
       have M5 := hQQ (M4.out.more h5)
       clear h5
       refine hK _ _ (KL.out _ _ _ M5.out) ?_
       clear hK K
       replace HF := HF.put 50 (.int .i64 (nA c.pg c.st q)) (by decide) rfl
       generalize hB12_50 : Act.put _ _ _ = A at HF ⊢
       refine anyC_oneK (i:=12) (some 51) (by kernel_rfl) rfl (wanted_none rfl) rfl (fun K hK => ?_)
       refine wp_call3 (v0:=.pointer (some ⟨p,0,none⟩)) (v1:=.agg c.arr) (v2:=.int .i64 (nA c.pg c.st q)) rfl (HF.get 5 rfl) (HF.get 4 rfl) (HF.get 0 rfl) (enters_of Tryz.func93 (by kernel_rfl) rfl) ?_
       refine (pl_leads HR.out HH.out F2 p kn D2 (nA c.pg c.st q) NB.out.1.2.2 NB.out.1.2.1 w5 M5.out.view HK.out M5.out.inv).mono ?_
       intro e w6 he
       rcases M5.out.step (More.refl _) HK.out (good_plLead HH.out NB.out.1.2.1) he with ⟨a',hE,rfl,hd',ht',_⟩ | ⟨x6,D6,F6,hE,rfl,M6,hq6,_,_⟩
       · exact FIND _ _ HF.1.2 (NEED.out a' w6 (R2'.out.symm.trans (bindP_need hE)) hd' ht')
       have R6 := hQQ ((bindP_ok hE).symm.trans R2'.out)
       have M6 := hQQ M6
       clear he hE
       refine hK _ _ (KL.out _ _ _ M6.out) ?_
       clear hK K
       replace HF := HF.put 51 (.int .i64 x6) (by decide) rfl
       generalize hB13_51 : Act.put _ _ _ = A at HF ⊢
       refine anyC_oneK (i:=13) (some 52) (by kernel_rfl) rfl (wanted_none rfl) rfl (fun K hK => ?_)
       refine wp_call5 (v0:=.pointer (some ⟨p,0,none⟩)) (v1:=.agg c.arr) (v2:=.int .i64 (headV c.pg c.st cl f)) (v3:=.int .i64 (-1)) (v4:=.int .i64 x6) rfl (HF.get 12 rfl) (HF.get 11 rfl) (HF.get 2 rfl) (HF.get 7 rfl) (HF.get 0 rfl) (enters_of Tryz.func141 (by kernel_rfl) rfl) ?_
       refine (pl_join HR.out HH.out hn F6 p kn D6 (headV c.pg c.st cl f) (-1) x6 (head_b HH.out).2.2 (head_b HH.out).2.1 (.inl rfl) hq6 w6 M6.out.view HK.out M6.out.inv).mono ?_
       intro e w7 he
       rcases M6.out.step (More.refl _) HK.out (good_plJoin HH.out (head_b HH.out).2.2 (head_b HH.out).2.1 (.inl rfl) hq6) he with ⟨a',hE,rfl,hd',ht',_⟩ | ⟨x7,D7,F7,hE,rfl,M7,hq7,_,_⟩
       · exact FIND _ _ HF.1.2 (NEED.out a' w7 (R6.out.symm.trans (bindP_need hE)) hd' ht')
       have R7 := hQQ ((bindP_ok hE).symm.trans R6.out)
       have M7 := hQQ M7
       clear he hE
       refine hK _ _ (KL.out _ _ _ M7.out) ?_
       clear hK K
       replace HF := HF.put 52 (.tuple #[]) (by decide) rfl
       generalize hB14_52 : Act.put _ _ _ = A at HF ⊢
       exact anyC_done (by kernel_rfl) (FINE _ _ ⟨(.pointer (some ⟨p,0,none⟩)),(.agg c.arr),(.agg c.arr),(.int .i64 cl),(.int .i64 f),(.int .i64 (-1)),(.pointer (some ⟨p,0,none⟩)),(.agg c.arr),(.agg c.arr),(.int .i64 q),(.int .i64 (headV c.pg c.st cl f)),(.int .i64 (nA c.pg c.st q)),(.int .i64 x6),(.tuple #[]),D7,F7,by rw [← hB14_52,← hB13_51,← hB12_50,← hB11_44,← hB10_49,← hB9_48,← hB8_47,← hB7_46,← hB6_45,← hB5_43,← hB4_42,← hB3_41,← hB2_40,← hB1_39],M7.out,R7.out⟩)
     · obtain ⟨g,rfl,_,_,hcell⟩ := hrd 0 (by omega)
       have d0 : decide ((0 : Int) < (xs.length : Int)) = true := by simp; omega
       have hlast : xs.getD (xs.length - 1) 0 = lastO xs := by
         unfold lastO
         rw [List.getD_eq_getElem?_getD,List.getD_eq_getElem?_getD,List.getElem?_eq_getElem (by omega)]
         rfl
       have hc := hcell (xs.length - 1) (by omega)
       rw [hlast] at hc
       obtain ⟨m,hm⟩ : ∃ m : Nat,xs.length = m + 1 := ⟨xs.length - 1,by omega⟩
       rw [hm] at hc ⊢
       have hc : w3.cell? ⟨g,m,none⟩ = some (.int .i64 (lastO xs)) := hc
       have hm9 : m < 9000000000000000000 := by omega
       have q1 : IntKind.i64.wrap (((m + 1 : Nat) : Int) - 1) = (m : Int) := by rw [show ((m + 1 : Nat) : Int) - 1 = (m : Int) by omega]; exact wrap_in (by omega) (by omega)
       have d1 : decide ((0 : Int) < ((m + 1 : Nat) : Int)) = true := by simp
       clear R2 hrd h0 HU hcell hlast hm d0
       go_wp2_with fail
       clear hc
       refine wp_region_anyC (TrC c w.heap.size) (by kernel_rfl) ?_
       have MR := hQQ (M3.out.more ((More.refl w3).drewN 1))
       change anyC _ _ _ _ _ _ _ _ (w3.drewN 1)
       generalize w3.drewN 1 = wr at MR ⊢
       generalize hA : Act.mk _ _ = A
       have HF : AG 63 A [(0,.pointer (some ⟨p,0,none⟩)),(1,.agg c.arr),(2,.int .i64 q),(3,.int .i64 cl),(4,.int .i64 f),(6,.pointer (some ⟨w.heap.size,0,none⟩)),(13,.int .i64 (lastO xs))] := by
         rw [← hA]
         refine ⟨⟨Nat.le_of_ble_eq_true rfl,rfl⟩,?_⟩
         intro z hz; simp only [List.mem_cons,List.not_mem_nil,or_false] at hz; rcases hz with rfl | rfl | rfl | rfl | rfl | rfl | rfl <;> rfl
       refine anyC_start (fun a W => ∃ (u39 u40 u41 u42 u43 u45 u46 u47 u48 u49 u44 u50 u51 u52 : Value) (D9 : List KV) (F9 : Nat → Prop),a = (Act.put (Act.put (Act.put (Act.put (Act.put (Act.put (Act.put (Act.put (Act.put (Act.put (Act.put (Act.put (Act.put (Act.put A (some 39) u39) (some 40) u40) (some 41) u41) (some 42) u42) (some 43) u43) (some 45) u45) (some 46) u46) (some 47) u47) (some 48) u48) (some 49) u49) (some 44) u44) (some 50) u50) (some 51) u51) (some 52) u52) ∧ MidV w1 W F (fun _ => False) p kn n D9 F9 ∧ bindP (writeP (nA c.pg c.st q) 0) (fun _ => bindP (writeP (vA c.pg c.st q) 0) fun _ => pureP true) kn D9 = Rr) (fun W => WentV w F p kn (fun b : Bool => Value.bool b) Rr (.panicked (endOf p)) W) (endOf p) (fun a W hd h => ⟨hd,h⟩) (fun _ _ _ _ _ h => h) ?_ ?_
       · skip
         rintro a wa ⟨u39,u40,u41,u42,u43,u45,u46,u47,u48,u49,u44,u50,u51,u52,D7,F7,rfl,MS,RS⟩
         rw [← hA]
         have MS := hQQ MS
         have LS := hQQ (KL.out _ _ _ MS.out)
         have RS := hQQ RS
         clear HF hA MR M3 R2' L3
         go_wp2_with (refine wpList_load_rowG rfl 28 _ rfl _ rfl 28 _ _ _ LS.out Tryz.underlying28 rfl (by kernel_rfl) ?_)
         refine (y_next HR.out _ q).mono ?_
         rw [P3.out]
         rintro e w8 ⟨rfl,h8⟩
         have M8 := hQQ (MS.out.more h8)
         clear h8
         go_wp2_with fail
         refine (write_any F7 p kn D7 _ 0 w8 M8.out.view (by have := M8.out.inv.len; omega)).mono ?_
         intro e w9 he
         rcases M8.out.step (More.refl _) HK.out (good_write n NB.out.1.2.2 NB.out.1.2.1 (by unfold W64; omega)) he with ⟨a',hE,rfl,hd',ht',_⟩ | ⟨x9,D9,F9,hE,rfl,M9,hq9,_,_⟩
         · exact ⟨rfl,NEED.out a' w9 (RS.out.symm.trans (bindP_need hE)) hd' ht'⟩
         have L9 := hQQ (KL.out _ _ _ M9)
         have R9 := hQQ ((bindP_ok hE).symm.trans RS.out)
         have M9 := hQQ M9
         clear he hE
         go_wp2_with (refine wpList_load_rowG rfl 28 _ rfl _ rfl 28 _ _ _ L9.out Tryz.underlying28 rfl (by kernel_rfl) ?_)
         refine (y_prev HR.out _ q).mono ?_
         rw [P4.out]
         rintro e w10 ⟨rfl,h10⟩
         have M10 := hQQ (M9.out.more h10)
         clear h10
         go_wp2_with fail
         refine (write_any F9 p kn D9 _ 0 w10 M10.out.view (by have := M10.out.inv.len; omega)).mono ?_
         intro e w11 he
         rcases M10.out.step (More.refl _) HK.out (good_write n NB.out.2.2.2 NB.out.2.2.1 (by unfold W64; omega)) he with ⟨a',hE,rfl,hd',ht',_⟩ | ⟨x11,D11,F11,hE,rfl,M11,hq11,_,_⟩
         · exact ⟨rfl,NEED.out a' w11 (R9.out.symm.trans (bindP_need hE)) hd' ht'⟩
         have FIN := hQQ (DONE.out true w11 D11 F11 (R9.out.symm.trans (bindP_ok hE)) M11)
         clear he hE M11
         go_wp2_with fail
         go_ret
         exact FIN.out
       intro QQ FINE FIND FINQ
       clear hA
       refine anyC_takeD (i:=0) (v:=.pointer (some ⟨p,0,none⟩)) (some 39) rfl rfl (by kernel_rfl) (by kernel_rfl) (by kernel_rfl) (fun c a w => FINQ c a _ _ w) (KL.out _ _ _ MR.out) (by exact yieldsC_moveG (wanted_none rfl) _ rfl (HF.get 0 rfl)) ?_
       replace HF := HF.put 39 (.pointer (some ⟨p,0,none⟩)) (by decide) rfl
       generalize hB1_39 : Act.put _ _ _ = A at HF ⊢
       refine anyC_takeD (i:=1) (v:=.agg c.arr) (some 40) rfl rfl (by kernel_rfl) (by kernel_rfl) (by kernel_rfl) (fun c a w => FINQ c a _ _ w) (KL.out _ _ _ MR.out) (by exact yieldsC_row (C:=(TrC c w.heap.size)) (wanted_none rfl) 28 _ rfl w.heap.size (HF.get 6 rfl) 28 _ _ _ (fun W hW => hW) Tryz.underlying28 rfl (by kernel_rfl)) ?_
       replace HF := HF.put 40 (.agg c.arr) (by decide) rfl
       generalize hB2_40 : Act.put _ _ _ = A at HF ⊢
       refine anyC_takeD (i:=2) (v:=.agg c.arr) (some 41) rfl rfl (by kernel_rfl) (by kernel_rfl) (by kernel_rfl) (fun c a w => FINQ c a _ _ w) (KL.out _ _ _ MR.out) (by exact yieldsC_row (C:=(TrC c w.heap.size)) (wanted_none rfl) 28 _ rfl w.heap.size (HF.get 7 rfl) 28 _ _ _ (fun W hW => hW) Tryz.underlying28 rfl (by kernel_rfl)) ?_
       replace HF := HF.put 41 (.agg c.arr) (by decide) rfl
       generalize hB3_41 : Act.put _ _ _ = A at HF ⊢
       refine anyC_takeD (i:=3) (v:=.int .i64 cl) (some 42) rfl rfl (by kernel_rfl) (by kernel_rfl) (by kernel_rfl) (fun c a w => FINQ c a _ _ w) (KL.out _ _ _ MR.out) (by exact yieldsC_moveG (wanted_none rfl) _ rfl (HF.get 6 rfl)) ?_
       replace HF := HF.put 42 (.int .i64 cl) (by decide) rfl
       generalize hB4_42 : Act.put _ _ _ = A at HF ⊢
       refine anyC_takeD (i:=4) (v:=.int .i64 f) (some 43) rfl rfl (by kernel_rfl) (by kernel_rfl) (by kernel_rfl) (fun c a w => FINQ c a _ _ w) (KL.out _ _ _ MR.out) (by exact yieldsC_moveG (wanted_none rfl) _ rfl (HF.get 8 rfl)) ?_
       replace HF := HF.put 43 (.int .i64 f) (by decide) rfl
       generalize hB5_43 : Act.put _ _ _ = A at HF ⊢
       refine anyC_takeD (i:=6) (v:=.int .i64 (lastO xs)) (some 45) rfl rfl (by kernel_rfl) (by kernel_rfl) (by kernel_rfl) (fun c a w => FINQ c a _ _ w) (KL.out _ _ _ MR.out) (by exact yieldsC_moveG (wanted_none rfl) _ rfl (HF.get 11 rfl)) ?_
       replace HF := HF.put 45 (.int .i64 (lastO xs)) (by decide) rfl
       generalize hB6_45 : Act.put _ _ _ = A at HF ⊢
       refine anyC_takeD (i:=7) (v:=.pointer (some ⟨p,0,none⟩)) (some 46) rfl rfl (by kernel_rfl) (by kernel_rfl) (by kernel_rfl) (fun c a w => FINQ c a _ _ w) (KL.out _ _ _ MR.out) (by exact yieldsC_moveG (wanted_none rfl) _ rfl (HF.get 6 rfl)) ?_
       replace HF := HF.put 46 (.pointer (some ⟨p,0,none⟩)) (by decide) rfl
       generalize hB7_46 : Act.put _ _ _ = A at HF ⊢
       refine anyC_takeD (i:=8) (v:=.agg c.arr) (some 47) rfl rfl (by kernel_rfl) (by kernel_rfl) (by kernel_rfl) (fun c a w => FINQ c a _ _ w) (KL.out _ _ _ MR.out) (by exact yieldsC_row (C:=(TrC c w.heap.size)) (wanted_none rfl) 28 _ rfl w.heap.size (HF.get 12 rfl) 28 _ _ _ (fun W hW => hW) Tryz.underlying28 rfl (by kernel_rfl)) ?_
       replace HF := HF.put 47 (.agg c.arr) (by decide) rfl
       generalize hB8_47 : Act.put _ _ _ = A at HF ⊢
       refine anyC_takeD (i:=9) (v:=.agg c.arr) (some 48) rfl rfl (by kernel_rfl) (by kernel_rfl) (by kernel_rfl) (fun c a w => FINQ c a _ _ w) (KL.out _ _ _ MR.out) (by exact yieldsC_row (C:=(TrC c w.heap.size)) (wanted_none rfl) 28 _ rfl w.heap.size (HF.get 13 rfl) 28 _ _ _ (fun W hW => hW) Tryz.underlying28 rfl (by kernel_rfl)) ?_
       replace HF := HF.put 48 (.agg c.arr) (by decide) rfl
       generalize hB9_48 : Act.put _ _ _ = A at HF ⊢
       refine anyC_takeD (i:=10) (v:=.int .i64 q) (some 49) rfl rfl (by kernel_rfl) (by kernel_rfl) (by kernel_rfl) (fun c a w => FINQ c a _ _ w) (KL.out _ _ _ MR.out) (by exact yieldsC_moveG (wanted_none rfl) _ rfl (HF.get 11 rfl)) ?_
       replace HF := HF.put 49 (.int .i64 q) (by decide) rfl
       generalize hB10_49 : Act.put _ _ _ = A at HF ⊢
       refine anyC_oneK (i:=5) (some 44) (by kernel_rfl) rfl (wanted_none rfl) rfl (fun K hK => ?_)
       refine wp_call3 (v0:=.agg c.arr) (v1:=.int .i64 cl) (v2:=.int .i64 f) rfl (HF.get 7 rfl) (HF.get 6 rfl) (HF.get 5 rfl) (enters_of Tryz.func94 (by kernel_rfl) rfl) ?_
       refine (y_head HR.out wr cl f).mono ?_
       rintro e w4 ⟨rfl,h4⟩
       have M4 := hQQ (MR.out.more h4)
       clear h4
       refine hK _ _ (KL.out _ _ _ M4.out) ?_
       clear hK K
       replace HF := HF.put 44 (.int .i64 (headV c.pg c.st cl f)) (by decide) rfl
       generalize hB11_44 : Act.put _ _ _ = A at HF ⊢
       refine anyC_oneK (i:=11) (some 50) (by kernel_rfl) rfl (wanted_none rfl) rfl (fun K hK => ?_)
       refine wp_call2 (v0:=.agg c.arr) (v1:=.int .i64 q) rfl (HF.get 2 rfl) (HF.get 1 rfl) (enters_of Tryz.func142 (by kernel_rfl) rfl) ?_
       refine (y_next HR.out w4 q).mono ?_
       rw [P3.out]
       rintro e w5 ⟨rfl,h5⟩
       have M5 := hQQ (M4.out.more h5)
       clear h5
       refine hK _ _ (KL.out _ _ _ M5.out) ?_
       clear hK K
       replace HF := HF.put 50 (.int .i64 (nA c.pg c.st q)) (by decide) rfl
       generalize hB12_50 : Act.put _ _ _ = A at HF ⊢
       refine anyC_oneK (i:=12) (some 51) (by kernel_rfl) rfl (wanted_none rfl) rfl (fun K hK => ?_)
       refine wp_call3 (v0:=.pointer (some ⟨p,0,none⟩)) (v1:=.agg c.arr) (v2:=.int .i64 (nA c.pg c.st q)) rfl (HF.get 5 rfl) (HF.get 4 rfl) (HF.get 0 rfl) (enters_of Tryz.func93 (by kernel_rfl) rfl) ?_
       refine (pl_leads HR.out HH.out F2 p kn D2 (nA c.pg c.st q) NB.out.1.2.2 NB.out.1.2.1 w5 M5.out.view HK.out M5.out.inv).mono ?_
       intro e w6 he
       rcases M5.out.step (More.refl _) HK.out (good_plLead HH.out NB.out.1.2.1) he with ⟨a',hE,rfl,hd',ht',_⟩ | ⟨x6,D6,F6,hE,rfl,M6,hq6,_,_⟩
       · exact FIND _ _ HF.1.2 (NEED.out a' w6 (R2'.out.symm.trans (bindP_need hE)) hd' ht')
       have R6 := hQQ ((bindP_ok hE).symm.trans R2'.out)
       have M6 := hQQ M6
       clear he hE
       refine hK _ _ (KL.out _ _ _ M6.out) ?_
       clear hK K
       replace HF := HF.put 51 (.int .i64 x6) (by decide) rfl
       generalize hB13_51 : Act.put _ _ _ = A at HF ⊢
       refine anyC_oneK (i:=13) (some 52) (by kernel_rfl) rfl (wanted_none rfl) rfl (fun K hK => ?_)
       refine wp_call5 (v0:=.pointer (some ⟨p,0,none⟩)) (v1:=.agg c.arr) (v2:=.int .i64 (headV c.pg c.st cl f)) (v3:=.int .i64 (lastO xs)) (v4:=.int .i64 x6) rfl (HF.get 12 rfl) (HF.get 11 rfl) (HF.get 2 rfl) (HF.get 7 rfl) (HF.get 0 rfl) (enters_of Tryz.func141 (by kernel_rfl) rfl) ?_
       refine (pl_join HR.out HH.out hn F6 p kn D6 (headV c.pg c.st cl f) (lastO xs) x6 (head_b HH.out).2.2 (head_b HH.out).2.1 (lastO_b HH.out HXS.out) hq6 w6 M6.out.view HK.out M6.out.inv).mono ?_
       intro e w7 he
       rcases M6.out.step (More.refl _) HK.out (good_plJoin HH.out (head_b HH.out).2.2 (head_b HH.out).2.1 (lastO_b HH.out HXS.out) hq6) he with ⟨a',hE,rfl,hd',ht',_⟩ | ⟨x7,D7,F7,hE,rfl,M7,hq7,_,_⟩
       · exact FIND _ _ HF.1.2 (NEED.out a' w7 (R6.out.symm.trans (bindP_need hE)) hd' ht')
       have R7 := hQQ ((bindP_ok hE).symm.trans R6.out)
       have M7 := hQQ M7
       clear he hE
       refine hK _ _ (KL.out _ _ _ M7.out) ?_
       clear hK K
       replace HF := HF.put 52 (.tuple #[]) (by decide) rfl
       generalize hB14_52 : Act.put _ _ _ = A at HF ⊢
       exact anyC_done (by kernel_rfl) (FINE _ _ ⟨(.pointer (some ⟨p,0,none⟩)),(.agg c.arr),(.agg c.arr),(.int .i64 cl),(.int .i64 f),(.int .i64 (lastO xs)),(.pointer (some ⟨p,0,none⟩)),(.agg c.arr),(.agg c.arr),(.int .i64 q),(.int .i64 (headV c.pg c.st cl f)),(.int .i64 (nA c.pg c.st q)),(.int .i64 x6),(.tuple #[]),D7,F7,by rw [← hB14_52,← hB13_51,← hB12_50,← hB11_44,← hB10_49,← hB9_48,← hB8_47,← hB7_46,← hB6_45,← hB5_43,← hB4_42,← hB3_41,← hB2_40,← hB1_39],M7.out,R7.out⟩)
theorem pd_leads {c : Cfg} (R : c.Ok) {n : Nat} (H : HdIn c.pg c.st n) (p : Nat) (nd a : Int) (w : World) (hd : DeadAt w p nd) :
   Calls Tryz.prog 93 #[.pointer (some ⟨p,0,none⟩),.agg c.arr,.int .i64 a] w (Gives w (.int .i64 (-1))) := by
 obtain ⟨w1,e1,hl1,m1,s1⟩ := entry1 w (.cells c.arr 28)
 have MM := hQQ m1
 have L0 := hQQ hl1
 have DD : Hid (∀ W,More w1 W → DeadAt W p nd) := hQQ fun W m => (hd.keep m1 (fun q => q)).keep m (fun q => q)
 have HR := hQQ R
 have HH := hQQ H
 clear hl1 m1 hd R H
 have q0 : IntKind.i64.wrap (0 - 1) = -1 := by decide
 have hb : isPage c.pg (-1) = false := by
   cases e : isPage c.pg (-1) with
   | false => rfl
   | true => have := isPage_iff.1 e; omega
 by_cases a0 : a = 0
 · have d0 : (a == 0) = true := by simp [a0]
   clear a0
   go_enter Tryz.func93,Tryz.ntmps93
   go_wp2_with fail
   go_ret
   exact ⟨rfl,MM.out⟩
 · have d0 : (a == 0) = false := by simp [a0]
   clear a0
   go_enter Tryz.func93,Tryz.ntmps93
   go_wp2_with fail
   refine (read_dead p nd a w1 (DD.out _ (More.refl _))).mono ?_
   rintro e w2 ⟨rfl,rfl⟩
   go_wp2_with (refine wpList_load_rowG rfl 28 _ rfl _ rfl 28 _ _ _ L0.out Tryz.underlying28 rfl (by kernel_rfl) ?_)
   refine (pl_there HR.out HH.out (-1) _).mono ?_
   rw [hb]
   rintro e w3 ⟨rfl,h3⟩
   have FIN := hQQ (MM.out.trans h3)
   clear h3
   go_wp2_with fail
   go_ret
   exact ⟨rfl,FIN.out⟩
theorem pd_join {c : Cfg} (R : c.Ok) {n : Nat} (H : HdIn c.pg c.st n) (p : Nat) (nd h x y : Int) (w : World) (hd : DeadAt w p nd) :
   Calls Tryz.prog 141 #[.pointer (some ⟨p,0,none⟩),.agg c.arr,.int .i64 h,.int .i64 x,.int .i64 y] w (Gives w (.tuple #[])) := by
 obtain ⟨w1,e1,hl1,m1,s1⟩ := entry1 w (.cells c.arr 28)
 have MM := hQQ m1
 have L0 := hQQ hl1
 have DD : Hid (∀ W,More w1 W → DeadAt W p nd) := hQQ fun W m => (hd.keep m1 (fun q => q)).keep m (fun q => q)
 have HR := hQQ R
 have HH := hQQ H
 clear hl1 m1 hd R H
 have M0 : Hid (More w1 w1) := hQQ (More.refl _)
 by_cases ex : x = -1
 · have d0 : (x == -1) = true := by simp [ex]
   clear ex
   go_enter Tryz.func141,Tryz.ntmps141
   go_wp2_with fail
   refine (write_dead p nd _ _ _ (DD.out _ M0.out)).mono ?_
   rintro e w2 ⟨rfl,rfl⟩
   by_cases ey : y = -1
   · have d1 : (y != -1) = false := by simp [ey]
     have d2 : (y == -1) = true := by simp [ey]
     have FIN := hQQ (MM.out.trans M0.out)
     clear ey
     go_wp2_with fail
     go_end0
     exact ⟨rfl,FIN.out⟩
   · have d1 : (y != -1) = true := by simpa using ey
     have d2 : (y == -1) = false := by simpa using ey
     clear ey
     go_wp2_with (refine wpList_load_rowG rfl 28 _ rfl _ rfl 28 _ _ _ L0.out Tryz.underlying28 rfl (by kernel_rfl) ?_)
     refine (y_prev HR.out _ y).mono ?_
     rintro e w7 ⟨rfl,h7⟩
     have M7 := hQQ (M0.out.trans h7)
     have L7 := hQQ (h7.block L0.out)
     clear h7
     have FIN := hQQ (MM.out.trans M7.out)
     go_wp2_with fail
     refine (write_dead p nd _ _ _ (DD.out _ M7.out)).mono ?_
     rintro e w8 ⟨rfl,rfl⟩
     go_wp2_with fail
     go_end0
     exact ⟨rfl,FIN.out⟩
 · have d0 : (x == -1) = false := by simp [ex]
   clear ex
   go_enter Tryz.func141,Tryz.ntmps141
   go_wp2_with (refine wpList_load_rowG rfl 28 _ rfl _ rfl 28 _ _ _ L0.out Tryz.underlying28 rfl (by kernel_rfl) ?_)
   refine (y_next HR.out _ x).mono ?_
   rintro e w5 ⟨rfl,h5⟩
   have M5 := hQQ (M0.out.trans h5)
   have L5 := hQQ (h5.block L0.out)
   clear h5
   go_wp2_with fail
   refine (write_dead p nd _ _ _ (DD.out _ M5.out)).mono ?_
   rintro e w2 ⟨rfl,rfl⟩
   by_cases ey : y = -1
   · have d1 : (y != -1) = false := by simp [ey]
     have d2 : (y == -1) = true := by simp [ey]
     have FIN := hQQ (MM.out.trans M5.out)
     clear ey
     go_wp2_with fail
     go_end0
     exact ⟨rfl,FIN.out⟩
   · have d1 : (y != -1) = true := by simpa using ey
     have d2 : (y == -1) = false := by simpa using ey
     clear ey
     go_wp2_with (refine wpList_load_rowG rfl 28 _ rfl _ rfl 28 _ _ _ L5.out Tryz.underlying28 rfl (by kernel_rfl) ?_)
     refine (y_prev HR.out _ y).mono ?_
     rintro e w7 ⟨rfl,h7⟩
     have M7 := hQQ (M5.out.trans h7)
     have L7 := hQQ (h7.block L5.out)
     clear h7
     have FIN := hQQ (MM.out.trans M7.out)
     go_wp2_with fail
     refine (write_dead p nd _ _ _ (DD.out _ M7.out)).mono ?_
     rintro e w8 ⟨rfl,rfl⟩
     go_wp2_with fail
     go_end0
     exact ⟨rfl,FIN.out⟩
theorem pd_through {c : Cfg} (R : c.Ok) {n : Nat} (H : HdIn c.pg c.st n) (p : Nat) (nd q cl f : Int) (hq : isPage c.pg q = true) (w : World) (hd : DeadAt w p nd) :
   Calls Tryz.prog 140 #[.pointer (some ⟨p,0,none⟩),.agg c.arr,.int .i64 q,.int .i64 cl,.int .i64 f] w (Gives w (.tuple #[.slice none 0 0,.bool false])) := by
 obtain ⟨w1,e1,hl1,m1,s1⟩ := entry1 w (.cells c.arr 28)
 have MM := hQQ m1
 have L0 := hQQ hl1
 have DD : Hid (∀ W,More w1 W → DeadAt W p nd) := hQQ fun W m => (hd.keep m1 (fun q => q)).keep m (fun q => q)
 have HR := hQQ R
 have HH := hQQ H
 clear hl1 m1 hd R H
 have hfl := field_pages c
 have pg1 := HR.out.pg1
 have pg2 := HR.out.pg2
 have hqp := isPage_iff.1 hq
 have d4 : (-1 == q) = false := by simp; omega
 have M0 : Hid (More w1 w1) := hQQ (More.refl _)
 clear hq
 go_enter Tryz.func140,Tryz.ntmps140
 go_wp2_with fail
 refine wp_scope_jumps 0 (fun a' w' => ∃ (u12 u13 u14 u15 u16 u17 u18 u19 u20 u21 u22 u23 u24 u25 u26 u27 u28 u29 u30 u31 u32 u33 u34 u35 u36 u37 u38 u39 u40 u41 u42 : Value),a' = { tmps := #[.pointer (some ⟨p,0,none⟩),.agg c.arr,.int .i64 q,.int .i64 cl,.int .i64 f,undef,.pointer (some ⟨w.heap.size,0,none⟩),undef,undef,undef,.slice none 0 0,.bool false,u12,u13,u14,u15,u16,u17,u18,u19,u20,u21,u22,u23,u24,u25,u26,u27,u28,u29,u30,u31,u32,u33,u34,u35,u36,u37,u38,u39,u40,u41,u42],defers := [] } ∧ More w1 w') (fun _ _ => 0) rfl ?_ ?_
 · go_wp2_with (refine wpList_load_rowG rfl 28 _ rfl _ rfl 28 _ _ _ L0.out Tryz.underlying28 rfl (by kernel_rfl) ?_)
   refine (y_head HR.out _ cl f).mono ?_
   rintro e w2 ⟨rfl,h2⟩
   have M2 := hQQ (M0.out.trans h2)
   have L2 := hQQ (h2.block L0.out)
   clear h2
   go_wp2_with (refine wpList_load_rowG rfl 28 _ rfl _ rfl 28 _ _ _ L2.out Tryz.underlying28 rfl (by kernel_rfl) ?_)
   refine (y_config HR.out _).mono ?_
   rintro e w3 ⟨rfl,h3⟩
   have M3 := hQQ (M2.out.trans h3)
   have L3 := hQQ (h3.block L2.out)
   clear h3
   go_wp2_with fail
   go_loopw [10,11,12,21] (fun v10 v11 v12 v21 wr => v10 = .slice none 0 0 ∧ v11 = .bool false ∧ v21 = .int .i64 0 ∧ v12 = .int .i64 (headV c.pg c.st cl f) ∧ More w1 wr) (fun _ _ _ _ _ => 0)
   case atStart => exact ⟨rfl,rfl,rfl,rfl,M3.out⟩
   case round =>
     clear M3 L3
     obtain ⟨rfl,rfl,rfl,rfl,mr⟩ := hrel
     have MI := hQQ mr
     have LI := hQQ (mr.block L0.out)
     clear mr
     have d3 : decide ((0 : Int) < c.pg) = true := by simp; omega
     go_wp2_with (refine wpList_load_rowG rfl 28 _ rfl _ rfl 28 _ _ _ LI.out Tryz.underlying28 rfl (by kernel_rfl) ?_)
     refine (pd_leads HR.out HH.out p nd _ wr (DD.out _ MI.out)).mono ?_
     rintro e w4 ⟨rfl,h4⟩
     have M4 := hQQ (MI.out.trans h4)
     clear h4
     go_wp2_with fail
     go_step3
     refine ⟨rfl,_,_,_,_,_,_,_,_,_,_,_,_,_,_,_,_,_,_,_,_,_,_,_,_,_,_,_,_,_,_,_,rfl,M4.out⟩
 · rintro a w' ⟨u12,u13,u14,u15,u16,u17,u18,u19,u20,u21,u22,u23,u24,u25,u26,u27,u28,u29,u30,u31,u32,u33,u34,u35,u36,u37,u38,u39,u40,u41,u42,rfl,mf⟩
   have FIN := hQQ (MM.out.trans mf)
   clear mf
   go_wp2_with fail
   go_ret2
   exact ⟨rfl,FIN.out⟩
theorem pd_Unlink {c : Cfg} (R : c.Ok) {n : Nat} (H : HdIn c.pg c.st n) (p : Nat) (nd q k f : Int) (w : World) (hd : DeadAt w p nd) :
   Calls Tryz.prog 100 #[.pointer (some ⟨p,0,none⟩),.agg c.arr,.int .i64 q,.int .i64 k,.int .i64 f] w (Gives w (.bool false)) := by
 obtain ⟨w1,e1,hl1,m1,s1⟩ := entry1 w (.cells c.arr 28)
 have MM := hQQ m1
 have L0 := hQQ hl1
 have DD : Hid (∀ W,More w1 W → DeadAt W p nd) := hQQ fun W m => (hd.keep m1 (fun q => q)).keep m (fun q => q)
 have HR := hQQ R
 have HH := hQQ H
 clear hl1 m1 hd R H
 go_enter Tryz.func100,Tryz.ntmps100
 go_wp2_with (refine wpList_load_rowG rfl 28 _ rfl _ rfl 28 _ _ _ L0.out Tryz.underlying28 rfl (by kernel_rfl) ?_)
 refine (pl_there HR.out HH.out q _).mono ?_
 cases hq : isPage c.pg q with
 | false =>
   rintro e w2 ⟨rfl,h2⟩
   have FIN := hQQ (MM.out.trans h2)
   clear h2
   go_wp2_with fail
   go_ret
   exact ⟨rfl,FIN.out⟩
 | true =>
   rintro e w2 ⟨rfl,h2⟩
   have M2 := hQQ h2
   have L2 := hQQ (h2.block L0.out)
   clear h2
   go_wp2_with (refine wpList_load_rowG rfl 28 _ rfl _ rfl 28 _ _ _ L2.out Tryz.underlying28 rfl (by kernel_rfl) ?_)
   refine (pd_through HR.out HH.out p nd q k f hq w2 (DD.out _ M2.out)).mono ?_
   rintro e w3 ⟨rfl,h3⟩
   have FIN := hQQ (MM.out.trans (M2.out.trans h3))
   clear h3
   go_wp2_with fail
   go_ret
   exact ⟨rfl,FIN.out⟩
theorem pd_Link {c : Cfg} (R : c.Ok) {n : Nat} (H : HdIn c.pg c.st n) (p : Nat) (nd q k f : Int) (w : World) (hd : DeadAt w p nd) :
   Calls Tryz.prog 101 #[.pointer (some ⟨p,0,none⟩),.agg c.arr,.int .i64 q,.int .i64 k,.int .i64 f] w (Gives w (.bool (headV c.pg c.st k f != 0 && isPage c.pg q))) := by
 obtain ⟨w1,e1,hl1,m1,s1⟩ := entry1 w (.cells c.arr 28)
 have MM := hQQ m1
 have L0 := hQQ hl1
 have DD : Hid (∀ W,More w1 W → DeadAt W p nd) := hQQ fun W m => (hd.keep m1 (fun q => q)).keep m (fun q => q)
 have HR := hQQ R
 have HH := hQQ H
 clear hl1 m1 hd R H
 obtain ⟨hv,hhv⟩ : ∃ hv,headV c.pg c.st k f = hv := ⟨_,rfl⟩
 have YH := hQQ (fun W => y_head HR.out W k f)
 rw [hhv] at YH ⊢
 clear hhv
 go_enter Tryz.func101,Tryz.ntmps101
 go_wp2_with (refine wpList_load_rowG rfl 28 _ rfl _ rfl 28 _ _ _ L0.out Tryz.underlying28 rfl (by kernel_rfl) ?_)
 refine (YH.out _).mono ?_
 rintro e w2 ⟨rfl,h2⟩
 have M2 := hQQ h2
 have L2 := hQQ (h2.block L0.out)
 clear h2
 by_cases hz : hv = 0
 · have d0 : (hv == 0) = true := by simp [hz]
   have FIN := hQQ (MM.out.trans M2.out)
   have HZ := hQQ (show (hv != 0 && isPage c.pg q) = false by simp [hz])
   clear hz
   go_wp2_with fail
   go_ret
   exact ⟨by rw [HZ.out]; rfl,FIN.out⟩
 have d0 : (hv == 0) = false := by simp [hz]
 have HZ := hQQ (show (hv != 0 && isPage c.pg q) = isPage c.pg q by simp [hz])
 clear hz
 go_wp2_with (refine wpList_load_rowG rfl 28 _ rfl _ rfl 28 _ _ _ L2.out Tryz.underlying28 rfl (by kernel_rfl) ?_)
 refine (pl_there HR.out HH.out q _).mono ?_
 cases hq : isPage c.pg q with
 | false =>
   rintro e w3 ⟨rfl,h3⟩
   have FIN := hQQ (MM.out.trans (M2.out.trans h3))
   clear h3
   go_wp2_with fail
   go_ret
   exact ⟨by rw [HZ.out,hq]; rfl,FIN.out⟩
 | true =>
   rintro e w3 ⟨rfl,h3⟩
   have M3 := hQQ (M2.out.trans h3)
   have L3 := hQQ (h3.block L2.out)
   clear h3
   have DL := hQQ (fun W (hW : More w3 W) => pd_leads HR.out HH.out p nd hv W (DD.out _ (M3.out.trans hW)))
   have DJ := hQQ (fun W (hW : More w3 W) => pd_join HR.out HH.out p nd hv q (-1) W (DD.out _ (M3.out.trans hW)))
   go_wp2_with fail
   refine wp_region_more (by kernel_rfl) (by kernel_rfl) ?_
   iterate 1
     with_reducible refine wpQuiet_step (fun K hK => ?_)
     go_simp
     first
     | (refine hK _ ?_; clear hK K)
     | (apply Exists.intro
        refine ⟨fun W hW => ?_,hK _ ?_⟩
        first
        | (go_simp; try rfl)
        clear hK K)
   refine wpQuiet_load_row rfl 28 _ rfl _ rfl 28 _ _ _ (fun W hW => hW.block L3.out) Tryz.underlying28 rfl (by kernel_rfl) ?_
   iterate 3
     with_reducible refine wpQuiet_step (fun K hK => ?_)
     go_simp
     first
     | (refine hK _ ?_; clear hK K)
     | (apply Exists.intro
        refine ⟨fun W hW => ?_,hK _ ?_⟩
        first
        | (go_simp; try rfl)
        clear hK K)
   refine wpQuiet_load_row rfl 28 _ rfl _ rfl 28 _ _ _ (fun W hW => hW.block L3.out) Tryz.underlying28 rfl (by kernel_rfl) ?_
   iterate 2
     with_reducible refine wpQuiet_step (fun K hK => ?_)
     go_simp
     first
     | (refine hK _ ?_; clear hK K)
     | (apply Exists.intro
        refine ⟨fun W hW => ?_,hK _ ?_⟩
        first
        | (go_at_call 93; exact Calls.more hW (DL.out W hW))
        | (go_simp; try rfl)
        clear hK K)
   iterate 1
     with_reducible refine wpQuiet_step (fun K hK => ?_)
     go_simp
     first
     | (refine hK _ ?_; clear hK K)
     | (apply Exists.intro
        refine ⟨fun W hW => ?_,hK _ ?_⟩
        first
        | (go_at_call 141; exact Calls.more hW (DJ.out W hW))
        | (go_simp; try rfl)
        clear hK K)
   refine wpQuiet_nil ?_
   intro w5 h5
   have M5 := hQQ (M3.out.trans h5)
   have L5 := hQQ (h5.block L3.out)
   clear h5
   go_wp2_with (refine wpList_load_rowG rfl 28 _ rfl _ rfl 28 _ _ _ L5.out Tryz.underlying28 rfl (by kernel_rfl) ?_)
   refine (pd_join HR.out HH.out p nd hv (-1) q w5 (DD.out _ M5.out)).mono ?_
   rintro e w6 ⟨rfl,h6⟩
   have FIN := hQQ (MM.out.trans (M5.out.trans h6))
   clear h6
   go_wp2_with fail
   go_ret
   exact ⟨by rw [HZ.out,hq]; rfl,FIN.out⟩
theorem y_kind {c : Cfg} (R : c.Ok) (w : World) (k : Int) : Calls Tryz.prog 18 #[.agg c.arr,.int .i64 k] w (Gives w (.int .i64 (pageV c.pg c.st 0 k))) := xkind R w k
theorem y_count {c : Cfg} (R : c.Ok) (w : World) (k : Int) : Calls Tryz.prog 31 #[.agg c.arr,.int .i64 k] w (Gives w (.int .i64 (pageV c.pg c.st 1 k))) := xcount R w k
theorem y_bits {c : Cfg} (R : c.Ok) (w : World) (k : Int) : Calls Tryz.prog 22 #[.agg c.arr,.int .i64 k] w (Gives w (.int .i64 (pageV c.pg c.st 2 k))) := xbits R w k
theorem e_Kind {c : Cfg} (R : c.Ok) {n : Nat} (H : PgIn c.pg c.st n) (F : Nat → Prop) (p : Nat) (kn : Int → Option Int) (D : List KV) (q : Int) (w : World) (hv : ViewAt w F p kn D) (hk : OkK kn) (hD : InvD n D) :
   Calls Tryz.prog 62 #[.pointer (some ⟨p,0,none⟩),.agg c.arr,.int .i64 q] w (WentV w F p kn (fun x => .int .i64 x) (ekindP c.pg c.st q kn D)) := by
 obtain ⟨Rr,hRr⟩ : ∃ Rr,ekindP c.pg c.st q kn D = Rr := ⟨_,rfl⟩
 rw [hRr]
 obtain ⟨w1,e1,hl1,m1,s1⟩ := entry1 w (.cells c.arr 28)
 have nFl : ¬ F w.heap.size := fun q => by have := hv.lt _ q; omega
 have MM := hQQ m1
 have L0 := hQQ hl1
 have M0 : Hid (MidV w1 w1 F (fun _ => False) p kn n D F) := hQQ (MidV.begin (hv.more m1) hD)
 have KL : Hid (∀ wr D' F',MidV w1 wr F (fun _ => False) p kn n D' F' → wr.heap[w.heap.size]? = some (.cells c.arr 28 (0,0))) := hQQ fun wr D' F' h => mid_own h L0.out nFl (fun q => q)
 have NEED : Hid (∀ a w2,Rr = .need a → DeadAt w2 p a → Turned (fun b => F b ∨ False) w1 w2 → WentV w F p kn (fun x : Int => Value.int .i64 x) Rr (.panicked (endOf p)) w2) := hQQ fun a w2 e hd ht => mid_need MM.out (fun _ q => q.elim) e hd ht
 have DONE : Hid (∀ x w2 D' F',Rr = .ok x D' → MidV w1 w2 F (fun _ => False) p kn n D' F' → WentV w F p kn (fun x : Int => Value.int .i64 x) Rr (.returned ((fun x : Int => Value.int .i64 x) x)) w2) := hQQ fun x w2 D' F' e h => mid_done MM.out (fun _ q => q.elim) h e
 have HK := hQQ hk
 have HR := hQQ R
 have HH := hQQ H
 clear hl1 m1 hv hD hk R H nFl
 unfold ekindP at hRr
 cases h : isPage c.pg q with
 | false =>
   rw [h] at hRr
   have FIN : Hid (∀ w2,More w1 w2 → WentV w F p kn (fun x : Int => Value.int .i64 x) Rr (.returned (.int .i64 (-1))) w2) := hQQ fun w2 m => DONE.out (-1) w2 D F hRr.symm (M0.out.more m)
   clear hRr
   go_enter Tryz.func62,Tryz.ntmps62
   go_wp2_with (refine wpList_load_rowG rfl 28 _ rfl _ rfl 28 _ _ _ L0.out Tryz.underlying28 rfl (by kernel_rfl) ?_)
   refine (y_kind HR.out _ q).mono ?_
   rw [pageN h]
   rintro e w2 ⟨rfl,h2⟩
   have H2 := hQQ h2
   clear h2
   go_wp2_with fail
   go_ret
   exact FIN.out _ H2.out
 | true =>
   rw [h] at hRr
   have hRr2 : readP (kA c.pg c.st q) kn D = Rr := hRr
   obtain ⟨⟨ha,_,hw⟩,_⟩ := page_b HH.out h
   have nz : (kA c.pg c.st q == 0) = false := by simp; omega
   have RA := hQQ (fun w2 (m : More w1 w2) => read_any F p kn D (kA c.pg c.st q) w2 (M0.out.view.more m) hw)
   have HRr := hQQ hRr2
   clear hRr hRr2 hw ha
   go_enter Tryz.func62,Tryz.ntmps62
   go_wp2_with (refine wpList_load_rowG rfl 28 _ rfl _ rfl 28 _ _ _ L0.out Tryz.underlying28 rfl (by kernel_rfl) ?_)
   refine (y_kind HR.out _ q).mono ?_
   rw [page0 h]
   rintro e w2 ⟨rfl,h2⟩
   have H2 := hQQ h2
   clear h2
   go_wp2_with fail
   refine (RA.out _ H2.out).mono ?_
   rw [HRr.out]
   intro e w3 he
   rcases went_cases he with ⟨a,_,rfl⟩ | ⟨x,D',_,rfl⟩
   · exact ⟨rfl,he.after (MM.out.trans H2.out)⟩
   · have FIN := hQQ (he.after (MM.out.trans H2.out))
     clear he
     go_wp2_with fail
     go_ret
     exact FIN.out
theorem e_put {c : Cfg} (R : c.Ok) {n : Nat} (H : PgIn c.pg c.st n) (hn : n ≤ 10000) (F : Nat → Prop) (p : Nat) (kn : Int → Option Int) (D : List KV) (q k x : Int) (hq : isPage c.pg q = true) (hk' : W64 k) (hx : W64 x) (w : World) (hv : ViewAt w F p kn D) (hk : OkK kn) (hD : InvD n D) :
   Calls Tryz.prog 137 #[.pointer (some ⟨p,0,none⟩),.agg c.arr,.int .i64 q,.int .i64 k,.int .i64 x] w (WentV w F p kn (fun _ : Unit => .tuple #[]) (eputP c.pg c.st q k x kn D)) := by
 obtain ⟨Rr,hRr⟩ : ∃ Rr,eputP c.pg c.st q k x kn D = Rr := ⟨_,rfl⟩
 rw [hRr]
 obtain ⟨w1,e1,hl1,m1,s1⟩ := entry1 w (.cells c.arr 28)
 have nFl : ¬ F w.heap.size := fun q => by have := hv.lt _ q; omega
 have MM := hQQ m1
 have L0 := hQQ hl1
 have M0 : Hid (MidV w1 w1 F (fun _ => False) p kn n D F) := hQQ (MidV.begin (hv.more m1) hD)
 have KL : Hid (∀ wr D' F',MidV w1 wr F (fun _ => False) p kn n D' F' → wr.heap[w.heap.size]? = some (.cells c.arr 28 (0,0))) := hQQ fun wr D' F' h => mid_own h L0.out nFl (fun q => q)
 have NEED : Hid (∀ a w2,Rr = .need a → DeadAt w2 p a → Turned (fun b => F b ∨ False) w1 w2 → WentV w F p kn (fun _ : Unit => Value.tuple #[]) Rr (.panicked (endOf p)) w2) := hQQ fun a w2 e hd ht => mid_need MM.out (fun _ q => q.elim) e hd ht
 have DONE : Hid (∀ x w2 D' F',Rr = .ok x D' → MidV w1 w2 F (fun _ => False) p kn n D' F' → WentV w F p kn (fun _ : Unit => Value.tuple #[]) Rr (.returned ((fun _ : Unit => Value.tuple #[]) x)) w2) := hQQ fun x w2 D' F' e h => mid_done MM.out (fun _ q => q.elim) h e
 have HK := hQQ hk
 have HR := hQQ R
 have HH := hQQ H
 clear hl1 m1 hv hD hk R H nFl
 unfold eputP at hRr
 have HRr := hQQ hRr
 obtain ⟨⟨_,a1,a2⟩,⟨_,b1,b2⟩,_,c1,c2⟩ := page_b HH.out hq
 have G0 := hQQ (good_write n a2 a1 hk')
 have G1 := hQQ (good_write n b2 b1 hx)
 have G2 := hQQ (good_write n c2 c1 (show W64 0 by unfold W64; omega))
 have p0 := page0 (st:=c.st) hq
 have p1 := page1 (st:=c.st) hq
 have p2 := page2 (st:=c.st) hq
 have P0 := hQQ p0
 have P1 := hQQ p1
 have P2 := hQQ p2
 clear hRr a1 a2 b1 b2 c1 c2 p0 p1 p2 hk' hx
 go_enter Tryz.func137,Tryz.ntmps137
 go_wp2_with (refine wpList_load_rowG rfl 28 _ rfl _ rfl 28 _ _ _ L0.out Tryz.underlying28 rfl (by kernel_rfl) ?_)
 refine (y_kind HR.out _ q).mono ?_
 rw [P0.out]
 rintro e w2 ⟨rfl,h2⟩
 have M2 := hQQ (M0.out.more h2)
 have L2 := hQQ (KL.out _ _ _ M2.out)
 clear h2
 go_wp2_with fail
 refine (write_any F p kn D _ k w2 M2.out.view (by have := M2.out.inv.len; omega)).mono ?_
 intro e w3 he
 rcases M2.out.step (More.refl _) HK.out G0.out he with ⟨a',hE,rfl,hd',ht',_⟩ | ⟨x3,D3,F3,hE,rfl,M3,hq3,_,_⟩
 · exact ⟨rfl,NEED.out a' w3 (HRr.out.symm.trans (bindP_need hE)) hd' ht'⟩
 have L3 := hQQ (KL.out _ _ _ M3)
 have R3 := hQQ ((bindP_ok hE).symm.trans HRr.out)
 have M3 := hQQ M3
 clear he hE
 go_wp2_with (refine wpList_load_rowG rfl 28 _ rfl _ rfl 28 _ _ _ L3.out Tryz.underlying28 rfl (by kernel_rfl) ?_)
 refine (y_count HR.out _ q).mono ?_
 rw [P1.out]
 rintro e w4 ⟨rfl,h4⟩
 have M4 := hQQ (M3.out.more h4)
 have L4 := hQQ (KL.out _ _ _ M4.out)
 clear h4
 go_wp2_with fail
 refine (write_any F3 p kn D3 _ x w4 M4.out.view (by have := M4.out.inv.len; omega)).mono ?_
 intro e w5 he
 rcases M4.out.step (More.refl _) HK.out G1.out he with ⟨a',hE,rfl,hd',ht',_⟩ | ⟨x5,D5,F5,hE,rfl,M5,hq5,_,_⟩
 · exact ⟨rfl,NEED.out a' w5 (R3.out.symm.trans (bindP_need hE)) hd' ht'⟩
 have L5 := hQQ (KL.out _ _ _ M5)
 have R5 := hQQ ((bindP_ok hE).symm.trans R3.out)
 have M5 := hQQ M5
 clear he hE
 go_wp2_with (refine wpList_load_rowG rfl 28 _ rfl _ rfl 28 _ _ _ L5.out Tryz.underlying28 rfl (by kernel_rfl) ?_)
 refine (y_bits HR.out _ q).mono ?_
 rw [P2.out]
 rintro e w6 ⟨rfl,h6⟩
 have M6 := hQQ (M5.out.more h6)
 clear h6
 go_wp2_with fail
 refine (write_any F5 p kn D5 _ 0 w6 M6.out.view (by have := M6.out.inv.len; omega)).mono ?_
 intro e w7 he
 rcases M6.out.step (More.refl _) HK.out G2.out he with ⟨a',hE,rfl,hd',ht',_⟩ | ⟨x7,D7,F7,hE,rfl,M7,hq7,_,_⟩
 · exact ⟨rfl,NEED.out a' w7 (R5.out.symm.trans hE) hd' ht'⟩
 have FIN := hQQ (DONE.out () w7 D7 F7 (R5.out.symm.trans hE) M7)
 clear he hE M7
 go_wp2_with fail
 go_end0
 exact FIN.out
theorem e_classes (k : Int) (w : World) : Calls Tryz.prog 159 #[.int .i64 k] w (Gives w (.bool (clsB k))) := by
 by_cases h : 1 ≤ k
 · rw [show clsB k = decide (k ≤ 5) by unfold clsB; simp [h]]
   have d0 : decide (1 ≤ k) = true := by simp [h]
   go_enter Tryz.func159,Tryz.ntmps159
   go_wp2_with fail
   go_ret
   exact ⟨rfl,More.refl _⟩
 · rw [show clsB k = false by unfold clsB; simp [h]]
   have d0 : decide (1 ≤ k) = false := by simp [h]
   go_enter Tryz.func159,Tryz.ntmps159
   go_wp2_with fail
   go_ret
   exact ⟨rfl,More.refl _⟩
theorem e_fits (k m : Int) (w : World) : Calls Tryz.prog 134 #[.int .i64 k,.int .i64 m] w (Gives w (.bool (fitB k m))) := by
 by_cases h : k = 6
 · subst h
   rw [show fitB 6 m = true by unfold fitB; simp]
   go_enter Tryz.func134,Tryz.ntmps134
   go_wp2_with fail
   go_ret
   exact ⟨rfl,More.refl _⟩
 · have d0 : (k == 6) = false := by simp [h]
   have d1 : (m == 1) = decide (m = 1) := by by_cases q : m = 1 <;> simp [q]
   cases hc : clsB k with
   | true =>
     rw [show fitB k m = decide (m = 1) by unfold fitB; simp [h,hc]]
     go_enter Tryz.func134,Tryz.ntmps134
     go_wp2_with fail
     refine (e_classes k _).mono ?_
     rw [hc]
     rintro e w2 ⟨rfl,h2⟩
     have H2 := hQQ h2
     clear h2
     go_wp2_with fail
     go_ret
     exact ⟨rfl,H2.out⟩
   | false =>
     rw [show fitB k m = false by unfold fitB; simp [h,hc]]
     go_enter Tryz.func134,Tryz.ntmps134
     go_wp2_with fail
     refine (e_classes k _).mono ?_
     rw [hc]
     rintro e w2 ⟨rfl,h2⟩
     have H2 := hQQ h2
     clear h2
     go_wp2_with fail
     go_ret
     exact ⟨rfl,H2.out⟩
end Go.Proofs.YtflihdcliknggaaGreatDoor
