/-
  The landed package extent: looks, and what one page's words are written with.
-/
import Derived.Test.YtmafllcmkhgidaaGreatDoorPfAh
import Derived.Test.YtmafllcmkhgidaaGreatDoorPfAa
import Derived.Deep.LoopGhost
import Derived.WalkMore
import Derived.Test.YtmafllcmkhgidaaGreatDoorPfAi
set_option maxRecDepth 100000
set_option maxHeartbeats 8000000
set_option linter.unusedVariables false
set_option linter.unusedSimpArgs false
set_option linter.unusedSectionVars false
namespace Go.Proofs.YtmafllcmkhgidaaGreatDoor
open Go.RowKit Go.Sort Go.Maps Go.Shelf
theorem y_kind {c : Cfg} (R : c.Ok) (w : World) (k : Int) : Calls Tryz.prog 7 #[.agg c.arr,.int .i64 k] w (Gives w (.int .i64 (pageV c.pg c.st 0 k))) := xkind R w k
theorem y_count {c : Cfg} (R : c.Ok) (w : World) (k : Int) : Calls Tryz.prog 69 #[.agg c.arr,.int .i64 k] w (Gives w (.int .i64 (pageV c.pg c.st 1 k))) := xcount R w k
theorem y_bits {c : Cfg} (R : c.Ok) (w : World) (k : Int) : Calls Tryz.prog 11 #[.agg c.arr,.int .i64 k] w (Gives w (.int .i64 (pageV c.pg c.st 2 k))) := xbits R w k
theorem e_Kind {c : Cfg} (R : c.Ok) {n : Nat} (H : PgIn c.pg c.st n) (F : Nat → Prop) (p : Nat) (kn : Int → Option Int) (D : List KV) (q : Int) (w : World) (hv : ViewAt w F p kn D) (hk : OkK kn) (hD : InvD n D) :
   Calls Tryz.prog 48 #[.pointer (some ⟨p,0,none⟩),.agg c.arr,.int .i64 q] w (WentV w F p kn (fun x => .int .i64 x) (ekindP c.pg c.st q kn D)) := by
 obtain ⟨Rr,hRr⟩ : ∃ Rr,ekindP c.pg c.st q kn D = Rr := ⟨_,rfl⟩
 rw [hRr]
 obtain ⟨w1,e1,hl1,m1,s1⟩ := entry1 w (.cells c.arr 28)
 have nFl : ¬ F w.heap.size := fun q => by have := hv.lt _ q; omega
 have MM := hQQ m1
 have L0 := hQQ hl1
 have M0 : Hid (MidV w1 w1 F (fun _ => False) p kn n D F) := hQQ (MidV.begin (hv.more m1) hD)
 have KL : Hid (∀ wr D' F',MidV w1 wr F (fun _ => False) p kn n D' F' → wr.heap[w.heap.size]? = some (.cells c.arr 28 (0,0))) := hQQ fun wr D' F' h => mid_own h L0.out nFl (fun q => q)
 have NEED : Hid (∀ a w2,Rr = .need a → DeadAt w2 p a → Turned (fun b => F b ∨ False) w1 w2 → WentV w F p kn (fun x : Int => Value.int .i64 x) Rr (.panicked (endOf p)) w2) := hQQ fun a w2 e hd ht => mid_need MM.out (fun _ q => q.elim) e hd ht
 have DONE : Hid (∀ x w2 D' F',Rr = .ok x D' → MidV w1 w2 F (fun _ => False) p kn n D' F' → WentV w F p kn (fun x : Int => Value.int .i64 x) Rr (.returned ((fun x : Int => Value.int .i64 x) x)) w2) := hQQ fun x w2 D' F' e h => mid_done MM.out (fun _ q => q.elim) h e
 have HK := hQQ hk
 have HR := hQQ R
 have HH := hQQ H
 clear hl1 m1 hv hD hk R H nFl
 unfold ekindP at hRr
 cases h : isPage c.pg q with
 | false =>
   rw [h] at hRr
   have FIN : Hid (∀ w2,More w1 w2 → WentV w F p kn (fun x : Int => Value.int .i64 x) Rr (.returned (.int .i64 (-1))) w2) := hQQ fun w2 m => DONE.out (-1) w2 D F hRr.symm (M0.out.more m)
   clear hRr
   go_enter Tryz.func48,Tryz.ntmps48
   go_wp2_with (refine wpList_load_rowG rfl 28 _ rfl _ rfl 28 _ _ _ L0.out Tryz.underlying28 rfl (by kernel_rfl) ?_)
   refine (y_kind HR.out _ q).mono ?_
   rw [pageN h]
   rintro e w2 ⟨rfl,h2⟩
   have H2 := hQQ h2
   clear h2
   go_wp2_with fail
   go_ret
   exact FIN.out _ H2.out
 | true =>
   rw [h] at hRr
   have hRr2 : readP (kA c.pg c.st q) kn D = Rr := hRr
   obtain ⟨⟨ha,_,hw⟩,_⟩ := page_b HH.out h
   have nz : (kA c.pg c.st q == 0) = false := by simp; omega
   have RA := hQQ (fun w2 (m : More w1 w2) => read_any F p kn D (kA c.pg c.st q) w2 (M0.out.view.more m) hw)
   have HRr := hQQ hRr2
   clear hRr hRr2 hw ha
   go_enter Tryz.func48,Tryz.ntmps48
   go_wp2_with (refine wpList_load_rowG rfl 28 _ rfl _ rfl 28 _ _ _ L0.out Tryz.underlying28 rfl (by kernel_rfl) ?_)
   refine (y_kind HR.out _ q).mono ?_
   rw [page0 h]
   rintro e w2 ⟨rfl,h2⟩
   have H2 := hQQ h2
   clear h2
   go_wp2_with fail
   refine (RA.out _ H2.out).mono ?_
   rw [HRr.out]
   intro e w3 he
   rcases went_cases he with ⟨a,_,rfl⟩ | ⟨x,D',_,rfl⟩
   · exact ⟨rfl,he.after (MM.out.trans H2.out)⟩
   · have FIN := hQQ (he.after (MM.out.trans H2.out))
     clear he
     go_wp2_with fail
     go_ret
     exact FIN.out
theorem e_put {c : Cfg} (R : c.Ok) {n : Nat} (H : PgIn c.pg c.st n) (hn : n ≤ 10000) (F : Nat → Prop) (p : Nat) (kn : Int → Option Int) (D : List KV) (q k x : Int) (hq : isPage c.pg q = true) (hk' : W64 k) (hx : W64 x) (w : World) (hv : ViewAt w F p kn D) (hk : OkK kn) (hD : InvD n D) :
   Calls Tryz.prog 90 #[.pointer (some ⟨p,0,none⟩),.agg c.arr,.int .i64 q,.int .i64 k,.int .i64 x] w (WentV w F p kn (fun _ : Unit => .tuple #[]) (eputP c.pg c.st q k x kn D)) := by
 obtain ⟨Rr,hRr⟩ : ∃ Rr,eputP c.pg c.st q k x kn D = Rr := ⟨_,rfl⟩
 rw [hRr]
 obtain ⟨w1,e1,hl1,m1,s1⟩ := entry1 w (.cells c.arr 28)
 have nFl : ¬ F w.heap.size := fun q => by have := hv.lt _ q; omega
 have MM := hQQ m1
 have L0 := hQQ hl1
 have M0 : Hid (MidV w1 w1 F (fun _ => False) p kn n D F) := hQQ (MidV.begin (hv.more m1) hD)
 have KL : Hid (∀ wr D' F',MidV w1 wr F (fun _ => False) p kn n D' F' → wr.heap[w.heap.size]? = some (.cells c.arr 28 (0,0))) := hQQ fun wr D' F' h => mid_own h L0.out nFl (fun q => q)
 have NEED : Hid (∀ a w2,Rr = .need a → DeadAt w2 p a → Turned (fun b => F b ∨ False) w1 w2 → WentV w F p kn (fun _ : Unit => Value.tuple #[]) Rr (.panicked (endOf p)) w2) := hQQ fun a w2 e hd ht => mid_need MM.out (fun _ q => q.elim) e hd ht
 have DONE : Hid (∀ x w2 D' F',Rr = .ok x D' → MidV w1 w2 F (fun _ => False) p kn n D' F' → WentV w F p kn (fun _ : Unit => Value.tuple #[]) Rr (.returned ((fun _ : Unit => Value.tuple #[]) x)) w2) := hQQ fun x w2 D' F' e h => mid_done MM.out (fun _ q => q.elim) h e
 have HK := hQQ hk
 have HR := hQQ R
 have HH := hQQ H
 clear hl1 m1 hv hD hk R H nFl
 unfold eputP at hRr
 have HRr := hQQ hRr
 obtain ⟨⟨_,a1,a2⟩,⟨_,b1,b2⟩,_,c1,c2⟩ := page_b HH.out hq
 have G0 := hQQ (good_write n a2 a1 hk')
 have G1 := hQQ (good_write n b2 b1 hx)
 have G2 := hQQ (good_write n c2 c1 (show W64 0 by unfold W64; omega))
 have p0 := page0 (st:=c.st) hq
 have p1 := page1 (st:=c.st) hq
 have p2 := page2 (st:=c.st) hq
 have P0 := hQQ p0
 have P1 := hQQ p1
 have P2 := hQQ p2
 clear hRr a1 a2 b1 b2 c1 c2 p0 p1 p2 hk' hx
 go_enter Tryz.func90,Tryz.ntmps90
 go_wp2_with (refine wpList_load_rowG rfl 28 _ rfl _ rfl 28 _ _ _ L0.out Tryz.underlying28 rfl (by kernel_rfl) ?_)
 refine (y_kind HR.out _ q).mono ?_
 rw [P0.out]
 rintro e w2 ⟨rfl,h2⟩
 have M2 := hQQ (M0.out.more h2)
 have L2 := hQQ (KL.out _ _ _ M2.out)
 clear h2
 go_wp2_with fail
 refine (write_any F p kn D _ k w2 M2.out.view (by have := M2.out.inv.len; omega)).mono ?_
 intro e w3 he
 rcases M2.out.step (More.refl _) HK.out G0.out he with ⟨a',hE,rfl,hd',ht',_⟩ | ⟨x3,D3,F3,hE,rfl,M3,hq3,_,_⟩
 · exact ⟨rfl,NEED.out a' w3 (HRr.out.symm.trans (bindP_need hE)) hd' ht'⟩
 have L3 := hQQ (KL.out _ _ _ M3)
 have R3 := hQQ ((bindP_ok hE).symm.trans HRr.out)
 have M3 := hQQ M3
 clear he hE
 go_wp2_with (refine wpList_load_rowG rfl 28 _ rfl _ rfl 28 _ _ _ L3.out Tryz.underlying28 rfl (by kernel_rfl) ?_)
 refine (y_count HR.out _ q).mono ?_
 rw [P1.out]
 rintro e w4 ⟨rfl,h4⟩
 have M4 := hQQ (M3.out.more h4)
 have L4 := hQQ (KL.out _ _ _ M4.out)
 clear h4
 go_wp2_with fail
 refine (write_any F3 p kn D3 _ x w4 M4.out.view (by have := M4.out.inv.len; omega)).mono ?_
 intro e w5 he
 rcases M4.out.step (More.refl _) HK.out G1.out he with ⟨a',hE,rfl,hd',ht',_⟩ | ⟨x5,D5,F5,hE,rfl,M5,hq5,_,_⟩
 · exact ⟨rfl,NEED.out a' w5 (R3.out.symm.trans (bindP_need hE)) hd' ht'⟩
 have L5 := hQQ (KL.out _ _ _ M5)
 have R5 := hQQ ((bindP_ok hE).symm.trans R3.out)
 have M5 := hQQ M5
 clear he hE
 go_wp2_with (refine wpList_load_rowG rfl 28 _ rfl _ rfl 28 _ _ _ L5.out Tryz.underlying28 rfl (by kernel_rfl) ?_)
 refine (y_bits HR.out _ q).mono ?_
 rw [P2.out]
 rintro e w6 ⟨rfl,h6⟩
 have M6 := hQQ (M5.out.more h6)
 clear h6
 go_wp2_with fail
 refine (write_any F5 p kn D5 _ 0 w6 M6.out.view (by have := M6.out.inv.len; omega)).mono ?_
 intro e w7 he
 rcases M6.out.step (More.refl _) HK.out G2.out he with ⟨a',hE,rfl,hd',ht',_⟩ | ⟨x7,D7,F7,hE,rfl,M7,hq7,_,_⟩
 · exact ⟨rfl,NEED.out a' w7 (R5.out.symm.trans hE) hd' ht'⟩
 have FIN := hQQ (DONE.out () w7 D7 F7 (R5.out.symm.trans hE) M7)
 clear he hE M7
 go_wp2_with fail
 go_end0
 exact FIN.out
theorem e_classes (k : Int) (w : World) : Calls Tryz.prog 104 #[.int .i64 k] w (Gives w (.bool (clsB k))) := by
 by_cases h : 1 ≤ k
 · rw [show clsB k = decide (k ≤ 5) by unfold clsB; simp [h]]
   have d0 : decide (1 ≤ k) = true := by simp [h]
   go_enter Tryz.func104,Tryz.ntmps104
   go_wp2_with fail
   go_ret
   exact ⟨rfl,More.refl _⟩
 · rw [show clsB k = false by unfold clsB; simp [h]]
   have d0 : decide (1 ≤ k) = false := by simp [h]
   go_enter Tryz.func104,Tryz.ntmps104
   go_wp2_with fail
   go_ret
   exact ⟨rfl,More.refl _⟩
theorem e_fits (k m : Int) (w : World) : Calls Tryz.prog 87 #[.int .i64 k,.int .i64 m] w (Gives w (.bool (fitB k m))) := by
 by_cases h : k = 6
 · subst h
   rw [show fitB 6 m = true by unfold fitB; simp]
   go_enter Tryz.func87,Tryz.ntmps87
   go_wp2_with fail
   go_ret
   exact ⟨rfl,More.refl _⟩
 · have d0 : (k == 6) = false := by simp [h]
   have d1 : (m == 1) = decide (m = 1) := by by_cases q : m = 1 <;> simp [q]
   cases hc : clsB k with
   | true =>
     rw [show fitB k m = decide (m = 1) by unfold fitB; simp [h,hc]]
     go_enter Tryz.func87,Tryz.ntmps87
     go_wp2_with fail
     refine (e_classes k _).mono ?_
     rw [hc]
     rintro e w2 ⟨rfl,h2⟩
     have H2 := hQQ h2
     clear h2
     go_wp2_with fail
     go_ret
     exact ⟨rfl,H2.out⟩
   | false =>
     rw [show fitB k m = false by unfold fitB; simp [h,hc]]
     go_enter Tryz.func87,Tryz.ntmps87
     go_wp2_with fail
     refine (e_classes k _).mono ?_
     rw [hc]
     rintro e w2 ⟨rfl,h2⟩
     have H2 := hQQ h2
     clear h2
     go_wp2_with fail
     go_ret
     exact ⟨rfl,H2.out⟩
theorem neq_of (x y : Int) : (x != y) = !decide (x = y) := by by_cases q : x = y <;> simp [q]
theorem vac_len {pg st : Int} {m : Nat} {q : Int} : evacN pg st (m + 1) q = bindP (ekindP pg st q) (fun k => if k = 0 then evacN pg st m (q + 1) else pureP false) := rfl
theorem e_vacant {c : Cfg} (R : c.Ok) {n : Nat} (H : PgIn c.pg c.st n) (F : Nat → Prop) (p : Nat) (kn : Int → Option Int) (D : List KV) (q m : Int) (hq : W64 q) (w : World) (hv : ViewAt w F p kn D) (hk : OkK kn) (hD : InvD n D) :
   Calls Tryz.prog 88 #[.pointer (some ⟨p,0,none⟩),.agg c.arr,.int .i64 q,.int .i64 m] w (WentV w F p kn (fun b => .bool b) (evacP c.pg c.st q m kn D)) := by
 obtain ⟨Rr,hRr⟩ : ∃ Rr,evacP c.pg c.st q m kn D = Rr := ⟨_,rfl⟩
 rw [hRr]
 obtain ⟨w1,e1,hl1,m1,s1⟩ := entry1 w (.cells c.arr 28)
 have nFl : ¬ F w.heap.size := fun q => by have := hv.lt _ q; omega
 have MM := hQQ m1
 have L0 := hQQ hl1
 have M0 : Hid (MidV w1 w1 F (fun _ => False) p kn n D F) := hQQ (MidV.begin (hv.more m1) hD)
 have KL : Hid (∀ wr D' F',MidV w1 wr F (fun _ => False) p kn n D' F' → wr.heap[w.heap.size]? = some (.cells c.arr 28 (0,0))) := hQQ fun wr D' F' h => mid_own h L0.out nFl (fun q => q)
 have NEED : Hid (∀ a w2,Rr = .need a → DeadAt w2 p a → Turned (fun b => F b ∨ False) w1 w2 → WentV w F p kn (fun b : Bool => Value.bool b) Rr (.panicked (endOf p)) w2) := hQQ fun a w2 e hd ht => mid_need MM.out (fun _ q => q.elim) e hd ht
 have DONE : Hid (∀ x w2 D' F',Rr = .ok x D' → MidV w1 w2 F (fun _ => False) p kn n D' F' → WentV w F p kn (fun b : Bool => Value.bool b) Rr (.returned ((fun b : Bool => Value.bool b) x)) w2) := hQQ fun x w2 D' F' e h => mid_done MM.out (fun _ q => q.elim) h e
 have HK := hQQ hk
 have HR := hQQ R
 have HH := hQQ H
 clear hl1 m1 hv hD hk R H nFl
 have hfl := field_pages c
 unfold evacP at hRr
 have pg1 := HR.out.pg1
 have pg2 := HR.out.pg2
 unfold W64 at hq
 by_cases a0 : q < 0
 · have d0 : decide (q < 0) = true := by simp [a0]
   have hth : thereB c.pg q m = false := by unfold thereB; simp; omega
   rw [hth] at hRr
   have FIN := hQQ (DONE.out false w1 D F hRr.symm M0.out)
   clear hRr
   go_enter Tryz.func88,Tryz.ntmps88
   go_wp2_with fail
   go_ret
   exact FIN.out
 have d0 : decide (q < 0) = false := by simp; omega
 by_cases a1 : m < 1
 · have d1 : decide (m < 1) = true := by simp [a1]
   have hth : thereB c.pg q m = false := by unfold thereB; simp; omega
   rw [hth] at hRr
   have FIN := hQQ (DONE.out false w1 D F hRr.symm M0.out)
   clear hRr
   go_enter Tryz.func88,Tryz.ntmps88
   go_wp2_with fail
   go_ret
   exact FIN.out
 have d1 : decide (m < 1) = false := by simp; omega
 have q1 : IntKind.i64.wrap (c.pg - q) = c.pg - q := wrap_in (by omega) (by omega)
 by_cases a2 : c.pg - q < m
 · have d2 : decide (c.pg - q < m) = true := by simp [a2]
   have hth : thereB c.pg q m = false := by unfold thereB; simp; omega
   rw [hth] at hRr
   have FIN : Hid (∀ w2,More w1 w2 → WentV w F p kn (fun b : Bool => Value.bool b) Rr (.returned (.bool false)) w2) := hQQ fun w2 h => DONE.out false w2 D F hRr.symm (M0.out.more h)
   clear hRr
   go_enter Tryz.func88,Tryz.ntmps88
   go_wp2_with (refine wpList_load_rowG rfl 28 _ rfl _ rfl 28 _ _ _ L0.out Tryz.underlying28 rfl (by kernel_rfl) ?_)
   refine (y_config HR.out _).mono ?_
   rintro e w2 ⟨rfl,h2⟩
   have H2 := hQQ h2
   clear h2
   go_wp2_with fail
   go_ret
   exact FIN.out _ H2.out
 have d2 : decide (c.pg - q < m) = false := by simp; omega
 have hth : thereB c.pg q m = true := there_iff.2 ⟨by omega,by omega,by omega⟩
 rw [hth,if_pos rfl] at hRr
 have HRr := hQQ hRr
 have q2 : IntKind.i64.wrap (q + m) = q + m := wrap_in (by omega) (by omega)
 clear hRr
 go_enter Tryz.func88,Tryz.ntmps88
 go_wp2_with (refine wpList_load_rowG rfl 28 _ rfl _ rfl 28 _ _ _ L0.out Tryz.underlying28 rfl (by kernel_rfl) ?_)
 refine (y_config HR.out _).mono ?_
 rintro e w2 ⟨rfl,h2⟩
 have START := hQQ (And.intro (M0.out.more h2) HRr.out)
 clear h2 HRr
 go_wp2_with fail
 go_loopw [9] (fun v9 wr => ∃ (i : Nat) (D' : List KV) (F' : Nat → Prop),v9 = .int .i64 (q + (i : Int)) ∧ (i : Int) ≤ m ∧ MidV w1 wr F (fun _ => False) p kn n D' F' ∧ evacN c.pg c.st (m.toNat - i) (q + (i : Int)) kn D' = Rr) (fun v9 _ => (q + m - intOf v9).toNat)
 case atStart => exact ⟨0,D,F,by simp,by omega,START.out.1,by simpa using START.out.2⟩
 case round =>
   clear START
   obtain ⟨i,D',F',rfl,hi,MI,hrest⟩ := hrel
   have MI := hQQ MI
   have LI := hQQ (KL.out _ _ _ MI.out)
   by_cases hlt : (i : Int) < m
   · have d3 : decide (q + (i : Int) < q + m) = true := by simp; omega
     have q3 : IntKind.i64.wrap (q + (i : Int) + 1) = q + (i : Int) + 1 := wrap_in (by omega) (by omega)
     rw [show m.toNat - i = (m.toNat - (i + 1)) + 1 by omega,vac_len] at hrest
     have RI := hQQ hrest
     clear hrest
     go_wp2_with (refine wpList_load_rowG rfl 28 _ rfl _ rfl 28 _ _ _ LI.out Tryz.underlying28 rfl (by kernel_rfl) ?_)
     refine (e_Kind HR.out HH.out F' p kn D' (q + (i : Int)) wr MI.out.view HK.out MI.out.inv).mono ?_
     intro e w4 he
     rcases MI.out.step (More.refl _) HK.out (good_kind HH.out _) he with ⟨a',hE,rfl,hd',ht',_⟩ | ⟨x4,D4,F4,hE,rfl,M4,hq4,_,_⟩
     · exact ⟨rfl,NEED.out a' w4 (RI.out.symm.trans (bindP_need hE)) hd' ht'⟩
     have L4 := hQQ (KL.out _ _ _ M4)
     have R4 := hQQ ((bindP_ok hE).symm.trans RI.out)
     have M4 := hQQ M4
     clear he hE
     have b1 := neq_of x4 0
     by_cases z : x4 = 0
     · rw [show decide (x4 = 0) = true by simp [z]] at b1
       have NX := hQQ (show evacN c.pg c.st (m.toNat - (i + 1)) (q + (i : Int) + 1) kn D4 = Rr from by have := R4.out; rwa [if_pos z] at this)
       clear R4 z
       go_wp2_with fail
       go_roundw
       case rel => exact ⟨i + 1,D4,F4,by go_num,by omega,M4.out,by rw [show q + ((i + 1 : Nat) : Int) = q + (i : Int) + 1 by omega]; exact NX.out⟩
       case measure => simp [intOf]; omega
     · rw [show decide (x4 = 0) = false by simp [z]] at b1
       have FIN := hQQ (DONE.out false w4 D4 F4 (by have := R4.out; rw [if_neg z] at this; exact this.symm) M4.out)
       clear R4 z
       go_wp2_with fail
       go_ret
       exact FIN.out
   · obtain rfl : (i : Int) = m := by omega
     have d3 : decide (q + (i : Int) < q + (i : Int)) = false := by simp
     have FIN := hQQ (DONE.out true wr D' F' (by rw [show ((i : Int).toNat - i) = 0 by omega] at hrest; exact hrest.symm) MI.out)
     clear hrest
     go_wp2_with fail
     go_ret
     exact FIN.out
theorem good_kind2 {pg st : Int} {n : Nat} (H : PgIn pg st n) (p : Int) : Good n (fun k : Int => isPage pg p = false → k = -1) (ekindP pg st p) :=
 good_ite (fun h => good_imp (good_read n (page_b H h).1.2.1) (fun _ _ q => by rw [h] at q; cases q)) (fun _ => good_pure n (fun _ => rfl))
theorem e_length {c : Cfg} (R : c.Ok) {n : Nat} (H : PgIn c.pg c.st n) (F : Nat → Prop) (p : Nat) (kn : Int → Option Int) (D : List KV) (q : Int) (w : World) (hv : ViewAt w F p kn D) (hk : OkK kn) (hD : InvD n D) :
   Calls Tryz.prog 97 #[.pointer (some ⟨p,0,none⟩),.agg c.arr,.int .i64 q] w (WentV w F p kn (fun x => .int .i64 x) (elenP c.pg c.st q kn D)) := by
 obtain ⟨Rr,hRr⟩ : ∃ Rr,elenP c.pg c.st q kn D = Rr := ⟨_,rfl⟩
 rw [hRr]
 obtain ⟨w1,e1,hl1,m1,s1⟩ := entry1 w (.cells c.arr 28)
 have nFl : ¬ F w.heap.size := fun q => by have := hv.lt _ q; omega
 have MM := hQQ m1
 have L0 := hQQ hl1
 have M0 : Hid (MidV w1 w1 F (fun _ => False) p kn n D F) := hQQ (MidV.begin (hv.more m1) hD)
 have KL : Hid (∀ wr D' F',MidV w1 wr F (fun _ => False) p kn n D' F' → wr.heap[w.heap.size]? = some (.cells c.arr 28 (0,0))) := hQQ fun wr D' F' h => mid_own h L0.out nFl (fun q => q)
 have NEED : Hid (∀ a w2,Rr = .need a → DeadAt w2 p a → Turned (fun b => F b ∨ False) w1 w2 → WentV w F p kn (fun x : Int => Value.int .i64 x) Rr (.panicked (endOf p)) w2) := hQQ fun a w2 e hd ht => mid_need MM.out (fun _ q => q.elim) e hd ht
 have DONE : Hid (∀ x w2 D' F',Rr = .ok x D' → MidV w1 w2 F (fun _ => False) p kn n D' F' → WentV w F p kn (fun x : Int => Value.int .i64 x) Rr (.returned ((fun x : Int => Value.int .i64 x) x)) w2) := hQQ fun x w2 D' F' e h => mid_done MM.out (fun _ q => q.elim) h e
 have HK := hQQ hk
 have HR := hQQ R
 have HH := hQQ H
 clear hl1 m1 hv hD hk R H nFl
 have hfl := field_pages c
 unfold elenP at hRr
 have pg1 := HR.out.pg1
 have pg2 := HR.out.pg2
 have HRr := hQQ hRr
 clear hRr
 go_enter Tryz.func97,Tryz.ntmps97
 go_wp2_with (refine wpList_load_rowG rfl 28 _ rfl _ rfl 28 _ _ _ L0.out Tryz.underlying28 rfl (by kernel_rfl) ?_)
 refine (e_Kind HR.out HH.out F p kn D q w1 M0.out.view HK.out M0.out.inv).mono ?_
 intro e w2 he
 rcases M0.out.step (More.refl _) HK.out (good_kind2 HH.out _) he with ⟨a',hE,rfl,hd',ht',_⟩ | ⟨x2,D2,F2,hE,rfl,M2,hq2,_,_⟩
 · exact ⟨rfl,NEED.out a' w2 (HRr.out.symm.trans (bindP_need hE)) hd' ht'⟩
 have L2 := hQQ (KL.out _ _ _ M2)
 have R2 := hQQ ((bindP_ok hE).symm.trans HRr.out)
 have M2 := hQQ M2
 clear he hE
 go_wp2_with fail
 refine (e_classes x2 _).mono ?_
 rintro e w3 ⟨rfl,h3⟩
 have M3 := hQQ (M2.out.more h3)
 have L3 := hQQ (KL.out _ _ _ M3.out)
 clear h3
 have R3 := R2.out
 cases hc : clsB x2 with
 | true =>
   rw [if_pos hc] at R3
   have FIN := hQQ (DONE.out 1 w3 D2 F2 R3.symm M3.out)
   clear R3 R2
   go_wp2_with fail
   go_ret
   exact FIN.out
 | false =>
   rw [if_neg (by simp [hc])] at R3
   by_cases h6 : x2 = 6
   · rw [if_pos h6] at R3
     have b6 : (x2 == 6) = true := by simp [h6]
     have hpg : isPage c.pg q = true := by
       cases hp : isPage c.pg q with
       | true => rfl
       | false => have := hq2 hp; omega
     obtain ⟨_,⟨_,_,hw64⟩,_⟩ := page_b HH.out hpg
     have hpi := isPage_iff.1 hpg
     have qs : IntKind.i64.wrap (c.pg - q) = c.pg - q := wrap_in (by omega) (by omega)
     cases hN : wordV kn D2 (cA c.pg c.st q) with
     | none =>
       have DIE : Hid (∀ W,DeadAt W p (cA c.pg c.st q) → Turned (fun b => F b ∨ False) w1 W → WentV w F p kn (fun x : Int => Value.int .i64 x) Rr (.panicked (endOf p)) W) := hQQ fun W hd ht => NEED.out _ W (R3.symm.trans (bindP_need (readP_none hN))) hd ht
       clear R3 R2
       go_wp2_with fail
       refine wp_region_any (by kernel_rfl) ?_
       have MZ := hQQ (M3.out.more ((More.refl w3).drewN 1))
       have LZ := hQQ (KL.out _ _ _ MZ.out)
       change wpAny _ _ _ _ _ _ _ (w3.drewN 1)
       generalize w3.drewN 1 = w4 at MZ LZ ⊢
       refine wpAny_take (i:=0) (v:=.pointer (some ⟨p,0,none⟩)) rfl (by kernel_rfl) (by kernel_rfl) (by kernel_rfl) (fun _ _ _ h => h) (Or.inl ⟨by rfl,fun W => by go_simp⟩) ?_
       refine wpAny_take (i:=2) (v:=.int .i64 q) rfl (by kernel_rfl) (by kernel_rfl) (by kernel_rfl) (fun _ _ _ h => h) (Or.inl ⟨by rfl,fun W => by go_simp⟩) ?_
       refine wpAny_take (i:=8) (v:=.int .i64 q) rfl (by kernel_rfl) (by kernel_rfl) (by kernel_rfl) (fun _ _ _ h => h) (Or.inl ⟨by rfl,fun W => by go_simp⟩) ?_
       refine any_start (fun W => WentV w F p kn (fun x : Int => Value.int .i64 x) Rr (.panicked (endOf p)) W) (endOf p) (fun a W hd h => ⟨hd,h⟩) ?_
       intro QQ FIN
       refine frame_g 30 [(18,.pointer (some ⟨p,0,none⟩)),(20,.int .i64 q),(4,.pointer (some ⟨w.heap.size,0,none⟩))] ⟨⟨Nat.le_of_ble_eq_true rfl,rfl⟩,?_⟩ (fun A HF => ?_)
       · intro z hz; simp only [List.mem_cons,List.not_mem_nil,or_false] at hz; rcases hz with rfl | rfl | rfl <;> rfl
       refine wpAny_ready (rs:=[1,5]) (by kernel_rfl) (by simp) ?_
       refine ready_step (some 19) rfl rfl rfl (fun K hK => ?_) ?_
       · refine wp_load_row 28 _ rfl w.heap.size (HF.get 2 rfl) 28 _ _ _ LZ.out Tryz.underlying28 rfl (by kernel_rfl) ?_
         refine hK _ _ ?_; clear hK K
         have HF := HF.put 19 (.agg c.arr) (by decide) rfl
         generalize Act.put _ _ _ = A at HF ⊢
         refine wpAny_ready (rs:=[3,5]) (by kernel_rfl) (by simp) ?_
         refine ready_step (some 21) rfl rfl rfl (fun K hK => ?_) ?_
         · refine wp_call2 (v0:=.agg c.arr) (v1:=.int .i64 q) rfl (HF.get 0 rfl) (HF.get 2 rfl) (enters_of Tryz.func69 (by kernel_rfl) rfl) ?_
           refine (y_count HR.out _ q).mono ?_
           rintro e W ⟨rfl,h⟩
           have MZ := hQQ (MZ.out.more h); have LZ := hQQ (h.block LZ.out); clear h
           rw [page1 hpg]
           refine hK _ _ ?_; clear hK K
           have HF := HF.put 21 (.int .i64 (cA c.pg c.st q)) (by decide) rfl
           generalize Act.put _ _ _ = A at HF ⊢
           refine wpAny_ready (rs:=[4,5]) (by kernel_rfl) (by simp) ?_
           refine ready_step (some 22) rfl rfl rfl (fun K hK => ?_) ?_
           · refine wp_call2 (v0:=.pointer (some ⟨p,0,none⟩)) (v1:=.int .i64 (cA c.pg c.st q)) rfl (HF.get 2 rfl) (HF.get 0 rfl) (enters_of Tryz.func62 (by kernel_rfl) rfl) ?_
             refine (read_need F2 p kn D2 (cA c.pg c.st q) _ MZ.out.view hw64 hN).mono ?_
             rintro e W ⟨rfl,hd,ht⟩
             exact FIN _ _ HF.1.2 (DIE.out W hd (turned_own MZ.out.turn ht (fun k q => (MZ.out.from' k q).imp .inl id)))
           refine ready_step (some 23) rfl rfl rfl (fun K hK => ?_) ?_
           · refine wp_load_row 28 _ rfl w.heap.size (HF.get 4 rfl) 28 _ _ _ LZ.out Tryz.underlying28 rfl (by kernel_rfl) ?_
             refine hK _ _ ?_; clear hK K
             have HF := HF.put 23 (.agg c.arr) (by decide) rfl
             generalize Act.put _ _ _ = A at HF ⊢
             refine wpAny_ready (rs:=[4]) (by kernel_rfl) (by simp) ?_
             refine ready_step (some 22) rfl rfl rfl (fun K hK => ?_) ?_
             · refine wp_call2 (v0:=.pointer (some ⟨p,0,none⟩)) (v1:=.int .i64 (cA c.pg c.st q)) rfl (HF.get 3 rfl) (HF.get 1 rfl) (enters_of Tryz.func62 (by kernel_rfl) rfl) ?_
               refine (read_need F2 p kn D2 (cA c.pg c.st q) _ MZ.out.view hw64 hN).mono ?_
               rintro e W ⟨rfl,hd,ht⟩
               exact FIN _ _ HF.1.2 (DIE.out W hd (turned_own MZ.out.turn ht (fun k q => (MZ.out.from' k q).imp .inl id)))
             exact AllReady.nil
           exact AllReady.nil
         refine ready_step (some 23) rfl rfl rfl (fun K hK => ?_) ?_
         · refine wp_load_row 28 _ rfl w.heap.size (HF.get 3 rfl) 28 _ _ _ LZ.out Tryz.underlying28 rfl (by kernel_rfl) ?_
           refine hK _ _ ?_; clear hK K
           have HF := HF.put 23 (.agg c.arr) (by decide) rfl
           generalize Act.put _ _ _ = A at HF ⊢
           refine wpAny_ready (rs:=[3]) (by kernel_rfl) (by simp) ?_
           refine ready_step (some 21) rfl rfl rfl (fun K hK => ?_) ?_
           · refine wp_call2 (v0:=.agg c.arr) (v1:=.int .i64 q) rfl (HF.get 1 rfl) (HF.get 3 rfl) (enters_of Tryz.func69 (by kernel_rfl) rfl) ?_
             refine (y_count HR.out _ q).mono ?_
             rintro e W ⟨rfl,h⟩
             have MZ := hQQ (MZ.out.more h); have LZ := hQQ (h.block LZ.out); clear h
             rw [page1 hpg]
             refine hK _ _ ?_; clear hK K
             have HF := HF.put 21 (.int .i64 (cA c.pg c.st q)) (by decide) rfl
             generalize Act.put _ _ _ = A at HF ⊢
             refine wpAny_ready (rs:=[4]) (by kernel_rfl) (by simp) ?_
             refine ready_step (some 22) rfl rfl rfl (fun K hK => ?_) ?_
             · refine wp_call2 (v0:=.pointer (some ⟨p,0,none⟩)) (v1:=.int .i64 (cA c.pg c.st q)) rfl (HF.get 3 rfl) (HF.get 0 rfl) (enters_of Tryz.func62 (by kernel_rfl) rfl) ?_
               refine (read_need F2 p kn D2 (cA c.pg c.st q) _ MZ.out.view hw64 hN).mono ?_
               rintro e W ⟨rfl,hd,ht⟩
               exact FIN _ _ HF.1.2 (DIE.out W hd (turned_own MZ.out.turn ht (fun k q => (MZ.out.from' k q).imp .inl id)))
             exact AllReady.nil
           exact AllReady.nil
         exact AllReady.nil
       refine ready_step (some 23) rfl rfl rfl (fun K hK => ?_) ?_
       · refine wp_load_row 28 _ rfl w.heap.size (HF.get 2 rfl) 28 _ _ _ LZ.out Tryz.underlying28 rfl (by kernel_rfl) ?_
         refine hK _ _ ?_; clear hK K
         have HF := HF.put 23 (.agg c.arr) (by decide) rfl
         generalize Act.put _ _ _ = A at HF ⊢
         refine wpAny_ready (rs:=[1]) (by kernel_rfl) (by simp) ?_
         refine ready_step (some 19) rfl rfl rfl (fun K hK => ?_) ?_
         · refine wp_load_row 28 _ rfl w.heap.size (HF.get 3 rfl) 28 _ _ _ LZ.out Tryz.underlying28 rfl (by kernel_rfl) ?_
           refine hK _ _ ?_; clear hK K
           have HF := HF.put 19 (.agg c.arr) (by decide) rfl
           generalize Act.put _ _ _ = A at HF ⊢
           refine wpAny_ready (rs:=[3]) (by kernel_rfl) (by simp) ?_
           refine ready_step (some 21) rfl rfl rfl (fun K hK => ?_) ?_
           · refine wp_call2 (v0:=.agg c.arr) (v1:=.int .i64 q) rfl (HF.get 0 rfl) (HF.get 3 rfl) (enters_of Tryz.func69 (by kernel_rfl) rfl) ?_
             refine (y_count HR.out _ q).mono ?_
             rintro e W ⟨rfl,h⟩
             have MZ := hQQ (MZ.out.more h); have LZ := hQQ (h.block LZ.out); clear h
             rw [page1 hpg]
             refine hK _ _ ?_; clear hK K
             have HF := HF.put 21 (.int .i64 (cA c.pg c.st q)) (by decide) rfl
             generalize Act.put _ _ _ = A at HF ⊢
             refine wpAny_ready (rs:=[4]) (by kernel_rfl) (by simp) ?_
             refine ready_step (some 22) rfl rfl rfl (fun K hK => ?_) ?_
             · refine wp_call2 (v0:=.pointer (some ⟨p,0,none⟩)) (v1:=.int .i64 (cA c.pg c.st q)) rfl (HF.get 3 rfl) (HF.get 0 rfl) (enters_of Tryz.func62 (by kernel_rfl) rfl) ?_
               refine (read_need F2 p kn D2 (cA c.pg c.st q) _ MZ.out.view hw64 hN).mono ?_
               rintro e W ⟨rfl,hd,ht⟩
               exact FIN _ _ HF.1.2 (DIE.out W hd (turned_own MZ.out.turn ht (fun k q => (MZ.out.from' k q).imp .inl id)))
             exact AllReady.nil
           exact AllReady.nil
         exact AllReady.nil
       exact AllReady.nil
     | some y =>
       have FIN : Hid (∀ W,More w3 W → WentV w F p kn (fun x : Int => Value.int .i64 x) Rr (.returned (.int .i64 (max 1 (min y (c.pg - q))))) W) := hQQ fun W h => DONE.out _ W D2 F2 (R3.symm.trans (bindP_ok (readP_some hN))) (M3.out.more h)
       have RA := hQQ (fun W (h : More w3 W) => read_some F2 p kn D2 (cA c.pg c.st q) y W (M3.out.view.more h) hw64 hN)
       clear R3 R2
       go_wp2_with fail
       refine wp_region_more (by kernel_rfl) (by kernel_rfl) ?_
       iterate 1
         with_reducible refine wpQuiet_step (fun K hK => ?_)
         go_simp
         first
         | (refine hK _ ?_; clear hK K)
         | (apply Exists.intro
            refine ⟨fun W hW => ?_,hK _ ?_⟩
            first
            | (go_simp; try rfl)
            clear hK K)
       refine wpQuiet_load_row rfl 28 _ rfl _ rfl 28 _ _ _ (fun W hW => hW.block L3.out) Tryz.underlying28 rfl (by kernel_rfl) ?_
       iterate 1
         with_reducible refine wpQuiet_step (fun K hK => ?_)
         go_simp
         first
         | (refine hK _ ?_; clear hK K)
         | (apply Exists.intro
            refine ⟨fun W hW => ?_,hK _ ?_⟩
            first
            | (go_simp; try rfl)
            clear hK K)
       iterate 1
         with_reducible refine wpQuiet_step (fun K hK => ?_)
         go_simp
         first
         | (refine hK _ ?_; clear hK K)
         | (apply Exists.intro
            refine ⟨fun W hW => ?_,hK _ ?_⟩
            first
            | (go_at_call 69; have := y_count HR.out W q; rw [page1 hpg] at this; exact Calls.more hW this)
            clear hK K)
       iterate 1
         with_reducible refine wpQuiet_step (fun K hK => ?_)
         go_simp
         first
         | (refine hK _ ?_; clear hK K)
         | (apply Exists.intro
            refine ⟨fun W hW => ?_,hK _ ?_⟩
            first
            | (go_at_call 62; exact (RA.out W hW).mono (fun e w'' h => ⟨h.1,by obtain ⟨_,k,rfl⟩ := h; exact hW.drewN k⟩))
            clear hK K)
       refine wpQuiet_load_row rfl 28 _ rfl _ rfl 28 _ _ _ (fun W hW => hW.block L3.out) Tryz.underlying28 rfl (by kernel_rfl) ?_
       iterate 1
         with_reducible refine wpQuiet_step (fun K hK => ?_)
         go_simp
         first
         | (refine hK _ ?_; clear hK K)
         | (apply Exists.intro
            refine ⟨fun W hW => ?_,hK _ ?_⟩
            first
            | (go_at_call 6; exact Calls.more hW (y_config HR.out W))
            clear hK K)
       iterate 6
         with_reducible refine wpQuiet_step (fun K hK => ?_)
         go_simp
         first
         | (refine hK _ ?_; clear hK K)
         | (apply Exists.intro
            refine ⟨fun W hW => ?_,hK _ ?_⟩
            first
            | (go_simp; try rfl)
            clear hK K)
       refine wpQuiet_nil ?_
       intro w4 h4
       have F4 := hQQ (FIN.out w4 h4)
       clear h4
       go_wp2_with fail
       go_ret
       exact F4.out
   · rw [if_neg h6] at R3
     have b6 : (x2 == 6) = false := by simp [h6]
     have FIN := hQQ (DONE.out 0 w3 D2 F2 R3.symm M3.out)
     clear R3 R2
     go_wp2_with fail
     go_ret
     exact FIN.out
theorem good_put2 {pg st : Int} {n : Nat} (H : PgIn pg st n) {p : Int} (h : isPage pg p = true) {k x : Int} (hk : W64 k) (hx : W64 x) : Good n (fun _ => True) (eputP pg st p k x) := good_put H h hk hx
theorem w64_0 : W64 0 := by unfold W64; omega
theorem w64_7 : W64 7 := by unfold W64; omega
theorem putN_step {pg st k : Int} {m : Nat} {q : Int} : eputN pg st k (m + 1) q = bindP (eputP pg st q k 0) fun _ => eputN pg st k m (q + 1) := rfl
theorem e_Drop {c : Cfg} (R : c.Ok) {n : Nat} (H : PgIn c.pg c.st n) (hn : n ≤ 10000) (F : Nat → Prop) (p : Nat) (kn : Int → Option Int) (D : List KV) (q : Int) (hq : W64 q) (w : World) (hv : ViewAt w F p kn D) (hk : OkK kn) (hD : InvD n D) :
   Calls Tryz.prog 67 #[.pointer (some ⟨p,0,none⟩),.agg c.arr,.int .i64 q] w (WentV w F p kn (fun x => .int .i64 x) (edropP c.pg c.st q kn D)) := by
 obtain ⟨Rr,hRr⟩ : ∃ Rr,edropP c.pg c.st q kn D = Rr := ⟨_,rfl⟩
 rw [hRr]
 obtain ⟨w1,e1,hl1,m1,s1⟩ := entry1 w (.cells c.arr 28)
 have nFl : ¬ F w.heap.size := fun q => by have := hv.lt _ q; omega
 have MM := hQQ m1
 have L0 := hQQ hl1
 have M0 : Hid (MidV w1 w1 F (fun _ => False) p kn n D F) := hQQ (MidV.begin (hv.more m1) hD)
 have KL : Hid (∀ wr D' F',MidV w1 wr F (fun _ => False) p kn n D' F' → wr.heap[w.heap.size]? = some (.cells c.arr 28 (0,0))) := hQQ fun wr D' F' h => mid_own h L0.out nFl (fun q => q)
 have NEED : Hid (∀ a w2,Rr = .need a → DeadAt w2 p a → Turned (fun b => F b ∨ False) w1 w2 → WentV w F p kn (fun x : Int => Value.int .i64 x) Rr (.panicked (endOf p)) w2) := hQQ fun a w2 e hd ht => mid_need MM.out (fun _ q => q.elim) e hd ht
 have DONE : Hid (∀ x w2 D' F',Rr = .ok x D' → MidV w1 w2 F (fun _ => False) p kn n D' F' → WentV w F p kn (fun x : Int => Value.int .i64 x) Rr (.returned ((fun x : Int => Value.int .i64 x) x)) w2) := hQQ fun x w2 D' F' e h => mid_done MM.out (fun _ q => q.elim) h e
 have HK := hQQ hk
 have HR := hQQ R
 have HH := hQQ H
 clear hl1 m1 hv hD hk R H nFl
 unfold edropP at hRr
 have pg1 := HR.out.pg1
 have pg2 := HR.out.pg2
 unfold W64 at hq
 have HRr := hQQ hRr
 clear hRr
 go_enter Tryz.func67,Tryz.ntmps67
 go_wp2_with (refine wpList_load_rowG rfl 28 _ rfl _ rfl 28 _ _ _ L0.out Tryz.underlying28 rfl (by kernel_rfl) ?_)
 refine (e_length HR.out HH.out F p kn D q w1 M0.out.view HK.out M0.out.inv).mono ?_
 intro e w2 he
 rcases M0.out.step (More.refl _) HK.out (good_len HH.out _) he with ⟨a',hE,rfl,hd',ht',_⟩ | ⟨x2,D2,F2,hE,rfl,M2,hq2,_,_⟩
 · exact ⟨rfl,NEED.out a' w2 (HRr.out.symm.trans (bindP_need hE)) hd' ht'⟩
 have L2 := hQQ (KL.out _ _ _ M2)
 have R2 := hQQ ((bindP_ok hE).symm.trans HRr.out)
 have M2 := hQQ M2
 clear he hE
 have hpi : Hid (x2 = 0 ∨ (0 ≤ q ∧ q < c.pg ∧ 1 ≤ x2 ∧ x2 ≤ c.pg - q)) := hQQ (by
   rcases hq2 with h | ⟨h,h1,h2⟩
   · exact .inl h
   · have := isPage_iff.1 h; exact .inr ⟨this.1,this.2,h1,h2⟩)
 clear hq2
 have qa : IntKind.i64.wrap (q + x2) = q + x2 := by have := hpi.out; exact wrap_in (by omega) (by omega)
 have START := hQQ (And.intro M2.out R2.out)
 clear R2 M2 L2
 go_wp2_with fail
 go_loopw [8] (fun v8 wr => ∃ (i : Nat) (D' : List KV) (F' : Nat → Prop),v8 = .int .i64 (q + (i : Int)) ∧ (i : Int) ≤ x2 ∧ MidV w1 wr F (fun _ => False) p kn n D' F' ∧ bindP (eputN c.pg c.st 0 (x2.toNat - i) (q + (i : Int))) (fun _ => pureP x2) kn D' = Rr) (fun v8 _ => (q + x2 - intOf v8).toNat)
 case atStart => exact ⟨0,D2,F2,by simp,by have := hpi.out; omega,START.out.1,by simpa using START.out.2⟩
 case round =>
   clear START
   obtain ⟨i,D',F',rfl,hi,MI,hrest⟩ := hrel
   have MI := hQQ MI
   have LI := hQQ (KL.out _ _ _ MI.out)
   have hp := hpi.out
   by_cases hlt : (i : Int) < x2
   · have d3 : decide (q + (i : Int) < q + x2) = true := by simp; omega
     have q3 : IntKind.i64.wrap (q + (i : Int) + 1) = q + (i : Int) + 1 := wrap_in (by omega) (by omega)
     rw [show x2.toNat - i = (x2.toNat - (i + 1)) + 1 by omega,putN_step,bindP_assoc] at hrest
     have RI := hQQ hrest
     have hpg : isPage c.pg (q + (i : Int)) = true := isPage_iff.2 ⟨by omega,by omega⟩
     clear hrest hp
     go_wp2_with (refine wpList_load_rowG rfl 28 _ rfl _ rfl 28 _ _ _ LI.out Tryz.underlying28 rfl (by kernel_rfl) ?_)
     refine (e_put HR.out HH.out hn F' p kn D' (q + (i : Int)) 0 0 hpg w64_0 w64_0 wr MI.out.view HK.out MI.out.inv).mono ?_
     intro e w4 he
     rcases MI.out.step (More.refl _) HK.out (good_put2 HH.out hpg w64_0 w64_0) he with ⟨a',hE,rfl,hd',ht',_⟩ | ⟨x4,D4,F4,hE,rfl,M4,hq4,_,_⟩
     · exact ⟨rfl,NEED.out a' w4 (RI.out.symm.trans (bindP_need hE)) hd' ht'⟩
     have L4 := hQQ (KL.out _ _ _ M4)
     have R4 := hQQ ((bindP_ok hE).symm.trans RI.out)
     have M4 := hQQ M4
     clear he hE
     have NX := hQQ (show bindP (eputN c.pg c.st 0 (x2.toNat - (i + 1)) (q + (i : Int) + 1)) (fun _ => pureP x2) kn D4 = Rr from R4.out)
     clear R4
     go_wp2_with fail
     go_roundw
     case rel => exact ⟨i + 1,D4,F4,by go_num,by omega,M4.out,by rw [show q + ((i + 1 : Nat) : Int) = q + (i : Int) + 1 by omega]; exact NX.out⟩
     case measure => simp [intOf]; omega
   · obtain rfl : (i : Int) = x2 := by omega
     have d3 : decide (q + (i : Int) < q + (i : Int)) = false := by simp
     have FIN := hQQ (DONE.out (i : Int) wr D' F' (by rw [show ((i : Int).toNat - i) = 0 by omega] at hrest; exact hrest.symm) MI.out)
     clear hrest hp
     go_wp2_with fail
     go_ret
     exact FIN.out
end Go.Proofs.YtmafllcmkhgidaaGreatDoor
namespace Go.Proofs.YtmafllcmkhgidaaGreatDoor
open Go.RowKit
section
variable {P : Program} {ops : Array Oper} {md : Region.Mode} {C : World → Prop}
def headD (md : Region.Mode) (ops : Array Oper) (t : Array Bool) : Nat → Nat → Array Bool → Bool
 | 0,_,d => d == t
 | m + 1,k,d => (Region.ready md ops d).contains k && Region.free md ops d k && headD md ops t m (k + 1) (d.setIfInBounds k true)
def headOk (md : Region.Mode) (ops : Array Oper) (n : Nat) (t : Array Bool) : Bool :=
 Region.noSelect ops && decide (n < ops.size) && sinkFrom md ops 0 n && ((List.range ops.size).all fun i => decide (i ≤ n) || (List.range i).any fun j => decide (n ≤ j) && Region.waitsFor md ops i j) && ((Region.ready md ops t).all fun i => decide (n ≤ i)) && headD md ops t n 0 (Array.replicate ops.size false)
theorem head_waits {n : Nat} (hs : sinkFrom md ops 0 n = true) (hc : ((List.range ops.size).all fun i => decide (i ≤ n) || (List.range i).any fun j => decide (n ≤ j) && Region.waitsFor md ops i j) = true) (hn : n < ops.size) (m : Nat) :
   ∀ i,n - i ≤ m → i < n → ∀ d,HeadInv md ops n d → d.getD i true = false → ∀ t,n ≤ t → t ∉ Region.ready md ops d := by
 induction m with
 | zero => intro i h hi; omega
 | succ m ih =>
   intro i hm hi d inv hun t ht hr
   obtain ⟨_,ot,hot,hall⟩ := mem_ready.1 hr
   have hlt : t < ops.size := (Array.getElem?_eq_some_iff.1 hot).1
   by_cases e : t = n
   · subst e
     have h1 := List.all_eq_true.1 hs i (List.mem_range.2 hi)
     simp only [Bool.or_eq_true,decide_eq_true_eq] at h1
     rcases h1 with h1 | h1
     · omega
     obtain ⟨j,hj,hj2⟩ := List.any_eq_true.1 h1
     simp only [Bool.and_eq_true,decide_eq_true_eq] at hj2
     obtain ⟨oj,hoj,x,hx,hb,hon⟩ := Region.waitsFor_spec hj2.2
     have hjn := List.mem_range.1 hj
     have no : d.getD j false = true ∨ j = t → False := by
       rintro (q | q)
       · have := inv.closed j oj hoj q x hx hb
         rw [hon,getD_both hun] at this; cases this
       · subst q
         obtain rfl : oj = ot := Option.some.inj (hoj.symm.trans hot)
         have := hall x hx hb
         rw [hon,getD_both hun] at this; cases this
     cases q : d.getD j false with
     | true => exact no (.inl q)
     | false =>
       have hne : j ≠ t := fun z => no (.inr z)
       exact ih j (by omega) (by omega) d inv (getD_in (by rw [inv.size]; omega) q) t (Nat.le_refl _) hr
   · have h1 := List.all_eq_true.1 hc t (List.mem_range.2 hlt)
     simp only [Bool.or_eq_true,decide_eq_true_eq] at h1
     rcases h1 with h1 | h1
     · omega
     obtain ⟨j,hj,hj2⟩ := List.any_eq_true.1 h1
     simp only [Bool.and_eq_true,decide_eq_true_eq] at hj2
     obtain ⟨o',ho',x,hx,hb,hon⟩ := Region.waitsFor_spec hj2.2
     obtain rfl : o' = ot := Option.some.inj (ho'.symm.trans hot)
     have hjt := List.mem_range.1 hj
     have := hall x hx hb
     rw [hon,getD_both (inv.tail j hj2.1 (by omega))] at this; cases this
theorem anyT_head {n : Nat} {t : Array Bool} {Z : Act → Prop} (hsel : Region.noSelect ops = true) (hend : ∀ i ∈ Region.ready md ops t,n ≤ i) (hwait : ∀ i,i < n → ∀ d,HeadInv md ops n d → d.getD i true = false → ∀ t,n ≤ t → t ∉ Region.ready md ops d) (l : List Oper) :
   ∀ (k : Nat) (d : Array Bool) (a : Act),(∀ j,j < l.length → l[j]? = ops[k + j]?) → k + l.length = n → HeadInv md ops n d →
   headD md ops t l.length k d = true → wpQuiet P ops C Z l a →
   anyT P md ops C n (fun d' a' => d' = t ∧ Z a') l.length d a := by
 induction l with
 | nil =>
   intro k d a _ hk _ hB h
   exact ⟨by simpa [headD] using hB,h⟩
 | cons o l ih =>
   intro k d a hl hk inv hB h
   have h0 : ops[k]? = some o := by simpa using (hl 0 (by simp)).symm
   simp only [List.length_cons,headD,Bool.and_eq_true] at hB hk
   have hr : k ∈ Region.ready md ops d := by simpa using hB.1.1
   have hst : qOp P ops C k (wpQuiet P ops C Z l) a := by unfold qOp; simp only [h0]; exact h
   obtain ⟨v,hy,hK⟩ := yieldsIn_of_qOp h0 hst
   exact anyT_first h0 (Region.noSelect_spec hsel) (hwait k (by omega)) (by omega) (fun _ _ z => by rw [z.1]; exact hend) l.length d a inv (Region.free_spec h0 hB.1.2) hr hy
     (ih (k + 1) _ _ (fun j hj => by have := hl (j + 1) (by simp; omega); simpa [Nat.add_assoc,Nat.add_comm 1 j] using this) (by omega) (inv.set hr (by omega)) hB.2 hK)
end
theorem wp_region_quiet_head {P : Program} {C : World → Prop} {id : Nat} {Q : Exit → Act → World → Prop} {a : Act} {w : World} {l : List Oper} (n : Nat) (t : Array Bool) (hm : P.follows .mixedOrders = true) (hB : headOk .any l.toArray n t = true)
   (hC : C { w with drawn := w.drawn + 1 }) (h : wpQuiet P l.toArray C (fun a' => ∀ w',C w' → wpAny P .any l.toArray Q (l.length - n) t a' w') (l.take n) a) : (Code.region id l.toArray true).wp P Q a w := by
 simp only [headOk,Bool.and_eq_true,decide_eq_true_eq] at hB
 obtain ⟨⟨⟨⟨⟨hsel,hn⟩,hs⟩,hc⟩,he⟩,hlex⟩ := hB
 have hn' : n < l.length := by simpa using hn
 have ht : (l.take n).length = n := by simp; omega
 have inv : HeadInv .any l.toArray n (Array.replicate l.toArray.size false) :=
   ⟨by simp,fun j p _ q => (by rw [getD_replicate_false] at q; cases q),fun t _ q => getD_in (by simpa using q) (getD_replicate_false _ _)⟩
 have H := anyT_head (md:=.any) (t:=t) hsel (fun i hi => by have := List.all_eq_true.1 he i hi; simpa using this) (fun i hi d inv hun t ht => head_waits hs hc hn n i (by omega) hi d inv hun t ht) (l.take n) 0 _ a (fun j hj => by
   have : j < n := by rw [ht] at hj; exact hj
   simp [this]) (by simpa using ht) inv (by rw [ht]; exact hlex) h
 have K := any_of_T (Q:=Q) (g:=l.length - n) (fun d a' w' hw z => by rw [z.1]; exact z.2 w' hw) _ _ _ _ hC H
 rw [ht,show n + (l.length - n) = l.toArray.size by simp; omega] at K
 exact wp_region_any hm K
theorem wp_region_more_head {P : Program} {id : Nat} {Q : Exit → Act → World → Prop} {a : Act} {w : World} {l : List Oper} (n : Nat) (t : Array Bool) (hm : P.follows .mixedOrders = true) (hB : headOk .any l.toArray n t = true)
   (h : wpQuiet P l.toArray (More w) (fun a' => ∀ w',More w w' → wpAny P .any l.toArray Q (l.length - n) t a' w') (l.take n) a) : (Code.region id l.toArray true).wp P Q a w :=
 wp_region_quiet_head (C:=More w) n t hm hB ((More.refl w).drewN 1) h
end Go.Proofs.YtmafllcmkhgidaaGreatDoor
namespace Go.Proofs.YtmafllcmkhgidaaGreatDoor
open Go.RowKit Go.Sort Go.Maps Go.Shelf
theorem seek_step {f : Int → Prg Bool} {pg n step : Int} {m : Nat} {p : Int} : eseekN f pg n step (m + 1) p = if p ≤ pg - n then bindP (escanN f n.toNat p) (fun r => match r with | none => pureP p | some q => eseekN f pg n step m ((q / step + 1) * step)) else pureP (-1) := rfl
theorem scan_step {f : Int → Prg Bool} {m : Nat} {q : Int} : escanN f (m + 1) q = bindP (f q) (fun b => if b then escanN f m (q + 1) else pureP (some q)) := rfl
theorem leap_b {q step : Int} (h0 : 0 ≤ q) (h1 : q < 256) (h2 : 1 ≤ step) (h3 : step ≤ 9223372036854775807) : 0 ≤ q / step ∧ q / step < 256 ∧ q < (q / step + 1) * step ∧ (q / step + 1) * step ≤ 9223372036854775807 := by
 have a0 : 0 ≤ q / step := Int.ediv_nonneg h0 (by omega)
 have a1 : q / step * step ≤ q := Int.ediv_mul_le q (by omega)
 have a2 : q < (q / step + 1) * step := Int.lt_ediv_add_one_mul_self q (by omega)
 have a3 : q / step ≤ q := Int.ediv_le_self step h0
 have a4 : (q / step + 1) * step = q / step * step + step := by rw [Int.add_mul,Int.one_mul]
 refine ⟨a0,by omega,a2,?_⟩
 rw [a4]
 by_cases hs : q < step
 · rw [Int.ediv_eq_zero_of_lt h0 hs]; omega
 · omega
theorem e_least {c : Cfg} (R : c.Ok) {n : Nat} (H : PgIn c.pg c.st n) (F : Nat → Prop) (p : Nat) (kn : Int → Option Int) (D : List KV) (m step : Int) (hm1 : 1 ≤ m) (hm2 : m ≤ 9223372036854775807) (hs1 : 1 ≤ step) (hs2 : step ≤ 9223372036854775807) (f : Nat) (clo : Array Value) (fP : Int → Prg Bool) (w : World) (hv : ViewAt w F p kn D) (hk : OkK kn) (hD : InvD n D)
   (hG : ∀ q,Good n (fun _ => True) (fP q)) (henter : ∀ args w,Sem.run Tryz.prog (callFunc f args) w = .ok (.enter f args) w)
   (hf : ∀ wr D' F' q,Turned F w wr → (∀ k,F' k → F k ∨ w.heap.size ≤ k) → ViewAt wr F' p kn D' → InvD n D' → W64 q → Calls Tryz.prog f (#[.int .i64 q] ++ clo) wr (WentV wr F' p kn (fun b => .bool b) (fP q kn D'))) :
   Calls Tryz.prog 86 #[.agg c.arr,.int .i64 m,.int .i64 step,.func (.func f) #[] clo] w (WentV w F p kn (fun x => .int .i64 x) (eleastP fP c.pg m step kn D)) := by
 obtain ⟨Rr,hRr⟩ : ∃ Rr,eleastP fP c.pg m step kn D = Rr := ⟨_,rfl⟩
 rw [hRr]
 obtain ⟨w1,e1,hl1,m1,s1⟩ := entry1 w (.cells c.arr 28)
 have nFl : ¬ F w.heap.size := fun q => by have := hv.lt _ q; omega
 have MM := hQQ m1
 have L0 := hQQ hl1
 have M0 : Hid (MidV w1 w1 F (fun _ => False) p kn n D F) := hQQ (MidV.begin (hv.more m1) hD)
 have KL : Hid (∀ wr D' F',MidV w1 wr F (fun _ => False) p kn n D' F' → wr.heap[w.heap.size]? = some (.cells c.arr 28 (0,0))) := hQQ fun wr D' F' h => mid_own h L0.out nFl (fun q => q)
 have NEED : Hid (∀ a w2,Rr = .need a → DeadAt w2 p a → Turned (fun b => F b ∨ False) w1 w2 → WentV w F p kn (fun x : Int => Value.int .i64 x) Rr (.panicked (endOf p)) w2) := hQQ fun a w2 e hd ht => mid_need MM.out (fun _ q => q.elim) e hd ht
 have DONE : Hid (∀ x w2 D' F',Rr = .ok x D' → MidV w1 w2 F (fun _ => False) p kn n D' F' → WentV w F p kn (fun x : Int => Value.int .i64 x) Rr (.returned ((fun x : Int => Value.int .i64 x) x)) w2) := hQQ fun x w2 D' F' e h => mid_done MM.out (fun _ q => q.elim) h e
 have HK := hQQ hk
 have HR := hQQ R
 have HH := hQQ H
 clear hl1 m1 hv hD hk R H nFl
 have hfl := field_pages c
 unfold eleastP at hRr
 have pg1 := HR.out.pg1
 have pg2 := HR.out.pg2
 have HRr := hQQ hRr
 have HF := hQQ hf
 have HG := hQQ hG
 have q1 : IntKind.i64.wrap (c.pg - m) = c.pg - m := wrap_in (by omega) (by omega)
 have TT : Hid (∀ wr D' F',MidV w1 wr F (fun _ => False) p kn n D' F' → Turned F w wr) := hQQ fun wr D' F' h => turned_own (Turned.mono MM.out (fun _ _ q => q.elim)) h.turn (fun k q => q.imp id (fun r => r.elim))
 clear hRr hf hG
 go_enter Tryz.func86,Tryz.ntmps86
 go_wp2_with fail
 go_step3
 go_wp2_with (refine wpList_load_rowG rfl 28 _ rfl _ rfl 28 _ _ _ L0.out Tryz.underlying28 rfl (by kernel_rfl) ?_)
 refine (y_config HR.out _).mono ?_
 rintro e w2 ⟨rfl,h2⟩
 have START := hQQ (And.intro (M0.out.more h2) HRr.out)
 clear h2 HRr
 go_wp2_with fail
 go_step3
 go_wp2_with fail
 go_loopg [10,11,12] (c.pg.toNat + 1) (fun j v10 v11 v12 wr => ∃ (p0 : Int) (D' : List KV) (F' : Nat → Prop),v10 = .int .i64 (-1) ∧ v11 = .int .i64 p0 ∧ 0 ≤ p0 ∧ p0 ≤ 9223372036854775807 ∧ c.pg + 1 ≤ (j : Int) + p0 ∧ MidV w1 wr F (fun _ => False) p kn n D' F' ∧ eseekN fP c.pg m step j p0 kn D' = Rr)
 case atStart => exact ⟨0,D,F,rfl,rfl,by omega,by omega,by omega,START.out.1,START.out.2⟩
 case round =>
   clear START
   obtain ⟨p0,D',F',rfl,rfl,p00,p01,hj,MI,hrest⟩ := hrel
   have MI := hQQ MI
   by_cases hle : p0 ≤ c.pg - m
   · have d1 : decide (p0 ≤ c.pg - m) = true := by simp [hle]
     obtain ⟨j,rfl⟩ : ∃ j',gk = j' + 1 := ⟨gk - 1,by omega⟩
     rw [seek_step,if_pos hle] at hrest
     have q2 : IntKind.i64.wrap (p0 + m) = p0 + m := wrap_in (by omega) (by omega)
     have START := hQQ (And.intro MI.out hrest)
     clear hrest MI
     go_wp2_with fail
     go_loopg [10,11,12] m.toNat (fun g2 v10 v11 v12 wr => ∃ (i : Nat) (D' : List KV) (F' : Nat → Prop),v10 = .int .i64 (-1) ∧ v11 = .int .i64 p0 ∧ v12 = .int .i64 (p0 + (i : Int)) ∧ i + g2 = m.toNat ∧ MidV w1 wr F (fun _ => False) p kn n D' F' ∧ bindP (escanN fP g2 (p0 + (i : Int))) (fun r => match r with | none => pureP p0 | some q => eseekN fP c.pg m step j ((q / step + 1) * step)) kn D' = Rr)
     case atStart => exact ⟨0,D',F',rfl,rfl,by simp,by omega,START.out.1,by simpa using START.out.2⟩
     case round =>
       clear START
       obtain ⟨i,D2,F2,rfl,rfl,rfl,hig,MI,hrest⟩ := hrel
       have MI := hQQ MI
       cases gk with
       | zero =>
         have e0 : (p0 + (i : Int) == p0 + m) = true := by simp; omega
         have FIN := hQQ (DONE.out p0 _ D2 F2 hrest.symm MI.out)
         clear hrest
         go_wp2_with fail
         try rw [Exit.noGoto_ret]
         go_ret
         exact FIN.out
       | succ g =>
         have e0 : (p0 + (i : Int) == p0 + m) = false := by simp; omega
         have hqw : W64 (p0 + (i : Int)) := by unfold W64; omega
         have q3 : IntKind.i64.wrap (p0 + (i : Int) + 1) = p0 + (i : Int) + 1 := wrap_in (by omega) (by omega)
         rw [scan_step,bindP_assoc] at hrest
         have RI := hQQ hrest
         have CL := HF.out _ D2 F2 (p0 + (i : Int)) (TT.out _ _ _ MI.out) (fun k hk => (MI.out.from' k hk).imp id (fun r => Nat.le_trans MM.out.size r)) MI.out.view MI.out.inv hqw
         clear hrest
         go_wp2_with fail
         refine (CL).mono ?_
         intro e w5 he
         rcases MI.out.step (More.refl _) HK.out (HG.out _) he with ⟨a',hE,rfl,hd',ht',_⟩ | ⟨x5,D5,F5,hE,rfl,M5,hq5,_,_⟩
         · exact ⟨rfl,NEED.out a' w5 (RI.out.symm.trans (bindP_need hE)) hd' ht'⟩
         have L5 := hQQ (KL.out _ _ _ M5)
         have R5 := hQQ ((bindP_ok hE).symm.trans RI.out)
         have M5 := hQQ M5
         clear he hE
         cases x5 with
         | true =>
           have R5' := hQQ (show bindP (escanN fP g (p0 + (i : Int) + 1)) (fun r => match r with | none => pureP p0 | some q => eseekN fP c.pg m step j ((q / step + 1) * step)) kn D5 = Rr from R5.out)
           clear R5
           go_wp2_with fail
           go_roundg g
           case measure => omega
           case rel => exact ⟨i + 1,D5,F5,rfl,rfl,by go_num,by omega,M5.out,by rw [show p0 + ((i + 1 : Nat) : Int) = p0 + (i : Int) + 1 by omega]; exact R5'.out⟩
         | false =>
           have R5' := hQQ (show eseekN fP c.pg m step j (((p0 + (i : Int)) / step + 1) * step) kn D5 = Rr from R5.out)
           clear R5
           obtain ⟨z0,z1,z2,z3⟩ := leap_b (q:=p0 + (i : Int)) (step:=step) (by omega) (by omega) hs1 hs2
           have e5 : (p0 + (i : Int)).tdiv step = (p0 + (i : Int)) / step := Int.tdiv_eq_ediv_of_nonneg (by omega)
           have e6 : (step == 0) = false := by simp; omega
           generalize hz : (p0 + (i : Int)) / step = z at z0 z1 z2 z3 e5 R5'
           have q5 : IntKind.i64.wrap z = z := wrap_in (by omega) (by omega)
           have q6 : IntKind.i64.wrap (z + 1) = z + 1 := wrap_in (by omega) (by omega)
           have q7 : IntKind.i64.wrap ((z + 1) * step) = (z + 1) * step := wrap_in (by omega) (by omega)
           have Z := hQQ (And.intro z2 z3)
           clear hz z2 z3 z0 z1
           go_wp2_with fail
           go_roundg j
           case measure => omega
           case rel => exact ⟨(z + 1) * step,D5,F5,rfl,rfl,by have := Z.out; omega,Z.out.2,by have := Z.out; omega,M5.out,R5'.out⟩
   · have d1 : decide (p0 ≤ c.pg - m) = false := by simp [hle]
     have FIN := hQQ (DONE.out (-1) _ D' F' (by
       cases gk with
       | zero => exact hrest.symm
       | succ j => rw [seek_step,if_neg hle] at hrest; exact hrest.symm) MI.out)
     clear hrest
     go_wp2_with fail
     try rw [Exit.noGoto_ret]
     go_ret
     exact FIN.out
theorem e_free {c : Cfg} (R : c.Ok) {n : Nat} (H : PgIn c.pg c.st n) (F : Nat → Prop) (p : Nat) (kn : Int → Option Int) (D : List KV) (q : Int) (b1 b2 : Nat) (w : World) (hv : ViewAt w F p kn D) (hk : OkK kn) (hD : InvD n D)
   (h1 : w.heap[b1]? = some (.cells #[.pointer (some ⟨p,0,none⟩)] 40 (0,0))) (h2 : w.heap[b2]? = some (.cells c.arr 28 (0,0))) :
   Calls Tryz.prog 82 #[.int .i64 q,.pointer (some ⟨b1,0,none⟩),.pointer (some ⟨b2,0,none⟩)] w (WentV w F p kn (fun b => .bool b) (efreeP c.pg c.st q kn D)) := by
 have KD := e_Kind R H F p kn D q w hv hk hD
 have c1 := (box_cells h1).1
 have L0 := hQQ h2
 clear h1 h2
 go_enter Tryz.func82,Tryz.ntmps82
 go_wp2_with (refine wpList_load_rowG rfl 28 _ rfl _ rfl 28 _ _ _ L0.out Tryz.underlying28 rfl (by kernel_rfl) ?_)
 refine KD.mono ?_
 intro e w1 he
 rcases went_cases he with ⟨a,hR,rfl⟩ | ⟨x,D',hR,rfl⟩
 · have := WentV.mapN (val' := fun b : Bool => Value.bool b) (fun k : Int => decide (k = 0)) hR he
   rw [mapR_eq] at this
   exact ⟨rfl,this⟩
 · have FIN := WentV.map (val' := fun b : Bool => Value.bool b) (fun k : Int => decide (k = 0)) hR he
   rw [mapR_eq] at FIN
   have FIN := hQQ FIN
   have e1 : (x == 0) = decide (x = 0) := by by_cases z : x = 0 <;> simp [z]
   clear he KD hv hD hR
   go_wp2_with fail
   go_ret
   exact FIN.out
theorem e_open {c : Cfg} (R : c.Ok) {n : Nat} (H : PgIn c.pg c.st n) (F : Nat → Prop) (p : Nat) (kn : Int → Option Int) (D : List KV) (q : Int) (hq : W64 q) (b1 b2 b3 : Nat) (w : World) (hv : ViewAt w F p kn D) (hk : OkK kn) (hD : InvD n D)
   (h1 : w.heap[b1]? = some (.cells #[.pointer (some ⟨p,0,none⟩)] 40 (0,0))) (h2 : w.heap[b2]? = some (.cells c.arr 28 (0,0)))
   (h3 : w.heap[b3]? = some (.cells #[.func (.func 82) #[] #[.pointer (some ⟨b1,0,none⟩),.pointer (some ⟨b2,0,none⟩)]] 80 (0,0))) (n1 : ¬ F b1) (n2 : ¬ F b2) (n3 : ¬ F b3) :
   Calls Tryz.prog 83 #[.int .i64 q,.pointer (some ⟨b1,0,none⟩),.pointer (some ⟨b2,0,none⟩),.pointer (some ⟨b3,0,none⟩)] w (WentV w F p kn (fun b => .bool b) (eopenP c.pg c.st q kn D)) := by
 obtain ⟨Rr,hRr⟩ : ∃ Rr,eopenP c.pg c.st q kn D = Rr := ⟨_,rfl⟩
 rw [hRr]
 unfold eopenP at hRr
 have HRr := hQQ hRr
 have l1 := lt_of_heap h1
 have l2 := lt_of_heap h2
 have l3 := lt_of_heap h3
 have H1 := hQQ h1
 have H2 := hQQ h2
 have H3 := hQQ h3
 have c1 := (box_cells h1).1
 have HR := hQQ R
 have HH := hQQ H
 have HK := hQQ hk
 have M0 : Hid (MidV w w F (fun _ => False) p kn n D F) := hQQ (MidV.begin hv hD)
 clear h1 h2 h3 hRr R H hk hv hD
 have NEED : Hid (∀ a w2,Rr = .need a → DeadAt w2 p a → Turned (fun b => F b ∨ False) w w2 → WentV w F p kn (fun b : Bool => Value.bool b) Rr (.panicked (endOf p)) w2) := hQQ fun a w2 e hd ht => mid_need (More.refl w) (fun _ q => q.elim) e hd ht
 have DONE : Hid (∀ x w2 D' F',Rr = .ok x D' → MidV w w2 F (fun _ => False) p kn n D' F' → WentV w F p kn (fun b : Bool => Value.bool b) Rr (.returned (.bool x)) w2) := hQQ fun x w2 D' F' e h => mid_done (More.refl w) (fun _ q => q.elim) h e
 go_enter Tryz.func83,Tryz.ntmps83
 go_wp2_with fail
 refine wp_region_more_head 4 #[true,true,true,true,false,false,false,false,false,false,false] (by kernel_rfl) (by kernel_rfl) ?_
 simp only [List.take_succ_cons,List.take_zero]
 iterate 1
   with_reducible refine wpQuiet_step (fun K hK => ?_)
   go_simp
   first
   | (refine hK _ ?_; clear hK K)
   | (apply Exists.intro
      refine ⟨fun W hW => ?_,hK _ ?_⟩
      first
      | (have c1' := hW.cell c1; go_simp; try rfl)
      clear hK K)
 refine wpQuiet_load_row rfl 28 _ rfl _ rfl 28 _ _ _ (fun W hW => hW.block H2.out) Tryz.underlying28 rfl (by kernel_rfl) ?_
 iterate 1
   with_reducible refine wpQuiet_step (fun K hK => ?_)
   go_simp
   first
   | (refine hK _ ?_; clear hK K)
   | (apply Exists.intro
      refine ⟨fun W hW => ?_,hK _ ?_⟩
      first
      | (go_simp; try rfl)
      clear hK K)
 iterate 1
   with_reducible refine wpQuiet_step (fun K hK => ?_)
   go_simp
   first
   | (refine hK _ ?_; clear hK K)
   | (apply Exists.intro
      refine ⟨fun W hW => ?_,hK _ ?_⟩
      first
      | (go_at_call 85; exact (c_of q hq.1 hq.2 W).mono (fun e w'' h => ⟨h.1,by rw [h.2]; exact hW⟩))
      clear hK K)
 refine wpQuiet_nil ?_
 intro w2 m2
 have M2 := hQQ (M0.out.more m2)
 clear m2
 refine wpAny_ready (rs:=[4]) (by kernel_rfl) (by simp) ?_
 refine AllReady.cons rfl (fun K hK => ?_) AllReady.nil
 rw [if_pos (by kernel_rfl)]
 refine wp_call3 (v0:=.pointer (some ⟨p,0,none⟩)) (v1:=.agg c.arr) (v2:=.int .i64 (ofV q)) rfl rfl rfl rfl (enters_of Tryz.func84 (by kernel_rfl) rfl) ?_
 refine (c_Mapped HR.out F p kn D (ofV q) w2 M2.out.view).mono ?_
 intro e w3 he
 rcases M2.out.step (More.refl _) HK.out (good_mapped HH.out.toTblIn _) he with ⟨a',hE,rfl,hd',ht',_⟩ | ⟨x3,D3,F3,hE,rfl,M3,hq3,_,_⟩
 · exact ⟨rfl,NEED.out a' w3 (HRr.out.symm.trans (bindP_need hE)) hd' ht'⟩
 have R3 := hQQ ((bindP_ok hE).symm.trans HRr.out)
 have M3 := hQQ M3
 clear he hE
 refine hK _ _ ?_
 clear hK K
 cases x3 with
 | false =>
   have FIN := hQQ (DONE.out false w3 D3 F3 R3.out.symm M3.out)
   clear R3
   refine wpAny_take (i:=5) (v:=.bool false) rfl (by kernel_rfl) (by kernel_rfl) (by kernel_rfl) (fun _ _ _ h => h) (Or.inl ⟨by rfl,fun W => by go_simp⟩) ?_
   refine wpAny_take (i:=6) (v:=undef) rfl (by kernel_rfl) (by kernel_rfl) (by kernel_rfl) (fun _ _ _ h => h) (Or.inr ⟨by rfl,rfl⟩) ?_
   refine wpAny_take (i:=7) (v:=undef) rfl (by kernel_rfl) (by kernel_rfl) (by kernel_rfl) (fun _ _ _ h => h) (Or.inr ⟨by rfl,rfl⟩) ?_
   refine wpAny_take (i:=8) (v:=undef) rfl (by kernel_rfl) (by kernel_rfl) (by kernel_rfl) (fun _ _ _ h => h) (Or.inr ⟨by rfl,rfl⟩) ?_
   refine wpAny_take (i:=9) (v:=.bool false) rfl (by kernel_rfl) (by kernel_rfl) (by kernel_rfl) (fun _ _ _ h => h) (Or.inl ⟨by rfl,fun W => by go_simp⟩) ?_
   refine wpAny_take (i:=10) (v:=.bool false) rfl (by kernel_rfl) (by kernel_rfl) (by kernel_rfl) (fun _ _ _ h => h) (Or.inl ⟨by rfl,fun W => by go_simp⟩) ?_
   refine wpAny_done (by kernel_rfl) ?_ _
   go_wp2_with fail
   go_ret
   exact FIN.out
 | true =>
   have R3' := hQQ (show efreeP c.pg c.st q kn D3 = Rr from R3.out)
   have h1 := mid_own M3.out H1.out n1 (fun r => r)
   have h2 := mid_own M3.out H2.out n2 (fun r => r)
   have h3 := mid_own M3.out H3.out n3 (fun r => r)
   have FR := hQQ (e_free HR.out HH.out F3 p kn D3 q b1 b2 w3 M3.out.view HK.out M3.out.inv h1 h2)
   have c3 := (box_cells h3).1
   clear R3 h1 h2 h3 c1
   refine wpAny_take (i:=5) (v:=.bool true) rfl (by kernel_rfl) (by kernel_rfl) (by kernel_rfl) (fun _ _ _ h => h) (Or.inl ⟨by rfl,fun W => by go_simp⟩) ?_
   refine wpAny_take (i:=7) (v:=.int .i64 q) rfl (by kernel_rfl) (by kernel_rfl) (by kernel_rfl) (fun _ _ _ h => h) (Or.inl ⟨by rfl,fun W => by go_simp⟩) ?_
   refine wpAny_ready (rs:=[6]) (by kernel_rfl) (by simp) ?_
   refine AllReady.cons rfl (fun K hK => ?_) AllReady.nil
   rw [if_pos (by kernel_rfl)]
   go_simp
   refine hK _ _ ?_
   clear hK K
   refine wpAny_ready (rs:=[8]) (by kernel_rfl) (by simp) ?_
   refine AllReady.cons rfl (fun K hK => ?_) AllReady.nil
   rw [if_pos (by kernel_rfl)]
   refine wp_callv1 (x0:=.tmp 13) (v0:=.int .i64 q) rfl rfl rfl (enters_of Tryz.func82 (by kernel_rfl) rfl) ?_
   refine FR.out.mono ?_
   intro e w4 he
   rcases M3.out.step (More.refl _) HK.out (good_free HH.out q) he with ⟨a',hE,rfl,hd',ht',_⟩ | ⟨x4,D4,F4,hE,rfl,M4,hq4,_,_⟩
   · exact ⟨rfl,NEED.out a' w4 (R3'.out.symm.trans hE) hd' ht'⟩
   have FIN := hQQ (DONE.out x4 w4 D4 F4 (R3'.out.symm.trans hE) M4)
   clear he hE M4
   refine hK _ _ ?_
   clear hK K
   refine wpAny_take (i:=9) (v:=.bool x4) rfl (by kernel_rfl) (by kernel_rfl) (by kernel_rfl) (fun _ _ _ h => h) (Or.inl ⟨by rfl,fun W => by go_simp⟩) ?_
   refine wpAny_take (i:=10) (v:=.bool x4) rfl (by kernel_rfl) (by kernel_rfl) (by kernel_rfl) (fun _ _ _ h => h) (Or.inl ⟨by rfl,fun W => by go_simp⟩) ?_
   refine wpAny_done (by kernel_rfl) ?_ _
   go_wp2_with fail
   go_ret
   exact FIN.out
theorem good_seekN2 {pg st : Int} {n : Nat} (H : PgIn pg st n) {f : Int → Prg Bool} (hf : ∀ q,Good n (fun _ => True) (f q)) (m step : Int) (hm : 1 ≤ m) (hs : 1 ≤ step) : Good n (fun x : Int => -1 ≤ x ∧ x < pg) (eleastP f pg m step) := good_seekN H hf m step hm hs _ 0 (by omega)
theorem e_Find {c : Cfg} (R : c.Ok) {n : Nat} (H : PgIn c.pg c.st n) (F : Nat → Prop) (p : Nat) (kn : Int → Option Int) (D : List KV) (m step : Int) (hm : W64 m) (hs : W64 step) (w : World) (hv : ViewAt w F p kn D) (hk : OkK kn) (hD : InvD n D) :
   Calls Tryz.prog 60 #[.pointer (some ⟨p,0,none⟩),.agg c.arr,.int .i64 m,.int .i64 step] w (WentV w F p kn (fun x => .int .i64 x) (efindP c.pg c.st m step kn D)) := by
 obtain ⟨Rr,hRr⟩ : ∃ Rr,efindP c.pg c.st m step kn D = Rr := ⟨_,rfl⟩
 rw [hRr]
 obtain ⟨w1,e1,hb1,hb2,m1,s1⟩ := entry2 w (.cells #[.pointer (some ⟨p,0,none⟩)] 40) (.cells c.arr 28)
 obtain ⟨w2,e2,hb3,m2,s2⟩ := entry1 w1 (.cells #[.nilFunc] 80)
 rw [s1] at hb3
 unfold efindP at hRr
 have hfw := hv.lt
 unfold W64 at hm hs
 by_cases a0 : m < 1
 · have d0 : decide (m < 1) = true := by simp [a0]
   rw [if_neg (by omega)] at hRr
   have FIN : Hid (WentV w F p kn (fun x : Int => Value.int .i64 x) Rr (.returned (.int .i64 (-1))) w1) := hQQ (mid_done (S:=fun _ => False) m1 (fun _ q => q.elim) (MidV.begin (hv.more m1) hD) hRr.symm)
   clear hRr hb1 hb2 hb3 e2 m1 m2 hv hD
   go_enter Tryz.func60,Tryz.ntmps60
   go_wp2_with fail
   go_ret
   exact FIN.out
 have d0 : decide (m < 1) = false := by simp; omega
 by_cases a1 : step < 1
 · have d1 : decide (step < 1) = true := by simp [a1]
   rw [if_neg (by omega)] at hRr
   have FIN : Hid (WentV w F p kn (fun x : Int => Value.int .i64 x) Rr (.returned (.int .i64 (-1))) w1) := hQQ (mid_done (S:=fun _ => False) m1 (fun _ q => q.elim) (MidV.begin (hv.more m1) hD) hRr.symm)
   clear hRr hb1 hb2 hb3 e2 m1 m2 hv hD
   go_enter Tryz.func60,Tryz.ntmps60
   go_wp2_with fail
   go_ret
   exact FIN.out
 have d1 : decide (step < 1) = false := by simp; omega
 rw [if_pos ⟨by omega,by omega⟩] at hRr
 obtain ⟨c3,f3,l3⟩ := box_cells hb3
 have hb3' : (w2.setCell ⟨w.heap.size + 2,0,none⟩ (.func (.func 82) #[] #[.pointer (some ⟨w.heap.size,0,none⟩),.pointer (some ⟨w.heap.size + 1,0,none⟩)])).heap[w.heap.size + 2]? = _ := setCell_one hb3 _
 have t23 : Turned (fun b => b = w.heap.size + 2) w2 (w2.setCell ⟨w.heap.size + 2,0,none⟩ (.func (.func 82) #[] #[.pointer (some ⟨w.heap.size,0,none⟩),.pointer (some ⟨w.heap.size + 1,0,none⟩)])) := Turned.setCell (Turned.refl _ w2) ⟨w.heap.size + 2,0,none⟩ _ (fun _ => rfl)
 have T23 := hQQ t23
 have B3 := hQQ hb3'
 have B1 := hQQ (m2.block hb1)
 have B2 := hQQ (m2.block hb2)
 have M12 := hQQ (m1.trans m2)
 have HV := hQQ hv
 have HDD := hQQ hD
 have HRr := hQQ hRr
 clear hRr hb1 hb2 hb3 m1 m2 hv hD hb3' t23
 go_enter Tryz.func60,Tryz.ntmps60
 have rst := run_store Tryz.prog w2 ⟨w.heap.size + 2,0,none⟩ (.func (.func 82) #[] #[.pointer (some ⟨w.heap.size,0,none⟩),.pointer (some ⟨w.heap.size + 1,0,none⟩)]) .plain rfl
 go_wp2_with (refine wpList_load_row rfl 28 _ rfl (w.heap.size + 1) rfl 28 _ _ _ (by have := T23.out.block (w.heap.size + 1) (lt_of_heap B2.out) (by omega); exact this.trans B2.out) Tryz.underlying28 rfl (by kernel_rfl) ?_)
 have h1 := (T23.out.block w.heap.size (lt_of_heap B1.out) (by omega)).trans B1.out
 have h2 := (T23.out.block (w.heap.size + 1) (lt_of_heap B2.out) (by omega)).trans B2.out
 have h3 := B3.out
 have m3 : More w (w2.setCell ⟨w.heap.size + 2,0,none⟩ (.func (.func 82) #[] #[.pointer (some ⟨w.heap.size,0,none⟩),.pointer (some ⟨w.heap.size + 1,0,none⟩)])) := Turned.mono (turned_own (F:=fun _ => False) M12.out T23.out (fun b e => .inr (by omega))) (fun _ _ q => q)
 generalize w2.setCell ⟨w.heap.size + 2,0,none⟩ (.func (.func 82) #[] #[.pointer (some ⟨w.heap.size,0,none⟩),.pointer (some ⟨w.heap.size + 1,0,none⟩)]) = w3 at h1 h2 h3 m3 ⊢
 have hv3 := HV.out.more m3
 have HH := hQQ H
 have HR := hQQ R
 have HK := hQQ hk
 have H1 := hQQ h1
 have H2 := hQQ h2
 have H3 := hQQ h3
 have M3 := hQQ m3
 have l1 := lt_of_heap h1
 have l2 := lt_of_heap h2
 have l3 := lt_of_heap h3
 have M0 : Hid (MidV w3 w3 F (fun _ => False) p kn n D F) := hQQ (MidV.begin hv3 HDD.out)
 have nF : ∀ b,w.heap.size ≤ b → ¬ F b := fun b hb q => by have := hfw b q; omega
 have KEEP : Hid (∀ wr D' F',MidV w3 wr F (fun _ => False) p kn n D' F' → wr.heap[w.heap.size]? = some (.cells #[.pointer (some ⟨p,0,none⟩)] 40 (0,0)) ∧ wr.heap[w.heap.size + 1]? = some (.cells c.arr 28 (0,0)) ∧ wr.heap[w.heap.size + 2]? = some (.cells #[(.func (.func 82) #[] #[.pointer (some ⟨w.heap.size,0,none⟩),.pointer (some ⟨w.heap.size + 1,0,none⟩)])] 80 (0,0))) := hQQ fun wr D' F' h =>
   ⟨mid_own h H1.out (nF _ (by omega)) (fun q => q),mid_own h H2.out (nF _ (by omega)) (fun q => q),mid_own h H3.out (nF _ (by omega)) (fun q => q)⟩
 have NEED : Hid (∀ a w2,Rr = .need a → DeadAt w2 p a → Turned (fun b => F b ∨ False) w3 w2 → WentV w F p kn (fun x : Int => Value.int .i64 x) Rr (.panicked (endOf p)) w2) := hQQ fun a w2 e hd ht => mid_need M3.out (fun _ q => q.elim) e hd ht
 have DONE : Hid (∀ x w2 D' F',Rr = .ok x D' → MidV w3 w2 F (fun _ => False) p kn n D' F' → WentV w F p kn (fun x : Int => Value.int .i64 x) Rr (.returned (.int .i64 x)) w2) := hQQ fun x w2 D' F' e h => mid_done M3.out (fun _ q => q.elim) h e
 have NN : ∀ (w0 wr : World) (F' : Nat → Prop) (b : Nat),w.heap.size ≤ b → b < w0.heap.size → (∀ k,F' k → F k ∨ w0.heap.size ≤ k) → ¬ F' b := fun w0 wr F' b hb hl hn q => by
   rcases hn b q with r | r
   · exact nF b hb r
   · omega
 have LO := e_least HR.out HH.out F p kn D m step (by omega) (by omega) (by omega) (by omega) 83 #[.pointer (some ⟨w.heap.size,0,none⟩),.pointer (some ⟨w.heap.size + 1,0,none⟩),.pointer (some ⟨w.heap.size + 2,0,none⟩)] (eopenP c.pg c.st) w3 hv3 HK.out HDD.out (good_open HH.out) (enters_of Tryz.func83 (by kernel_rfl) rfl)
   (fun wr D' F' q t hn hv' hD' hq => e_open HR.out HH.out F' p kn D' q hq w.heap.size (w.heap.size + 1) (w.heap.size + 2) wr hv' HK.out hD' ((t.block _ l1 (nF _ (by omega))).trans H1.out) ((t.block _ l2 (nF _ (by omega))).trans H2.out) ((t.block _ l3 (nF _ (by omega))).trans H3.out) (NN w3 wr F' _ (by omega) l1 hn) (NN w3 wr F' _ (by omega) l2 hn) (NN w3 wr F' _ (by omega) l3 hn))
 have LF := hQQ (fun (w4 : World) (D4 : List KV) (F4 : Nat → Prop) (M4 : MidV w3 w4 F (fun _ => False) p kn n D4 F4) => e_least HR.out HH.out F4 p kn D4 m step (by omega) (by omega) (by omega) (by omega) 82 #[.pointer (some ⟨w.heap.size,0,none⟩),.pointer (some ⟨w.heap.size + 1,0,none⟩)] (efreeP c.pg c.st) w4 M4.view HK.out M4.inv (good_free HH.out) (enters_of Tryz.func82 (by kernel_rfl) rfl)
   (fun wr D' F' q t hn hv' hD' hq => e_free HR.out HH.out F' p kn D' q w.heap.size (w.heap.size + 1) wr hv' HK.out hD' ((t.block _ (Nat.lt_of_lt_of_le l1 M4.size) (M4.off l1 (nF _ (by omega)))).trans (KEEP.out _ _ _ M4).1) ((t.block _ (Nat.lt_of_lt_of_le l2 M4.size) (M4.off l2 (nF _ (by omega)))).trans (KEEP.out _ _ _ M4).2.1)))
 have LO := hQQ LO
 clear h1 h2 h3 m3 hv3 hm hs R H hk T23 c3 f3 l3 rst e1 e2 NN nF
 go_wp2_with fail
 refine LO.out.mono ?_
 intro e w4 he
 rcases M0.out.step (More.refl _) HK.out (good_seekN2 HH.out (good_open HH.out) m step a0 a1) he with ⟨a',hE,rfl,hd',ht',_⟩ | ⟨x4,D4,F4,hE,rfl,M4,hq4,_,_⟩
 · exact ⟨rfl,NEED.out a' w4 (HRr.out.symm.trans (bindP_need hE)) hd' ht'⟩
 have R4 := (bindP_ok hE).symm.trans HRr.out
 have K4 := KEEP.out _ _ _ M4
 have K42 := hQQ K4.2.1
 have c9 := (box_cells K4.2.2).1
 have M4 := hQQ M4
 clear he hE LO K4
 by_cases z : x4 = -1
 · rw [if_pos z] at R4
   have e4 : (x4 != -1) = false := by simp [z]
   have LL4 := hQQ (LF.out w4 D4 F4 M4.out)
   have R4 := hQQ R4
   clear z LF
   go_wp2_with (refine wpList_load_rowG rfl 28 _ rfl _ rfl 28 _ _ _ K42.out Tryz.underlying28 rfl (by kernel_rfl) ?_)
   refine LL4.out.mono ?_
   intro e w5 he
   rcases M4.out.step (More.refl _) HK.out (good_seekN2 HH.out (good_free HH.out) m step a0 a1) he with ⟨a',hE,rfl,hd',ht',_⟩ | ⟨x5,D5,F5,hE,rfl,M5,hq5,_,_⟩
   · exact ⟨rfl,NEED.out a' w5 (R4.out.symm.trans hE) hd' ht'⟩
   have FIN := hQQ (DONE.out x5 w5 D5 F5 (R4.out.symm.trans hE) M5)
   clear he hE M5
   go_wp2_with fail
   go_ret
   exact FIN.out
 · rw [if_neg z] at R4
   have e4 : (x4 != -1) = true := by simp [z]
   have FIN := hQQ (DONE.out x4 w4 D4 F4 R4.symm M4.out)
   clear z LF R4 c9
   go_wp2_with fail
   go_ret
   exact FIN.out
def pgArr (c : Cfg) (p : Nat) (q k : Int) : Array Value := (Value.pointer (some ⟨p,0,none⟩) :: (c.arr.toList ++ [.int .i64 q,.int .i64 k])).toArray
theorem arr_len (c : Cfg) : c.arr.toList.length = 24 := rfl
theorem pg_v (c : Cfg) (p : Nat) (q k : Int) : (pgArr c p q k)[0]? = some (.pointer (some ⟨p,0,none⟩)) := by simp [pgArr]
theorem pg_n (c : Cfg) (p : Nat) (q k : Int) : (pgArr c p q k)[25]? = some (.int .i64 q) := by
 have h := arr_len c
 unfold pgArr
 generalize c.arr.toList = l at h ⊢
 rw [List.getElem?_toArray,show (25 : Nat) = 24 + 1 from rfl,List.getElem?_cons_succ,List.getElem?_append_right (by omega),h]
 rfl
theorem pg_c (c : Cfg) (p : Nat) (q k : Int) : (pgArr c p q k)[26]? = some (.int .i64 k) := by
 have h := arr_len c
 unfold pgArr
 generalize c.arr.toList = l at h ⊢
 rw [List.getElem?_toArray,show (26 : Nat) = 25 + 1 from rfl,List.getElem?_cons_succ,List.getElem?_append_right (by omega),h]
 rfl
theorem pg_part (c : Cfg) (p : Nat) (q k : Int) : ∀ j,j < c.arr.size → (pgArr c p q k)[1 + j]? = c.arr[j]? := fun j hj => by
 have hj : j < c.arr.toList.length := by simpa using hj
 rw [← Array.getElem?_toList (xs:=c.arr)]
 unfold pgArr
 generalize c.arr.toList = l at hj ⊢
 rw [List.getElem?_toArray,Nat.add_comm,List.getElem?_cons_succ,List.getElem?_append_left hj]
theorem run_loadVar_sub {P : Program} (w : World) (g off : Nat) (t ty : TypeId) (cs hs : Array Value) (fr : Nat × Nat) (d : TypeDesc) (hg : w.heap[g]? = some (.cells cs t fr)) (hc : ∀ j,j < hs.size → cs[off + j]? = hs[j]?)
   (hu : P.underlying ty = some d) (hd : (match d with | .struct _ | .array _ _ => true | _ => false) = true) (hi : (P.info? ty).map (·.size) = some hs.size) :
   (loadVar ty ⟨g,off,none⟩).run P w = .ok (.agg hs) w := by
 have hl : (loadCells ⟨g,off,none⟩ hs.toList.length).run P w = .ok hs.toList.toArray w :=
   run_loadCells_list (P:=P) w ⟨g,off,none⟩ hs.toList (fun j v hv => by
     have hj : j < hs.size := by have := (List.getElem?_eq_some_iff.1 hv).1; simpa using this
     rw [addr_add,cell_of_row w g (off + j) cs t fr hg,hc j hj]
     simpa using hv)
 cases hq : P.info? ty with
 | none => simp [hq] at hi
 | some i =>
   have hs : i.size = hs.size := by simpa [hq] using hi
   have hagg : (isAgg ty).run P w = .ok true w := by
     unfold isAgg
     rw [Sem.run_bind,run_underlying hu w]
     cases d <;> simp_all
   simp only [Array.length_toList,Array.toArray_toList] at hl
   simp [loadVar,Sem.run_bind,hagg,sizeOf,typeInfo,hq,hs,hl]
theorem wpQuiet_load_sub {P : Program} {ops : Array Oper} {a : Act} {o : Oper} {rest : List Oper} {C : World → Prop} {Q : Act → Prop} (hw : Region.wanted o (yielded ops a.tmps) = true) (ty : TypeId) (x : Operand) (ho : o.op = .load ty x)
   (g off : Nat) (hx : a.eval x = .pointer (some ⟨g,off,none⟩)) (t : TypeId) (cs hs : Array Value) (fr : Nat × Nat) (d : TypeDesc) (hg : ∀ W,C W → W.heap[g]? = some (.cells cs t fr)) (hc : ∀ j,j < hs.size → cs[off + j]? = hs[j]?)
   (hu : P.underlying ty = some d) (hd : (match d with | .struct _ | .array _ _ => true | _ => false) = true) (hi : (P.info? ty).map (·.size) = some hs.size)
   (h : wpQuiet P ops C Q rest (a.put o.dst (.agg hs))) : wpQuiet P ops C Q (o :: rest) a := by
 refine wpQuiet_do (.agg hs) hw (fun W hW => ?_) h
 unfold Oper.quietAt execOp
 simp only [ho,hx,Instr.loadAt,Instr.sureAddr,Sem.run_bind,Sem.run_pure,Result.andThen_ok,run_loadVar_sub W g off t ty cs hs fr d (hg W hW) hc hu hd hi]
 exact ⟨rfl,rfl⟩
theorem wpList_load_sub {P : Program} {ops : Array Oper} {rest : List Oper} {o : Oper} {a : Act} {w : World} {Q : Exit → Act → World → Prop} (hw : Region.wanted o (yielded ops a.tmps) = true) (ty : TypeId) (x : Operand) (ho : o.op = .load ty x)
   (g off : Nat) (hx : a.eval x = .pointer (some ⟨g,off,none⟩)) (t : TypeId) (cs hs : Array Value) (fr : Nat × Nat) (d : TypeDesc) (hg : w.heap[g]? = some (.cells cs t fr)) (hc : ∀ j,j < hs.size → cs[off + j]? = hs[j]?)
   (hu : P.underlying ty = some d) (hd : (match d with | .struct _ | .array _ _ => true | _ => false) = true) (hi : (P.info? ty).map (·.size) = some hs.size)
   (h : wpList P ops Q rest (a.put o.dst (.agg hs)) w) : wpList P ops Q (o :: rest) a w :=
 wpList_wanted hw fun K hK => by
   unfold Oper.wp Oper.upon execOp
   simp only [ho,hx,Instr.loadAt,Instr.sureAddr,Sem.run_bind,Sem.run_pure,Result.andThen_ok,run_loadVar_sub w g off t ty cs hs fr d hg hc hu hd hi]
   exact hK _ _ h
theorem g_bitsA {c : Cfg} (R : c.Ok) (w : World) (q : Int) : Calls Tryz.prog 11 #[.agg c.arr,.int .i64 q] w (Gives w (.int .i64 (pageV c.pg c.st 2 q))) := xbits R w q
theorem g_countA {c : Cfg} (R : c.Ok) (w : World) (q : Int) : Calls Tryz.prog 69 #[.agg c.arr,.int .i64 q] w (Gives w (.int .i64 (pageV c.pg c.st 1 q))) := xcount R w q
theorem g_bits {c : Cfg} (R : c.Ok) {n : Nat} (H : PgIn c.pg c.st n) (F : Nat → Prop) (p : Nat) (kn : Int → Option Int) (D : List KV) (q k : Int) (hn : n ≤ 10000) (hq : isPage c.pg q = true) (w : World) (hv : ViewAt w F p kn D) (hk : OkK kn) (hD : InvD n D) :
   Calls Tryz.prog 37 #[.agg (pgArr c p q k)] w (WentV w F p kn (fun x => .int .i64 x) (readP (bA c.pg c.st q) kn D)) := by
 obtain ⟨Rr,hRr⟩ : ∃ Rr,readP (bA c.pg c.st q) kn D = Rr := ⟨_,rfl⟩
 rw [hRr]
 obtain ⟨w1,e1,hl1,m1,s1⟩ := entry1 w (.cells (pgArr c p q k) 74)
 have MM := hQQ m1
 have L0 := hQQ hl1
 have c0 := (show w1.cell? ⟨w.heap.size,0,none⟩ = some (.pointer (some ⟨p,0,none⟩)) by rw [cell_of_row w1 _ _ _ _ _ hl1]; exact pg_v c p q k)
 have c25 := (show w1.cell? ⟨w.heap.size,25,none⟩ = some (.int .i64 q) by rw [cell_of_row w1 _ _ _ _ _ hl1]; exact pg_n c p q k)
 have c26 := (show w1.cell? ⟨w.heap.size,26,none⟩ = some (.int .i64 k) by rw [cell_of_row w1 _ _ _ _ _ hl1]; exact pg_c c p q k)
 have nFl : ¬ F w.heap.size := fun z => by have := hv.lt _ z; omega
 have M0 : Hid (MidV w1 w1 F (fun _ => False) p kn n D F) := hQQ (MidV.begin (hv.more m1) hD)
 have NEED : Hid (∀ a w2,Rr = .need a → DeadAt w2 p a → Turned (fun b => F b ∨ False) w1 w2 → WentV w F p kn (fun x : Int => Value.int .i64 x) Rr (.panicked (endOf p)) w2) := hQQ fun a w2 e hd ht => mid_need MM.out (fun _ q => q.elim) e hd ht
 have DONE : Hid (∀ x w2 D' F',Rr = .ok x D' → MidV w1 w2 F (fun _ => False) p kn n D' F' → WentV w F p kn (fun x : Int => Value.int .i64 x) Rr (.returned ((fun x : Int => Value.int .i64 x) x)) w2) := hQQ fun x w2 D' F' e h => mid_done MM.out (fun _ q => q.elim) h e
 have HK := hQQ hk
 have HR := hQQ R
 clear hl1 m1 hv hD hk R nFl
 have hb := (page_b H hq).2.2
 have YB := hQQ (fun W => by have := g_bitsA HR.out W q; rw [page2 hq] at this; exact this)
 have HRr := hQQ hRr
 have HB := hQQ hb
 have pg2 := HR.out.pg2
 clear hRr hb hq
 go_enter Tryz.func37,Tryz.ntmps37
 go_wp2_with fail
 clear e1
 refine wp_region_more_tail 7 (by kernel_rfl) (by kernel_rfl) ?_
 simp only [List.take_succ_cons,List.take_zero,List.drop_succ_cons,List.drop_zero]
 iterate 3
   with_reducible refine wpQuiet_step (fun K hK => ?_)
   go_simp
   first
   | (refine hK _ ?_; clear hK K)
   | (apply Exists.intro
      refine ⟨fun W hW => ?_,hK _ ?_⟩
      first
      | (have c1' := hW.cell c0; go_simp; try rfl)
      clear hK K)
 refine wpQuiet_load_sub rfl 28 _ rfl w.heap.size 1 rfl 74 _ c.arr _ _ (fun W hW => hW.block L0.out) (pg_part c p q k) Tryz.underlying28 rfl (by kernel_rfl) ?_
 iterate 2
   with_reducible refine wpQuiet_step (fun K hK => ?_)
   go_simp
   first
   | (refine hK _ ?_; clear hK K)
   | (apply Exists.intro
      refine ⟨fun W hW => ?_,hK _ ?_⟩
      first
      | (have c1' := hW.cell c25; go_simp; try rfl)
      clear hK K)
 iterate 1
   with_reducible refine wpQuiet_step (fun K hK => ?_)
   go_simp
   first
   | (refine hK _ ?_; clear hK K)
   | (apply Exists.intro
      refine ⟨fun W hW => ?_,hK _ ?_⟩
      first
      | (go_at_call 11; exact Calls.more hW (YB.out W))
      | (go_simp; try rfl)
      clear hK K)
 refine wpQuiet_nil ?_
 intro w2 h2
 have M2 := hQQ (M0.out.more h2)
 clear h2 c0 c25 c26
 go_wp2_with fail
 refine (read_any F p kn D (bA c.pg c.st q) w2 M2.out.view (by have := HB.out; have := M2.out.inv.len; unfold W64; omega)).mono ?_
 intro e w3 he
 rcases M2.out.step (More.refl _) HK.out (good_read n HB.out.2.1) he with ⟨a',hE,rfl,hd',ht',_⟩ | ⟨x3,D3,F3,hE,rfl,M3,hq3,_,_⟩
 · exact ⟨rfl,NEED.out a' w3 (HRr.out.symm.trans hE) hd' ht'⟩
 have FIN := hQQ (DONE.out x3 w3 D3 F3 (HRr.out.symm.trans hE) M3)
 clear he hE M3
 go_wp2_with fail
 go_ret
 exact FIN.out
theorem g_bitsK {c : Cfg} (R : c.Ok) {n : Nat} (H : PgIn c.pg c.st n) (F : Nat → Prop) (p : Nat) (kn : Int → Option Int) (D : List KV) (q k b : Int) (hn : n ≤ 10000) (hq : isPage c.pg q = true) (w : World) (hv : ViewAt w F p kn D) (hb : wordV kn D (bA c.pg c.st q) = some b) :
   Calls Tryz.prog 37 #[.agg (pgArr c p q k)] w (Gives w (.int .i64 b)) := by
 obtain ⟨w1,e1,hl1,m1,s1⟩ := entry1 w (.cells (pgArr c p q k) 74)
 have MM := hQQ m1
 have L0 := hQQ hl1
 have c0 := (show w1.cell? ⟨w.heap.size,0,none⟩ = some (.pointer (some ⟨p,0,none⟩)) by rw [cell_of_row w1 _ _ _ _ _ hl1]; exact pg_v c p q k)
 have c25 := (show w1.cell? ⟨w.heap.size,25,none⟩ = some (.int .i64 q) by rw [cell_of_row w1 _ _ _ _ _ hl1]; exact pg_n c p q k)
 have c26 := (show w1.cell? ⟨w.heap.size,26,none⟩ = some (.int .i64 k) by rw [cell_of_row w1 _ _ _ _ _ hl1]; exact pg_c c p q k)
 have YB := hQQ (fun W => by have := g_bitsA R W q; rw [page2 hq] at this; exact this)
 have HV : Hid (∀ W,More w1 W → ViewAt W F p kn D) := hQQ fun W m => (hv.more m1).more m
 have HB := hQQ hb
 have PB := hQQ (page_b H hq).2.2
 clear hl1 m1 hv hb R H hq
 go_enter Tryz.func37,Tryz.ntmps37
 go_wp2_with fail
 clear e1
 refine wp_region_more_tail 7 (by kernel_rfl) (by kernel_rfl) ?_
 simp only [List.take_succ_cons,List.take_zero,List.drop_succ_cons,List.drop_zero]
 iterate 3
   with_reducible refine wpQuiet_step (fun K hK => ?_)
   go_simp
   first
   | (refine hK _ ?_; clear hK K)
   | (apply Exists.intro
      refine ⟨fun W hW => ?_,hK _ ?_⟩
      first
      | (have c1' := hW.cell c0; go_simp; try rfl)
      clear hK K)
 refine wpQuiet_load_sub rfl 28 _ rfl w.heap.size 1 rfl 74 _ c.arr _ _ (fun W hW => hW.block L0.out) (pg_part c p q k) Tryz.underlying28 rfl (by kernel_rfl) ?_
 iterate 2
   with_reducible refine wpQuiet_step (fun K hK => ?_)
   go_simp
   first
   | (refine hK _ ?_; clear hK K)
   | (apply Exists.intro
      refine ⟨fun W hW => ?_,hK _ ?_⟩
      first
      | (have c1' := hW.cell c25; go_simp; try rfl)
      clear hK K)
 iterate 1
   with_reducible refine wpQuiet_step (fun K hK => ?_)
   go_simp
   first
   | (refine hK _ ?_; clear hK K)
   | (apply Exists.intro
      refine ⟨fun W hW => ?_,hK _ ?_⟩
      first
      | (go_at_call 11; exact Calls.more hW (YB.out W))
      | (go_simp; try rfl)
      clear hK K)
 refine wpQuiet_nil ?_
 intro w2 h2
 have M2 := hQQ h2
 clear h2 c0 c25 c26
 go_wp2_with fail
 refine (read_some F p kn D _ b w2 (HV.out _ M2.out) (by have := PB.out; unfold W64; omega) HB.out).mono ?_
 rintro e w3 ⟨rfl,m,rfl⟩
 have FIN := hQQ ((MM.out.trans M2.out).drewN m)
 go_wp2_with fail
 go_ret
 exact ⟨rfl,FIN.out⟩
theorem gd_count {c : Cfg} (R : c.Ok) (p : Nat) (nd q k : Int) (w : World) (hd : DeadAt w p nd) :
   Calls Tryz.prog 63 #[.agg (pgArr c p q k)] w (Gives w (.int .i64 0)) := by
 obtain ⟨w1,e1,hl1,m1,s1⟩ := entry1 w (.cells (pgArr c p q k) 74)
 have MM := hQQ m1
 have L0 := hQQ hl1
 have c0 := (show w1.cell? ⟨w.heap.size,0,none⟩ = some (.pointer (some ⟨p,0,none⟩)) by rw [cell_of_row w1 _ _ _ _ _ hl1]; exact pg_v c p q k)
 have c25 := (show w1.cell? ⟨w.heap.size,25,none⟩ = some (.int .i64 q) by rw [cell_of_row w1 _ _ _ _ _ hl1]; exact pg_n c p q k)
 have c26 := (show w1.cell? ⟨w.heap.size,26,none⟩ = some (.int .i64 k) by rw [cell_of_row w1 _ _ _ _ _ hl1]; exact pg_c c p q k)
 have YB := hQQ (fun W => g_countA R W q)
 have DD : Hid (∀ W,More w1 W → DeadAt W p nd) := hQQ fun W m => (hd.keep m1 (fun q => q)).keep m (fun q => q)
 clear hl1 m1 hd R
 go_enter Tryz.func63,Tryz.ntmps63
 go_wp2_with fail
 clear e1
 refine wp_region_more_tail 7 (by kernel_rfl) (by kernel_rfl) ?_
 simp only [List.take_succ_cons,List.take_zero,List.drop_succ_cons,List.drop_zero]
 iterate 3
   with_reducible refine wpQuiet_step (fun K hK => ?_)
   go_simp
   first
   | (refine hK _ ?_; clear hK K)
   | (apply Exists.intro
      refine ⟨fun W hW => ?_,hK _ ?_⟩
      first
      | (have c1' := hW.cell c0; go_simp; try rfl)
      clear hK K)
 refine wpQuiet_load_sub rfl 28 _ rfl w.heap.size 1 rfl 74 _ c.arr _ _ (fun W hW => hW.block L0.out) (pg_part c p q k) Tryz.underlying28 rfl (by kernel_rfl) ?_
 iterate 2
   with_reducible refine wpQuiet_step (fun K hK => ?_)
   go_simp
   first
   | (refine hK _ ?_; clear hK K)
   | (apply Exists.intro
      refine ⟨fun W hW => ?_,hK _ ?_⟩
      first
      | (have c1' := hW.cell c25; go_simp; try rfl)
      clear hK K)
 iterate 1
   with_reducible refine wpQuiet_step (fun K hK => ?_)
   go_simp
   first
   | (refine hK _ ?_; clear hK K)
   | (apply Exists.intro
      refine ⟨fun W hW => ?_,hK _ ?_⟩
      first
      | (go_at_call 69; exact Calls.more hW (YB.out W))
      | (go_simp; try rfl)
      clear hK K)
 refine wpQuiet_nil ?_
 intro w2 h2
 have M2 := hQQ h2
 clear h2 c0 c25 c26
 go_wp2_with fail
 refine (read_dead p nd _ w2 (DD.out _ M2.out)).mono ?_
 rintro e w3 ⟨rfl,rfl⟩
 go_wp2_with fail
 go_ret
 exact ⟨rfl,MM.out.trans M2.out⟩
end Go.Proofs.YtmafllcmkhgidaaGreatDoor
