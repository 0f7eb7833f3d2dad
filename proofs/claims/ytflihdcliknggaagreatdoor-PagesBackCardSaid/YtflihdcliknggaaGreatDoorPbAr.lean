/-
  The landed package pages: Free.
-/
import Derived.Test.YtflihdcliknggaaGreatDoorPbAq
import Derived.Test.YtflihdcliknggaaGreatDoorPbAj
set_option maxRecDepth 100000
set_option maxHeartbeats 8000000
set_option linter.unusedVariables false
set_option linter.unusedSimpArgs false
set_option linter.unusedSectionVars false
namespace Go.Proofs.YtflihdcliknggaaGreatDoor
open Go.RowKit Go.Sort Go.Maps Go.Shelf
theorem cnt_b (b k : Int) : 0 ≤ slCountV b (slotsC k) ∧ slCountV b (slotsC k) ≤ 32 ∧ 0 ≤ openV k b ∧ openV k b ≤ 32 := by
 have h := sumC_b (cameUpTo b (endN (slotsC k)))
 rw [sumC_all,came_length] at h
 have hs := slots_in k
 have he : (endN (slotsC k) : Int) = slotsC k := by unfold endN; omega
 unfold openV
 omega
theorem g_openV (c : Cfg) (p : Nat) (q k b : Int) {bt : Nat} (w : World) (h : SzAt bt w) (hb : 0 ≤ slCountV b (slotsC k) ∧ slCountV b (slotsC k) ≤ 32) : Calls Tryz.prog 63 #[.agg (pgArr c p q k),.int .i64 b] w (Gives w (.int .i64 (openV k b))) := g_open c p q k b w h hb
def freeN (pg st k : Int) : Nat → Int → Int → Prg Int
 | 0,_,s => pureP s
 | m + 1,q,s => bindP (ekindP pg st q) fun x => if x = k + 1 then bindP (readP (bA pg st q)) fun b => freeN pg st k m (q + 1) (s + openV k b) else freeN pg st k m (q + 1) s
def freeP (pg st k : Int) : Prg Int := if slotsC k = 0 then pureP 0 else freeN pg st k pg.toNat 0 0
theorem g_Free {c : Cfg} (R : c.Ok) {n : Nat} (H : HdIn c.pg c.st n) (hn : n ≤ 10000) (F : Nat → Prop) (p : Nat) (kn : Int → Option Int) (D : List KV) (k : Int) (w : World) (hv : ViewAt w F p kn D) (hk : OkK kn) (hD : InvD n D) (bt : Nat) (hs : SzAt bt w) (nF0 : ¬ F 0) (nFb : ¬ F bt) :
   Calls Tryz.prog 29 #[.pointer (some ⟨p,0,none⟩),.agg c.arr,.int .i64 k] w (WentV w F p kn (fun x => .int .i64 x) (freeP c.pg c.st k kn D)) := by
 obtain ⟨Rr,hRr⟩ : ∃ Rr,freeP c.pg c.st k kn D = Rr := ⟨_,rfl⟩
 rw [hRr]
 obtain ⟨w1,e1,hl1,m1,s1⟩ := entry1 w (.cells c.arr 28)
 have nFl : ¬ F w.heap.size := fun q => by have := hv.lt _ q; omega
 have MM := hQQ m1
 have L0 := hQQ hl1
 have M0 : Hid (MidV w1 w1 F (fun _ => False) p kn n D F) := hQQ (MidV.begin (hv.more m1) hD)
 have KL : Hid (∀ wr D' F',MidV w1 wr F (fun _ => False) p kn n D' F' → wr.heap[w.heap.size]? = some (.cells c.arr 28 (0,0))) := hQQ fun wr D' F' h => mid_own h L0.out nFl (fun q => q)
 have NEED : Hid (∀ a w2,Rr = .need a → DeadAt w2 p a → Turned (fun b => F b ∨ False) w1 w2 → WentV w F p kn (fun x : Int => Value.int .i64 x) Rr (.panicked (endOf p)) w2) := hQQ fun a w2 e hd ht => mid_need MM.out (fun _ q => q.elim) e hd ht
 have DONE : Hid (∀ x w2 D' F',Rr = .ok x D' → MidV w1 w2 F (fun _ => False) p kn n D' F' → WentV w F p kn (fun x : Int => Value.int .i64 x) Rr (.returned ((fun x : Int => Value.int .i64 x) x)) w2) := hQQ fun x w2 D' F' e h => mid_done MM.out (fun _ q => q.elim) h e
 have HK := hQQ hk
 have HR := hQQ R
 have HH := hQQ H
 clear hl1 m1 hv hD hk R H nFl
 have SZ : Hid (∀ wr D' F',MidV w1 wr F (fun _ => False) p kn n D' F' → SzAt bt wr) := hQQ fun wr D' F' h => (hs.more MM.out).keep h.turn (by rintro (q | q); exact nF0 q; exact q) (by rintro (q | q); exact nFb q; exact q)
 unfold freeP at hRr
 have pg1 := HR.out.pg1
 have pg2 := HR.out.pg2
 have hfl := field_pages c
 clear hs nF0 nFb
 go_enter Tryz.func29,Tryz.ntmps29
 go_wp2_with fail
 refine (g_there k w1 (SZ.out _ _ _ M0.out)).mono ?_
 rintro e w2 ⟨rfl,h2⟩
 have M2 := hQQ (M0.out.more h2)
 have L2 := hQQ (KL.out _ _ _ M2.out)
 clear h2
 by_cases hz : slotsC k = 0
 · rw [if_pos hz] at hRr
   have d0 : (slotsC k != 0) = false := by simp [hz]
   have FIN := hQQ (DONE.out 0 w2 D F hRr.symm M2.out)
   clear hRr hz
   go_wp2_with fail
   go_ret
   exact FIN.out
 rw [if_neg hz] at hRr
 have d0 : (slotsC k != 0) = true := by simpa using hz
 have hk4 := slots_cls hz
 have q1 : IntKind.i64.wrap (k + 1) = k + 1 := wrap_in (by omega) (by omega)
 have HRr := hQQ hRr
 clear hRr hz
 go_wp2_with (refine wpList_load_rowG rfl 28 _ rfl _ rfl 28 _ _ _ L2.out Tryz.underlying28 rfl (by kernel_rfl) ?_)
 refine (y_config HR.out _).mono ?_
 rintro e w3 ⟨rfl,h3⟩
 have M3 := hQQ (M2.out.more h3)
 clear h3
 go_wp2_with fail
 go_loopw [7,16] (fun v7 v16 wr => ∃ (j : Nat) (s : Int) (D' : List KV) (F' : Nat → Prop),v16 = .int .i64 (j : Int) ∧ v7 = .int .i64 s ∧ (j : Int) ≤ c.pg ∧ 0 ≤ s ∧ s ≤ 32 * j ∧ MidV w1 wr F (fun _ => False) p kn n D' F' ∧ freeN c.pg c.st k (c.pg.toNat - j) j s kn D' = Rr) (fun _ v16 _ => c.pg.toNat - (intOf v16).toNat)
 case atStart => exact ⟨0,0,D,F,rfl,rfl,by omega,by omega,by omega,M3.out,HRr.out⟩
 case round =>
   clear HRr M3 M2 L2
   obtain ⟨j,s,D',F',rfl,rfl,hj,s0,s1,MI,hrest⟩ := hrel
   have MI := hQQ MI
   have LI := hQQ (KL.out _ _ _ MI.out)
   have qj : IntKind.i64.wrap ((j : Int) + 1) = (j : Int) + 1 := wrap_in (by omega) (by omega)
   by_cases hlt : (j : Int) < c.pg
   · have d1 : decide ((j : Int) < c.pg) = true := by simpa using hlt
     rw [show c.pg.toNat - j = (c.pg.toNat - (j + 1)) + 1 by omega] at hrest
     have RI := hQQ (show bindP (ekindP c.pg c.st j) (fun x => if x = k + 1 then bindP (readP (bA c.pg c.st j)) fun b => freeN c.pg c.st k (c.pg.toNat - (j + 1)) ((j : Int) + 1) (s + openV k b) else freeN c.pg c.st k (c.pg.toNat - (j + 1)) ((j : Int) + 1) s) kn D' = Rr from hrest)
     have HQ0 := hQQ (isPage_iff.2 ⟨(by omega : 0 ≤ (j : Int)),hlt⟩)
     clear hrest
     go_wp2_with (refine wpList_load_rowG rfl 28 _ rfl _ rfl 28 _ _ _ LI.out Tryz.underlying28 rfl (by kernel_rfl) ?_)
     refine (e_Kind HR.out HH.out.toPgIn F' p kn D' (j : Int) wr MI.out.view HK.out MI.out.inv).mono ?_
     intro e w2 he
     rcases MI.out.step (More.refl _) HK.out (good_kind HH.out.toPgIn _) he with ⟨a',hE,rfl,hd',ht',_⟩ | ⟨x2,D2,F2,hE,rfl,M2,hq2,_,_⟩
     · exact ⟨rfl,NEED.out a' w2 (RI.out.symm.trans (bindP_need hE)) hd' ht'⟩
     have L2 := hQQ (KL.out _ _ _ M2)
     have R2 := hQQ ((bindP_ok hE).symm.trans RI.out)
     have M2 := hQQ M2
     clear he hE
     by_cases ek : x2 = k + 1
     · have d2 : (x2 == k + 1) = true := by simpa using ek
       have RN := hQQ (show bindP (readP (bA c.pg c.st j)) (fun b => freeN c.pg c.st k (c.pg.toNat - (j + 1)) ((j : Int) + 1) (s + openV k b)) kn D2 = Rr from by have := R2.out; rw [if_pos ek] at this; exact this)
       clear ek R2
       obtain ⟨w3,e3,b3,m3⟩ := new_page w2 c p (j : Int) k
       have M3 := hQQ (M2.out.more m3)
       have nFg : ¬ F2 w2.heap.size := fun z => by have := M2.out.view.lt _ z; omega
       go_wp2_with (first | (refine wpList_load_row rfl 28 _ rfl _ rfl 28 _ _ _ L2.out Tryz.underlying28 rfl (by kernel_rfl) ?_) | (refine wpList_page rfl _ _ _ _ rfl c p (j : Int) k rfl rfl rfl rfl ?_) | (refine wpList_store_row rfl 83 _ _ rfl _ _ rfl rfl 83 _ (row_new _ _ _) (by kernel_rfl) rfl (pg_one ..) ?_))
       rw [e3]
       generalize w2.heap.size = gb at b3 nFg
       rw [show ∀ (a : Act) (v : Value),a.put none v = a from fun _ _ => rfl]
       clear e3 m3
       have PB := hQQ (page_b HH.out.toPgIn HQ0.out)
       refine wp_region_anyC (fun W => W.heap[gb]? = some (.cells (pgArr c p (j : Int) k) 83 (0,0))) (by kernel_rfl) ?_
       have MR : Hid (MidV w1 (w3.drewN 1) F (fun _ => False) p kn n D2 F2 ∧ (w3.drewN 1).heap[gb]? = some (.cells (pgArr c p (j : Int) k) 83 (0,0))) := hQQ ⟨M3.out.more ((More.refl w3).drewN 1),((More.refl w3).drewN 1).block b3⟩
       have KG : Hid (∀ W D' F',MidV w1 W F (fun _ => False) p kn n D' F' ∧ W.heap[gb]? = some (.cells (pgArr c p (j : Int) k) 83 (0,0)) → W.heap[gb]? = some (.cells (pgArr c p (j : Int) k) 83 (0,0))) := hQQ fun _ _ _ h => h.2
       clear b3 M3
       change anyC _ _ _ _ _ _ _ _ (w3.drewN 1)
       generalize w3.drewN 1 = wq at MR ⊢
       generalize hA : Act.mk _ _ = A
       have HF : AG 39 A [(7,.int .i64 s),(9,.pointer (some ⟨gb,0,none⟩))] := by
         rw [← hA]
         refine ⟨⟨Nat.le_of_ble_eq_true rfl,rfl⟩,?_⟩
         intro z hz; simp only [List.mem_cons,List.not_mem_nil,or_false] at hz; rcases hz with rfl | rfl <;> rfl
       refine anyC_start (fun a W => ∃ (u31 u32 u33 u34 u35 u36 : Value) (x9 : Int) (D9 : List KV) (F9 : Nat → Prop),a = (Act.put (Act.put (Act.put (Act.put (Act.put (Act.put (Act.put A (some 31) u31) (some 32) u32) (some 33) u33) (some 34) u34) (some 35) u35) (some 36) u36) (some 7) (.int .i64 (s + openV k x9))) ∧ (MidV w1 W F (fun _ => False) p kn n D9 F9 ∧ W.heap[gb]? = some (.cells (pgArr c p (j : Int) k) 83 (0,0))) ∧ freeN c.pg c.st k (c.pg.toNat - (j + 1)) ((j : Int) + 1) (s + openV k x9) kn D9 = Rr) (fun W => WentV w F p kn (fun x : Int => Value.int .i64 x) Rr (.panicked (endOf p)) W) (endOf p) (fun a W hd h => ⟨hd,h⟩) (fun _ _ _ _ _ h => h) ?_ ?_
       · skip
         rintro a wa ⟨u31,u32,u33,u34,u35,u36,x9,D9,F9,rfl,⟨MS,_⟩,hr⟩
         rw [← hA]
         have MS := hQQ MS
         have hcb := cnt_b x9 k
         have NX := hQQ hr
         clear HF hA MR hr KG
         go_simp
         go_wp2_with fail
         go_roundw
         case rel => exact ⟨j + 1,s + openV k x9,D9,F9,by go_num,rfl,by omega,by omega,by omega,MS.out,by have := NX.out; exact this⟩
         case measure => simp [intOf]; omega
       intro QQ FINE FIND FINQ
       clear hA
       refine anyC_takeD (i:=0) (v:=.int .i64 s) (some 31) rfl rfl (by kernel_rfl) (by kernel_rfl) (by kernel_rfl) (fun c a w => FINQ c a _ _ w) (KG.out _ _ _ MR.out) (by exact yieldsC_moveG (wanted_none rfl) _ rfl (HF.get 0 rfl)) ?_
       replace HF := HF.put 31 (.int .i64 s) (by decide) rfl
       generalize hB1_31 : Act.put _ _ _ = A at HF ⊢
       refine anyC_takeD (i:=1) (v:=.agg (pgArr c p (j : Int) k)) (some 32) rfl rfl (by kernel_rfl) (by kernel_rfl) (by kernel_rfl) (fun c a w => FINQ c a _ _ w) (KG.out _ _ _ MR.out) (by exact yieldsC_row (C:=(fun W => W.heap[gb]? = some (.cells (pgArr c p (j : Int) k) 83 (0,0)))) (wanted_none rfl) 83 _ rfl gb (HF.get 2 rfl) 83 _ _ _ (fun W hW => hW) Tryz.underlying83 rfl (by kernel_rfl)) ?_
       replace HF := HF.put 32 (.agg (pgArr c p (j : Int) k)) (by decide) rfl
       generalize hB2_32 : Act.put _ _ _ = A at HF ⊢
       refine anyC_takeD (i:=2) (v:=.agg (pgArr c p (j : Int) k)) (some 33) rfl rfl (by kernel_rfl) (by kernel_rfl) (by kernel_rfl) (fun c a w => FINQ c a _ _ w) (KG.out _ _ _ MR.out) (by exact yieldsC_row (C:=(fun W => W.heap[gb]? = some (.cells (pgArr c p (j : Int) k) 83 (0,0)))) (wanted_none rfl) 83 _ rfl gb (HF.get 3 rfl) 83 _ _ _ (fun W hW => hW) Tryz.underlying83 rfl (by kernel_rfl)) ?_
       replace HF := HF.put 33 (.agg (pgArr c p (j : Int) k)) (by decide) rfl
       generalize hB3_33 : Act.put _ _ _ = A at HF ⊢
       refine anyC_oneK (i:=3) (some 34) (by kernel_rfl) rfl (wanted_none rfl) rfl (fun K hK => ?_)
       refine wp_call1 (v0:=.agg (pgArr c p (j : Int) k)) rfl (HF.get 0 rfl) (enters_of Tryz.func55 (by kernel_rfl) rfl) ?_
       refine (g_bits HR.out HH.out.toPgIn F2 p kn D2 (j : Int) k hn HQ0.out wq MR.out.1.view HK.out MR.out.1.inv).mono ?_
       intro e w4 he
       rcases MR.out.1.step (More.refl _) HK.out (good_read n PB.out.2.2.2.1) he with ⟨a',hE,rfl,hd',ht',_⟩ | ⟨x4,D4,F4,hE,rfl,M4,hq4,hk4',_⟩
       · exact FIND _ _ HF.1.2 (NEED.out a' w4 (RN.out.symm.trans (bindP_need hE)) hd' ht')
       have R4 := hQQ ((bindP_ok hE).symm.trans RN.out)
       have M4 := hQQ (And.intro M4 (hk4' _ _ nFg MR.out.2))
       clear he hE hk4'
       refine hK _ _ (KG.out _ _ _ M4.out) ?_
       clear hK K
       replace HF := HF.put 34 (.int .i64 x4) (by decide) rfl
       generalize hB4_34 : Act.put _ _ _ = A at HF ⊢
       have hcb := cnt_b x4 k
       have qsum : IntKind.i64.wrap (s + openV k x4) = s + openV k x4 := wrap_in (by omega) (by omega)
       refine anyC_oneK (i:=4) (some 35) (by kernel_rfl) rfl (wanted_none rfl) rfl (fun K hK => ?_)
       refine wp_call2 (v0:=.agg (pgArr c p (j : Int) k)) (v1:=.int .i64 x4) rfl (HF.get 2 rfl) (HF.get 0 rfl) (enters_of Tryz.func63 (by kernel_rfl) rfl) ?_
       refine (g_openV c p (j : Int) k x4 w4 (SZ.out _ _ _ M4.out.1) (by omega)).mono ?_
       rintro e w5 ⟨rfl,h5⟩
       have M5 := hQQ (And.intro (M4.out.1.more h5) (h5.block M4.out.2))
       clear h5
       refine hK _ _ (KG.out _ _ _ M5.out) ?_
       clear hK K
       replace HF := HF.put 35 (.int .i64 (openV k x4)) (by decide) rfl
       generalize hB5_35 : Act.put _ _ _ = A at HF ⊢
       refine anyC_takeD (i:=5) (v:=.int .i64 (s + openV k x4)) (some 36) rfl rfl (by kernel_rfl) (by kernel_rfl) (by kernel_rfl) (fun c a w => FINQ c a _ _ w) (KG.out _ _ _ M5.out) (by exact yieldsC_addI (wanted_none rfl) rfl (HF.get 4 rfl) (HF.get 0 rfl) _ qsum) ?_
       replace HF := HF.put 36 (.int .i64 (s + openV k x4)) (by decide) rfl
       generalize hB6_36 : Act.put _ _ _ = A at HF ⊢
       replace HF : AG 39 A [(36,.int .i64 (s + openV k x4))] := ⟨HF.1,fun z hz => by simp only [List.mem_cons,List.not_mem_nil,or_false] at hz; subst hz; exact HF.2 _ (List.mem_cons_self ..)⟩
       refine anyC_takeD (i:=6) (v:=.int .i64 (s + openV k x4)) (some 7) rfl rfl (by kernel_rfl) (by kernel_rfl) (by kernel_rfl) (fun c a w => FINQ c a _ _ w) (KG.out _ _ _ M5.out) (by exact yieldsC_assign (wanted_none rfl) _ rfl (HF.get 0 rfl)) ?_
       replace HF := HF.put 7 (.int .i64 (s + openV k x4)) (by decide) rfl
       generalize hB7_7 : Act.put _ _ _ = A at HF ⊢
       exact anyC_done (by kernel_rfl) (FINE _ _ ⟨(.int .i64 s),(.agg (pgArr c p (j : Int) k)),(.agg (pgArr c p (j : Int) k)),(.int .i64 x4),(.int .i64 (openV k x4)),(.int .i64 (s + openV k x4)),x4,D4,F4,by rw [← hB7_7,← hB6_36,← hB5_35,← hB4_34,← hB3_33,← hB2_32,← hB1_31],M5.out,R4.out.symm.symm⟩)
     · have d2 : (x2 == k + 1) = false := by simpa using ek
       have RN := hQQ (show freeN c.pg c.st k (c.pg.toNat - (j + 1)) ((j : Int) + 1) s kn D2 = Rr from by have := R2.out; rw [if_neg ek] at this; exact this)
       clear ek
       go_wp2_with fail
       go_roundw
       case rel => exact ⟨j + 1,s,D2,F2,by go_num,rfl,by omega,by omega,by omega,M2.out,RN.out⟩
       case measure => simp [intOf]; omega
   · have d1 : decide ((j : Int) < c.pg) = false := by simpa using hlt
     rw [show c.pg.toNat - j = 0 by omega] at hrest
     have FIN := hQQ (DONE.out s wr D' F' hrest.symm MI.out)
     clear hrest
     go_wp2_with fail
     go_ret
     exact FIN.out
section
variable {ops : Array Oper} {C : World → Prop} {o' : Oper} {a : Act} {x y : Operand}
theorem yieldsC_subI {u z : Int} (hw : Region.wanted o' (yielded ops a.tmps) = true) (ho : o'.op = .binOp .sub 3 x y 3) (hx : a.eval x = .int .i64 u) (hy : a.eval y = .int .i64 z) (t : Int) (hq : IntKind.i64.wrap (u - z) = t) : YieldsC Tryz.prog ops C o' (.int .i64 t) a :=
 .inl ⟨hw,fun w _ => by unfold execOp; generalize a.eval = ρ at hx hy ⊢; simp only [ho,hx,hy]; subst hq; go_simp⟩
end
theorem results_row3 {P : Program} {fn : Func} {p u v : Tmp} {ty : TypeId} (h : fn.results = #[.cell p ty,.tmp u,.tmp v]) (tmps : Array Value) (w : World) (g : Nat) (t : TypeId) (cs : Array Value) (fr : Nat × Nat) (d : TypeDesc)
   (hp : tmps.getD p undef = .pointer (some ⟨g,0,none⟩)) (hg : w.heap[g]? = some (.cells cs t fr))
   (hu : P.underlying ty = some d) (hd : (match d with | .struct _ | .array _ _ => true | _ => false) = true) (hi : (P.info? ty).map (·.size) = some cs.size) :
   (results fn tmps).run P w = .ok (.tuple #[.agg cs,tmps.getD u undef,tmps.getD v undef]) w := by
 have hp' : tmps[p]?.getD undef = .pointer (some ⟨g,0,none⟩) := by simpa using hp
 simp [results,h,hp',asAddr,run_loadVar_row w g t ty cs fr d hg hu hd hi,Sem.run_bind,Result.andThen]
def Cfg.us (c : Cfg) : Int := userV c.cp c.pg c.st c.ca c.bi
def pgZ : Array Value := #[Value.pointer none,Value.int IntKind.i64 0,Value.int IntKind.i64 0,Value.int IntKind.i64 0,Value.int IntKind.i64 0,Value.int IntKind.i64 0,Value.int IntKind.i64 0,Value.int IntKind.i64 0,Value.int IntKind.i64 0,Value.int IntKind.i64 0,Value.int IntKind.i64 0,Value.int IntKind.i64 0,Value.int IntKind.i64 0,Value.int IntKind.i64 0,Value.int IntKind.i64 0,Value.int IntKind.i64 0,Value.int IntKind.i64 0,Value.int IntKind.i64 0,Value.int IntKind.i64 0,Value.int IntKind.i64 0,Value.int IntKind.i64 0,Value.int IntKind.i64 0,Value.int IntKind.i64 0,Value.int IntKind.i64 0,Value.int IntKind.i64 0,Value.int IntKind.i64 0,Value.int IntKind.i64 0]
theorem MidV.row {W wr : World} {F S F' : Nat → Prop} {p n : Nat} {kn : Int → Option Int} {D : List KV} (h : MidV W wr F S p kn n D F') {b : Nat} (hS : b < W.heap.size → S b) (nF : ¬ F' b) (cs' : Array Value) {cs : Array Value} {t : TypeId} {fr : Nat × Nat} (hb : wr.heap[b]? = some (.cells cs t fr)) : MidV W (wr.setRow b cs') F S p kn n D F' :=
 have T : Turned (fun k => k = b) wr (wr.setRow b cs') := Turned.setRow (Turned.refl _ wr) b cs' (fun _ => rfl)
 ⟨h.view.keepS (S:=fun k => k = b) T (fun k q e => nF (e ▸ q)) (fun k es cl e q => by subst e; rw [hb] at q; cases q),
   h.from',turned_own h.turn T (fun k q => by
     subst q
     rcases Nat.lt_or_ge k W.heap.size with r | r
     · exact .inl (.inr (hS r))
     · exact .inr r),h.inv⟩
theorem setRow_oth {w : World} {g b : Nat} {cs : Array Value} {o : Obj} (h : w.heap[b]? = some o) (hne : b ≠ g) : (w.setRow g cs).heap[b]? = some o :=
 ((Turned.setRow (S:=fun k => k = g) (Turned.refl _ w) g cs (fun _ => rfl)).block b (lt_of_heap h) hne).trans h
theorem zero_page (w : World) : ∃ w1,w.alloc (.cells pgZ 83) = w1 ∧ w1.heap[w.heap.size]? = some (.cells pgZ 83 (0,0)) ∧ More w w1 := ⟨_,rfl,row_new w _ _,(More.refl w).alloc _⟩
section
variable {o : Oper} {a : Act} {w : World} {K : Act → World → Prop} {Q : Exit → Act → World → Prop} {ops : Array Oper} {rest : List Oper} {C : World → Prop}
theorem wp_alloc_page (ho : o.op = .alloc 83) (h : K (a.put o.dst (.pointer (some ⟨w.heap.size,0,none⟩))) (w.alloc (.cells pgZ 83))) : Oper.wp Tryz.prog o a w K Q := by
 unfold Oper.wp Oper.upon execOp
 simp only [ho]
 go_simp
 exact h
theorem yieldsC_page (hw : Region.wanted o (yielded ops a.tmps) = true) (x0 x1 x2 x3 : Operand) (ho : o.op = .build 83 #[(0,x0),(1,x1),(2,x2),(3,x3)]) (c : Cfg) (p : Nat) (q k : Int)
   (h0 : a.eval x0 = .pointer (some ⟨p,0,none⟩)) (h1 : a.eval x1 = .agg c.arr) (h2 : a.eval x2 = .int .i64 q) (h3 : a.eval x3 = .int .i64 k) : YieldsC Tryz.prog ops C o (.agg (pgArr c p q k)) a := by
 refine .inl ⟨hw,fun w _ => ?_⟩
 unfold execOp
 generalize a.eval = ρ at h0 h1 h2 h3 ⊢
 simp only [ho,List.map_toArray,List.map_cons,List.map_nil,h0,h1,h2,h3]
 simp [run_build w _ _ _ (built_page c p q k),Sem.run_bind,Result.andThen]
theorem built_zero : Tryz.prog.built 83 [] = some pgZ := by kernel_rfl
theorem wpList_zero (hgd : o.guard = none) (ho : o.op = .build 83 #[]) (h : wpList Tryz.prog ops Q rest (a.put o.dst (.agg pgZ)) w) : wpList Tryz.prog ops Q (o :: rest) a w := by
 have e : Tryz.prog.built 83 ((#[] : Array (Nat × Operand)).map fun (i,x) => (i,a.eval x)).toList = some pgZ := by simp only [List.map_toArray,List.map_nil]; exact built_zero
 refine wpList_build hgd _ _ ho ?_ ?_
 · rw [e]; rfl
 · rw [e]; exact h
theorem put_com {i j : Nat} {x y : Value} (h : i ≠ j) : Act.put (Act.put a (some i) x) (some j) y = Act.put (Act.put a (some j) y) (some i) x := Act.put_comm a x y (fun d hd e => by cases hd; cases e; exact h rfl)
end
theorem page_cells {W : World} {gb p : Nat} {c : Cfg} {q k : Int} (h : W.heap[gb]? = some (.cells (pgArr c p q k) 83 (0,0))) : W.cell? ⟨gb,0,none⟩ = some (.pointer (some ⟨p,0,none⟩)) ∧ W.cell? ⟨gb,25,none⟩ = some (.int .i64 q) ∧ W.cell? ⟨gb,26,none⟩ = some (.int .i64 k) :=
 ⟨by rw [cell_of_row W _ _ _ _ _ h]; exact pg_v c p q k,by rw [cell_of_row W _ _ _ _ _ h]; exact pg_n c p q k,by rw [cell_of_row W _ _ _ _ _ h]; exact pg_c c p q k⟩
theorem wrap_w64 (x : Int) : W64 (IntKind.i64.wrap x) := by rw [IntKind.wrap_i64]; unfold W64; omega
theorem g_size (k : Int) {bt : Nat} (w : World) (h : SzAt bt w) : Calls Tryz.prog 19 #[.int .i64 k] w (Gives w (.int .i64 (szV k))) := (cl_size k w ⟨bt,h⟩).mono fun e w' q => ⟨q.1,q.2 ▸ More.refl _⟩
abbrev TkA := Option (Int × Int × Int × Bool)
def tkVal (c : Cfg) (p : Nat) : TkA → Value
 | none => .tuple #[.agg pgZ,.int .i64 0,.bool false]
 | some (q,k,i,b) => .tuple #[.agg (pgArr c p q k),.int .i64 i,.bool b]
def tkRest (pg st q wd x : Int) : Prg TkA :=
 if slotsC (IntKind.i64.wrap (x - 1)) = 0 then pureP none else if wd % szV (IntKind.i64.wrap (x - 1)) ≠ 0 then pureP none
 else bindP (readP (bA pg st q)) fun b => pureP (some (q,IntKind.i64.wrap (x - 1),wd / szV (IntKind.i64.wrap (x - 1)),hasB b (wd / szV (IntKind.i64.wrap (x - 1)))))
def takenP (us pg st a : Int) : Prg TkA := if us ≤ a ∧ a < us + 32 * pg then bindP (ekindP pg st ((a - us) / 32)) fun x => tkRest pg st ((a - us) / 32) ((a - us) % 32) x else pureP none
theorem sound_tkRest (pg st q wd x : Int) : Sound (tkRest pg st q wd x) := sound_ite (sound_pure _) (sound_ite (sound_pure _) (sound_bind (sound_read _) fun _ => sound_pure _))
theorem sound_taken (us pg st a : Int) : Sound (takenP us pg st a) := sound_ite (sound_bind (sound_kind _ _ _) fun _ => sound_tkRest _ _ _ _ _) (sound_pure _)
def TkOk (pg : Int) (x : TkA) : Prop := ∀ q k i b,x = some (q,k,i,b) → isPage pg q = true ∧ 0 ≤ k ∧ k ≤ 4 ∧ 0 ≤ i ∧ i ≤ 31
theorem good_tkRest {pg st : Int} {n : Nat} (H : PgIn pg st n) {q : Int} (hq : isPage pg q = true) {wd : Int} (hw : 0 ≤ wd ∧ wd < 32) (x : Int) : Good n (TkOk pg) (tkRest pg st q wd x) := by
 unfold tkRest
 refine good_ite (fun _ => good_pure n (fun _ _ _ _ e => by cases e)) (fun h => good_ite (fun _ => good_pure n (fun _ _ _ _ e => by cases e)) (fun _ => good_bind (good_read n (page_b H hq).2.2.2.1) fun b _ => good_pure n ?_))
 rintro q' k' i' b' e
 cases e
 have h4 := slots_cls h
 generalize IntKind.i64.wrap (x - 1) = kk at h4 ⊢
 obtain ⟨z,rfl⟩ : ∃ z : Nat,kk = (z : Int) := ⟨kk.toNat,by omega⟩
 have hs := sz_b (k:=z) (by omega)
 exact ⟨hq,h4.1,h4.2,Int.ediv_nonneg hw.1 (by omega),by have := Int.ediv_le_self (szV (z : Int)) hw.1; omega⟩
theorem place_b {us pg a : Int} (h : us ≤ a ∧ a < us + 32 * pg) : isPage pg ((a - us) / 32) = true ∧ 0 ≤ (a - us) % 32 ∧ (a - us) % 32 < 32 := ⟨isPage_iff.2 (by omega),by omega,by omega⟩
theorem good_taken {us pg st : Int} {n : Nat} (H : PgIn pg st n) (a : Int) : Good n (TkOk pg) (takenP us pg st a) := by
 unfold takenP
 exact good_ite (fun h => good_bind (good_kind H _) fun x _ => good_tkRest H (place_b h).1 (place_b h).2 x) (fun _ => good_pure n (fun _ _ _ _ e => by cases e))
theorem g_taken {c : Cfg} (R : c.Ok) {n : Nat} (H : HdIn c.pg c.st n) (hn : n ≤ 10000) (F : Nat → Prop) (p : Nat) (kn : Int → Option Int) (D : List KV) (ad : Int) (w : World) (hv : ViewAt w F p kn D) (hk : OkK kn) (hD : InvD n D) (bt : Nat) (hs : SzAt bt w) (nF0 : ¬ F 0) (nFb : ¬ F bt) :
   Calls Tryz.prog 64 #[.pointer (some ⟨p,0,none⟩),.agg c.arr,.int .i64 ad] w (WentV w F p kn (tkVal c p) (takenP c.us c.pg c.st ad kn D)) := by
 obtain ⟨Rr,hRr⟩ : ∃ Rr,takenP c.us c.pg c.st ad kn D = Rr := ⟨_,rfl⟩
 rw [hRr]
 obtain ⟨w2,e2,hl2,hz2,m2,s2⟩ := entry2 w (.cells c.arr 28) (.cells #[Value.pointer none,Value.int IntKind.i64 0,Value.int IntKind.i64 0,Value.int IntKind.i64 0,Value.int IntKind.i64 0,Value.int IntKind.i64 0,Value.int IntKind.i64 0,Value.int IntKind.i64 0,Value.int IntKind.i64 0,Value.int IntKind.i64 0,Value.int IntKind.i64 0,Value.int IntKind.i64 0,Value.int IntKind.i64 0,Value.int IntKind.i64 0,Value.int IntKind.i64 0,Value.int IntKind.i64 0,Value.int IntKind.i64 0,Value.int IntKind.i64 0,Value.int IntKind.i64 0,Value.int IntKind.i64 0,Value.int IntKind.i64 0,Value.int IntKind.i64 0,Value.int IntKind.i64 0,Value.int IntKind.i64 0,Value.int IntKind.i64 0,Value.int IntKind.i64 0,Value.int IntKind.i64 0] 83)
 have hz2 : w2.heap[w.heap.size + 1]? = some (.cells pgZ 83 (0,0)) := hz2
 have nFl : ¬ F w.heap.size := fun q => by have := hv.lt _ q; omega
 have nFz : ¬ F (w.heap.size + 1) := fun q => by have := hv.lt _ q; omega
 have MM := hQQ m2
 have HNZ := hQQ nFz
 have HZL := hQQ (show w.heap.size + 1 < w2.heap.size by omega)
 have L0 := hQQ hl2
 have M0 : Hid (MidV w2 w2 F (fun b => b = w.heap.size + 1) p kn n D F ∧ w2.heap[w.heap.size + 1]? = some (.cells pgZ 83 (0,0))) := hQQ ⟨MidV.begin (hv.more m2) hD,hz2⟩
 have KL : Hid (∀ wr D' F',MidV w2 wr F (fun b => b = w.heap.size + 1) p kn n D' F' → wr.heap[w.heap.size]? = some (.cells c.arr 28 (0,0))) := hQQ fun wr D' F' h => mid_own h L0.out nFl (fun q => by omega)
 have hSS : ∀ b,(fun b => b = w.heap.size + 1) b → w.heap.size ≤ b := fun b q => by have : b = w.heap.size + 1 := q; omega
 have NEED : Hid (∀ a w3,Rr = .need a → DeadAt w3 p a → Turned (fun b => F b ∨ b = w.heap.size + 1) w2 w3 → WentV w F p kn (tkVal c p) Rr (.panicked (endOf p)) w3) := hQQ fun a w3 e hd ht => mid_need MM.out hSS e hd ht
 have DONE : Hid (∀ x w3 D' F',Rr = .ok x D' → MidV w2 w3 F (fun b => b = w.heap.size + 1) p kn n D' F' → WentV w F p kn (tkVal c p) Rr (.returned (tkVal c p x)) w3) := hQQ fun x w3 D' F' e h => mid_done MM.out hSS h e
 have SZ : Hid (∀ wr D' F',MidV w2 wr F (fun b => b = w.heap.size + 1) p kn n D' F' → SzAt bt wr) := hQQ fun wr D' F' h => (hs.more MM.out).keep h.turn (by rintro (q | q); exact nF0 q; have := hs.lt0; omega) (by rintro (q | q); exact nFb q; have := hs.lt; omega)
 have HK := hQQ hk
 have HR := hQQ R
 have HH := hQQ H
 have pg1 := HR.out.pg1
 have pg2 := HR.out.pg2
 clear hl2 hz2 m2 hv hD hk R H nFl nFz hs nF0 nFb hSS
 unfold takenP at hRr
 have L2 := hQQ (KL.out _ _ _ M0.out.1)
 by_cases hin : c.us ≤ ad ∧ ad < c.us + 32 * c.pg
 · rw [if_pos hin] at hRr
   obtain ⟨hq,hwd⟩ := place_b hin
   have PL := hQQ (xplace_in HR.out w2 ad hin.1 hin.2)
   have PL := hQQ (show Calls Tryz.prog 26 #[.agg c.arr,.int .i64 ad] w2 (Gives w2 (.tuple #[.int .i64 ((ad - c.us) / 32),.int .i64 ((ad - c.us) % 32),.bool true])) from PL.out)
   generalize (ad - c.us) / 32 = q at hRr hq PL
   generalize (ad - c.us) % 32 = wd at hRr hwd PL
   have HRr := hQQ hRr
   have HQ := hQQ hq
   have PB := hQQ (page_b HH.out.toPgIn hq)
   clear hin hRr hq
   go_enter Tryz.func64,Tryz.ntmps64
   go_wp2_with (refine wpList_load_rowG rfl 28 _ rfl _ rfl 28 _ _ _ L2.out Tryz.underlying28 rfl (by kernel_rfl) ?_)
   refine PL.out.mono ?_
   rintro e w3 ⟨rfl,h3⟩
   have M3 := hQQ (And.intro (M0.out.1.more h3) (h3.block M0.out.2))
   clear h3
   go_wp2_with fail
   have MR : Hid (MidV w2 (w3.drewN 1) F (fun b => b = w.heap.size + 1) p kn n D F ∧ (w3.drewN 1).heap[w.heap.size + 1]? = some (.cells pgZ 83 (0,0))) := hQQ ⟨M3.out.1.more ((More.refl w3).drewN 1),((More.refl w3).drewN 1).block M3.out.2⟩
   have KC : Hid (∀ W D' F',MidV w2 W F (fun b => b = w.heap.size + 1) p kn n D' F' ∧ W.heap[w.heap.size + 1]? = some (.cells pgZ 83 (0,0)) → W.heap[w.heap.size]? = some (.cells c.arr 28 (0,0))) := hQQ fun _ _ _ h => KL.out _ _ _ h.1
   refine wp_region_anyC (fun W => W.heap[w.heap.size]? = some (.cells c.arr 28 (0,0))) (by kernel_rfl) ?_
   change anyC _ _ _ _ _ _ _ _ (w3.drewN 1)
   generalize hA : Act.mk _ _ = A
   have HF : AG 57 A [(0,.pointer (some ⟨p,0,none⟩)),(4,.pointer (some ⟨w.heap.size,0,none⟩)),(9,.int .i64 q)] := by
     rw [← hA]
     refine ⟨⟨Nat.le_of_ble_eq_true rfl,rfl⟩,?_⟩
     intro z hz; simp only [List.mem_cons,List.not_mem_nil,or_false] at hz; rcases hz with rfl | rfl | rfl <;> rfl
   generalize w3.drewN 1 = wq at MR ⊢
   refine anyC_start (fun a W => ∃ (u24 u25 u26 u27 u28 u29 u30 u31 u32 : Value) (gb : Nat) (x9 : Int) (D9 : List KV) (F9 : Nat → Prop),a = (Act.put (Act.put (Act.put (Act.put (Act.put (Act.put (Act.put (Act.put (Act.put (Act.put (Act.put A (some 24) u24) (some 25) u25) (some 26) u26) (some 27) u27) (some 28) u28) (some 29) u29) (some 30) u30) (some 31) u31) (some 32) u32) (some 12) (.pointer (some ⟨gb,0,none⟩))) none undef) ∧ (MidV w2 W F (fun b => b = w.heap.size + 1) p kn n D9 F9 ∧ W.heap[w.heap.size + 1]? = some (.cells pgZ 83 (0,0)) ∧ W.heap[gb]? = some (.cells (pgArr c p q (IntKind.i64.wrap (x9 - 1))) 83 (0,0)) ∧ w2.heap.size ≤ gb ∧ ¬ F9 gb) ∧ tkRest c.pg c.st q wd x9 kn D9 = Rr) (fun W => WentV w F p kn (tkVal c p) Rr (.panicked (endOf p)) W) (endOf p) (fun a W hd h => ⟨hd,h⟩) (fun _ _ _ _ _ h => h) ?_ ?_
   · skip
     rintro a W9 ⟨u24,u25,u26,u27,u28,u29,u30,u31,u32,gb,x9,D9,F9,rfl,⟨m9,hz9,hb9,hgb,hnb⟩,hr⟩
     rw [← hA]
     have HNB := hQQ hnb
     have HGB := hQQ hgb
     have B9 := hQQ hb9
     have M9 := hQQ (And.intro m9 (And.intro hz9 hb9))
     clear HF hA MR KC m9 hz9 hb9 hgb hnb
     go_simp
     obtain ⟨kk,hkk⟩ : ∃ kk,IntKind.i64.wrap (x9 - 1) = kk := ⟨_,rfl⟩
     unfold tkRest at hr
     simp only [hkk] at hr M9 B9
     have hwkk : W64 kk := by rw [← hkk]; exact wrap_w64 _
     clear hkk
     obtain ⟨c0,c25,c26⟩ := page_cells B9.out
     go_wp2_with fail
     refine (g_there kk W9 (SZ.out _ _ _ M9.out.1)).mono ?_
     rintro e w10 ⟨rfl,h10⟩
     have M10 := hQQ (And.intro (M9.out.1.more h10) (And.intro (h10.block M9.out.2.1) (h10.block M9.out.2.2)))
     clear h10 c0 c25 c26
     obtain ⟨c0,c25,c26⟩ := page_cells M10.out.2.2
     by_cases hz : slotsC kk = 0
     · rw [if_pos hz] at hr
       have d0 : (slotsC kk != 0) = false := by simp [hz]
       have MZ := M10.out.1.row (b:=w.heap.size + 1) (fun _ => rfl) (M10.out.1.off HZL.out HNZ.out) pgZ M10.out.2.1
       have HZ := setRow_heap _ (w.heap.size + 1) pgZ pgZ _ _ M10.out.2.1
       obtain ⟨wz,ez⟩ : ∃ wz,World.setRow w10 (w.heap.size + 1) pgZ = wz := ⟨_,rfl⟩
       have Z0 := hQQ M10.out.2.1
       rw [ez] at MZ HZ
       have FIN := hQQ (DONE.out none wz D9 F9 (hr.symm) MZ)
       clear MZ
       go_wp2_with (first | (refine wpList_zero rfl rfl ?_) | (refine wpList_store_row rfl 83 _ _ rfl _ _ rfl rfl 83 _ Z0.out (by kernel_rfl) rfl (by kernel_rfl) ?_))
       refine bodyPost_ret (results_row3 rfl _ _ (w.heap.size + 1) 83 pgZ _ _ rfl HZ Tryz.underlying83 rfl (by kernel_rfl)) rfl ?_
       exact FIN.out
     rw [if_neg hz] at hr
     have d0 : (slotsC kk != 0) = true := by simpa using hz
     have hk4 := slots_cls hz
     obtain ⟨kn',rfl⟩ : ∃ z : Nat,kk = (z : Int) := ⟨kk.toNat,by omega⟩
     have hsb := sz_b (k:=kn') (by omega)
     have CS := hQQ (fun (W : World) (hW : SzAt bt W) => g_size (kn' : Int) W hW)
     obtain ⟨sz,hsz⟩ : ∃ sz,szV (kn' : Int) = sz := ⟨_,rfl⟩
     rw [hsz] at hr hsb CS
     have t1 : wd.tmod sz = wd % sz := Int.tmod_eq_emod_of_nonneg hwd.1
     have t2 : wd.tdiv sz = wd / sz := Int.tdiv_eq_ediv_of_nonneg hwd.1
     have t3 : 0 ≤ wd % sz ∧ wd % sz < sz := ⟨Int.emod_nonneg _ (by omega),Int.emod_lt_of_pos _ (by omega)⟩
     have t4 : 0 ≤ wd / sz ∧ wd / sz ≤ wd := ⟨Int.ediv_nonneg hwd.1 (by omega),Int.ediv_le_self _ hwd.1⟩
     have t5 : IntKind.i64.wrap (wd / sz) = wd / sz := wrap_in (by omega) (by omega)
     have z0 : (sz == 0) = false := by simp; omega
     have z1 : decide (sz = 0) = false := by simp; omega
     have z2 : (sz == -1) = false := by simp; omega
     have z3 : decide (sz = -1) = false := by simp; omega
     have z4 : ¬ sz = 0 := by omega
     have z5 : ¬ sz = -1 := by omega
     obtain ⟨ix,hix⟩ : ∃ ix,wd / sz = ix := ⟨_,rfl⟩
     obtain ⟨mm,hmm⟩ : ∃ mm,wd % sz = mm := ⟨_,rfl⟩
     rw [hix] at hr t2 t4 t5
     rw [hmm] at hr t1 t3
     have HIX := hQQ t4
     have HW := hQQ hwkk
     clear hz hk4 hsz hix hmm t4 t3 hwkk
     by_cases hm0 : mm = 0
     · rw [if_neg (by simpa using hm0)] at hr
       have d1 : (mm != 0) = false := by simp [hm0]
       have RN := hQQ hr
       clear hr
       go_wp2_with fail
       refine (CS.out w10 (SZ.out _ _ _ M10.out.1)).mono ?_
       rintro e w11 ⟨rfl,h11⟩
       have M11 := hQQ (And.intro (M10.out.1.more h11) (And.intro (h11.block M10.out.2.1) (h11.block M10.out.2.2)))
       clear h11 c0 c25 c26
       obtain ⟨c0,c25,c26⟩ := page_cells M11.out.2.2
       go_wp2_with fail
       refine (CS.out w11 (SZ.out _ _ _ M11.out.1)).mono ?_
       rintro e w9 ⟨rfl,h9⟩
       have M9 := hQQ (And.intro (M11.out.1.more h9) (And.intro (h9.block M11.out.2.1) (h9.block M11.out.2.2)))
       clear h9 c0 c25 c26 d0 d1 hm0 z0 z1 z2 z3 z4 z5 t1
       go_wp2_with fail
       generalize (kn' : Int) = kk at M9 RN HW M11 M10 B9
       clear t2 t5 hsb M11 M10 B9 CS
       have MR : Hid (MidV w2 (w9.drewN 1) F (fun b => b = w.heap.size + 1) p kn n D9 F9 ∧ (w9.drewN 1).heap[w.heap.size + 1]? = some (.cells pgZ 83 (0,0)) ∧ (w9.drewN 1).heap[gb]? = some (.cells (pgArr c p q kk) 83 (0,0))) := hQQ ⟨M9.out.1.more ((More.refl w9).drewN 1),((More.refl w9).drewN 1).block M9.out.2.1,((More.refl w9).drewN 1).block M9.out.2.2⟩
       have KC : Hid (∀ W D' F',MidV w2 W F (fun b => b = w.heap.size + 1) p kn n D' F' ∧ W.heap[w.heap.size + 1]? = some (.cells pgZ 83 (0,0)) ∧ W.heap[gb]? = some (.cells (pgArr c p q kk) 83 (0,0)) → W.heap[gb]? = some (.cells (pgArr c p q kk) 83 (0,0))) := hQQ fun _ _ _ h => h.2.2
       refine wp_region_anyC (fun W => W.heap[gb]? = some (.cells (pgArr c p q kk) 83 (0,0))) (by kernel_rfl) ?_
       change anyC _ _ _ _ _ _ _ _ (w9.drewN 1)
       generalize hA : Act.mk _ _ = A
       have HF : AG 57 A [(6,.pointer (some ⟨w.heap.size + 1,0,none⟩)),(12,.pointer (some ⟨gb,0,none⟩)),(13,.int .i64 ix)] := by
         rw [← hA]
         refine ⟨⟨Nat.le_of_ble_eq_true rfl,rfl⟩,?_⟩
         intro z hz; simp only [List.mem_cons,List.not_mem_nil,or_false] at hz; rcases hz with rfl | rfl | rfl <;> rfl
       generalize w9.drewN 1 = wq at MR ⊢
       refine anyC_start (fun a W => ∃ (u51 u52 u53 u55 u54 u56 : Value) (x10 : Int) (D10 : List KV) (F10 : Nat → Prop),a = (Act.put (Act.put (Act.put (Act.put (Act.put (Act.put (Act.put (Act.put A (some 51) u51) (some 52) u52) (some 53) u53) (some 55) u55) (some 54) u54) (some 56) u56) (some 7) (.int .i64 ix)) (some 8) (.bool (hasB x10 ix))) ∧ MidV w2 W F (fun b => b = w.heap.size + 1) p kn n D10 F10 ∧ W.heap[w.heap.size + 1]? = some (.cells (pgArr c p q kk) 83 (0,0)) ∧ Rr = .ok (some (q,kk,ix,hasB x10 ix)) D10) (fun W => WentV w F p kn (tkVal c p) Rr (.panicked (endOf p)) W) (endOf p) (fun a W hd h => ⟨hd,h⟩) (fun _ _ _ _ _ h => h) ?_ ?_
       · skip
         rintro a wa ⟨u51,u52,u53,u55,u54,u56,x10,D10,F10,rfl,MS,HS,hr⟩
         rw [← hA]
         have FIN := hQQ (DONE.out (some (q,kk,ix,hasB x10 ix)) wa D10 F10 hr MS)
         clear HF hA MR KC hr
         go_simp
         go_wp2_with fail
         refine bodyPost_ret (results_row3 rfl _ _ (w.heap.size + 1) 83 (pgArr c p q kk) _ _ rfl HS Tryz.underlying83 rfl (by kernel_rfl)) rfl ?_
         exact FIN.out
       intro QQ FINE FIND FINQ
       clear hA
       refine anyC_takeD (i:=0) (v:=.agg (pgArr c p q kk)) (some 51) rfl rfl (by kernel_rfl) (by kernel_rfl) (by kernel_rfl) (fun c a w => FINQ c a _ _ w) (KC.out _ _ _ MR.out) (by exact yieldsC_row (C:=(fun W => W.heap[gb]? = some (.cells (pgArr c p q kk) 83 (0,0)))) (wanted_none rfl) 83 _ rfl gb (HF.get 1 rfl) 83 _ _ _ (fun W hW => hW) Tryz.underlying83 rfl (by kernel_rfl)) ?_
       replace HF := HF.put 51 (.agg (pgArr c p q kk)) (by decide) rfl
       generalize hB1_51 : Act.put _ _ _ = A at HF ⊢
       refine anyC_takeD (i:=1) (v:=.int .i64 ix) (some 52) rfl rfl (by kernel_rfl) (by kernel_rfl) (by kernel_rfl) (fun c a w => FINQ c a _ _ w) (KC.out _ _ _ MR.out) (by exact yieldsC_moveG (wanted_none rfl) _ rfl (HF.get 3 rfl)) ?_
       replace HF := HF.put 52 (.int .i64 ix) (by decide) rfl
       generalize hB2_52 : Act.put _ _ _ = A at HF ⊢
       refine anyC_takeD (i:=2) (v:=.agg (pgArr c p q kk)) (some 53) rfl rfl (by kernel_rfl) (by kernel_rfl) (by kernel_rfl) (fun c a w => FINQ c a _ _ w) (KC.out _ _ _ MR.out) (by exact yieldsC_row (C:=(fun W => W.heap[gb]? = some (.cells (pgArr c p q kk) 83 (0,0)))) (wanted_none rfl) 83 _ rfl gb (HF.get 3 rfl) 83 _ _ _ (fun W hW => hW) Tryz.underlying83 rfl (by kernel_rfl)) ?_
       replace HF := HF.put 53 (.agg (pgArr c p q kk)) (by decide) rfl
       generalize hB3_53 : Act.put _ _ _ = A at HF ⊢
       refine anyC_takeD (i:=4) (v:=.int .i64 ix) (some 55) rfl rfl (by kernel_rfl) (by kernel_rfl) (by kernel_rfl) (fun c a w => FINQ c a _ _ w) (KC.out _ _ _ MR.out) (by exact yieldsC_moveG (wanted_none rfl) _ rfl (HF.get 5 rfl)) ?_
       replace HF := HF.put 55 (.int .i64 ix) (by decide) rfl
       generalize hB4_55 : Act.put _ _ _ = A at HF ⊢
       refine anyC_oneK (i:=3) (some 54) (by kernel_rfl) rfl (wanted_none rfl) rfl (fun K hK => ?_)
       refine wp_call1 (v0:=.agg (pgArr c p q kk)) rfl (HF.get 1 rfl) (enters_of Tryz.func55 (by kernel_rfl) rfl) ?_
       refine (g_bits HR.out HH.out.toPgIn F9 p kn D9 q kk hn HQ.out wq MR.out.1.view HK.out MR.out.1.inv).mono ?_
       intro e w10 he
       rcases MR.out.1.step (More.refl _) HK.out (good_read n PB.out.2.2.2.1) he with ⟨a',hE,rfl,hd',ht',_⟩ | ⟨x10,D10,F10,hE,rfl,M10',hq10,hk10,hf10⟩
       · exact FIND _ _ HF.1.2 (NEED.out a' w10 (RN.out.symm.trans (bindP_need hE)) hd' ht')
       have R10 := hQQ (RN.out.symm.trans (bindP_ok hE))
       have nz10 : ¬ F10 (w.heap.size + 1) := M10'.off HZL.out HNZ.out
       have M10 : Hid (MidV w2 w10 F (fun b => b = w.heap.size + 1) p kn n D10 F10 ∧ w10.heap[w.heap.size + 1]? = some (.cells pgZ 83 (0,0)) ∧ w10.heap[gb]? = some (.cells (pgArr c p q kk) 83 (0,0))) := hQQ ⟨M10',hk10 _ _ (MR.out.1.off HZL.out HNZ.out) MR.out.2.1,hk10 _ _ HNB.out MR.out.2.2⟩
       clear he hE hk10 hf10
       refine hK _ _ (KC.out _ _ _ M10.out) ?_
       clear hK K
       replace HF := HF.put 54 (.int .i64 x10) (by decide) rfl
       generalize hB5_54 : Act.put _ _ _ = A at HF ⊢
       refine anyC_oneK (i:=5) (some 56) (by kernel_rfl) rfl (wanted_none rfl) rfl (fun K hK => ?_)
       refine wp_call2 (v0:=.int .i64 x10) (v1:=.int .i64 ix) rfl (HF.get 0 rfl) (HF.get 1 rfl) (enters_of Tryz.func27 (by kernel_rfl) rfl) ?_
       refine (o_has x10 ix w10).mono ?_
       rintro e w11 ⟨rfl,rfl⟩
       refine hK _ _ (KC.out _ _ _ M10.out) ?_
       clear hK K
       replace HF := HF.put 56 (.bool (hasB x10 ix)) (by decide) rfl
       generalize hB6_56 : Act.put _ _ _ = A at HF ⊢
       refine anyC_oneK (i:=6) none (by kernel_rfl) rfl (wanted_none rfl) rfl (fun K hK => ?_)
       refine wp_store_row 83 _ _ rfl (w.heap.size + 1) _ (HF.get 6 rfl) (HF.get 5 rfl) 83 pgZ M10.out.2.1 (by kernel_rfl) rfl (pg_one ..) ?_
       have MS := M10.out.1.row (b:=w.heap.size + 1) (fun _ => rfl) nz10 (pgArr c p q kk) M10.out.2.1
       have HS1 := setRow_heap _ (w.heap.size + 1) pgZ (pgArr c p q kk) _ _ M10.out.2.1
       have HS2 := setRow_oth (cs:=pgArr c p q kk) M10.out.2.2 (show gb ≠ w.heap.size + 1 by have := HGB.out; have := HZL.out; omega)
       refine hK _ _ HS2 ?_
       clear hK K
       rw [show ∀ (a : Act) (v : Value),a.put none v = a from fun _ _ => rfl]
       generalize World.setRow _ _ _ = wz at MS HS1 HS2 ⊢
       have HS2H := hQQ HS2
       refine anyC_takeD (i:=7) (v:=.int .i64 ix) (some 7) rfl rfl (by kernel_rfl) (by kernel_rfl) (by kernel_rfl) (fun c a w => FINQ c a _ _ w) (HS2H.out) (by exact yieldsC_assign (wanted_none rfl) _ rfl (HF.get 4 rfl)) ?_
       replace HF := HF.put 7 (.int .i64 ix) (by decide) rfl
       generalize hB7_7 : Act.put _ _ _ = A at HF ⊢
       refine anyC_takeD (i:=8) (v:=.bool (hasB x10 ix)) (some 8) rfl rfl (by kernel_rfl) (by kernel_rfl) (by kernel_rfl) (fun c a w => FINQ c a _ _ w) (HS2H.out) (by exact yieldsC_assign (wanted_none rfl) _ rfl (HF.get 1 rfl)) ?_
       replace HF := HF.put 8 (.bool (hasB x10 ix)) (by decide) rfl
       generalize hB8_8 : Act.put _ _ _ = A at HF ⊢
       exact anyC_done (by kernel_rfl) (FINE _ _ ⟨(.agg (pgArr c p q kk)),(.int .i64 ix),(.agg (pgArr c p q kk)),(.int .i64 ix),(.int .i64 x10),(.bool (hasB x10 ix)),x10,D10,F10,by rw [← hB8_8,← hB7_7,← hB6_56,← hB5_54,← hB4_55,← hB3_53,← hB2_52,← hB1_51],MS,HS1,R10.out⟩)
     · rw [if_pos (by simpa using hm0)] at hr
       have d1 : (mm != 0) = true := by simpa using hm0
       go_wp2_with fail
       refine (CS.out w10 (SZ.out _ _ _ M10.out.1)).mono ?_
       rintro e w11 ⟨rfl,h11⟩
       have M11 := hQQ (And.intro (M10.out.1.more h11) (And.intro (h11.block M10.out.2.1) (h11.block M10.out.2.2)))
       clear h11 c0 c25 c26
       have MZ := M11.out.1.row (b:=w.heap.size + 1) (fun _ => rfl) (M11.out.1.off HZL.out HNZ.out) pgZ M11.out.2.1
       have HZ := setRow_heap _ (w.heap.size + 1) pgZ pgZ _ _ M11.out.2.1
       obtain ⟨wz,ez⟩ : ∃ wz,World.setRow w11 (w.heap.size + 1) pgZ = wz := ⟨_,rfl⟩
       have Z0 := hQQ M11.out.2.1
       rw [ez] at MZ HZ
       have FIN := hQQ (DONE.out none wz D9 F9 (hr.symm) MZ)
       clear MZ
       go_wp2_with (first | (refine wpList_zero rfl rfl ?_) | (refine wpList_store_row rfl 83 _ _ rfl _ _ rfl rfl 83 _ Z0.out (by kernel_rfl) rfl (by kernel_rfl) ?_))
       refine bodyPost_ret (results_row3 rfl _ _ (w.heap.size + 1) 83 pgZ _ _ rfl HZ Tryz.underlying83 rfl (by kernel_rfl)) rfl ?_
       exact FIN.out
   intro QQ FINE FIND FINQ
   clear hA
   refine anyC_takeD (i:=0) (v:=.pointer (some ⟨p,0,none⟩)) (some 24) rfl rfl (by kernel_rfl) (by kernel_rfl) (by kernel_rfl) (fun c a w => FINQ c a _ _ w) (KC.out _ _ _ MR.out) (by exact yieldsC_moveG (wanted_none rfl) _ rfl (HF.get 0 rfl)) ?_
   replace HF := HF.put 24 (.pointer (some ⟨p,0,none⟩)) (by decide) rfl
   generalize hB1_24 : Act.put _ _ _ = A at HF ⊢
   refine anyC_takeD (i:=1) (v:=.agg c.arr) (some 25) rfl rfl (by kernel_rfl) (by kernel_rfl) (by kernel_rfl) (fun c a w => FINQ c a _ _ w) (KC.out _ _ _ MR.out) (by exact yieldsC_row (C:=(fun W => W.heap[w.heap.size]? = some (.cells c.arr 28 (0,0)))) (wanted_none rfl) 28 _ rfl w.heap.size (HF.get 2 rfl) 28 _ _ _ (fun W hW => hW) Tryz.underlying28 rfl (by kernel_rfl)) ?_
   replace HF := HF.put 25 (.agg c.arr) (by decide) rfl
   generalize hB2_25 : Act.put _ _ _ = A at HF ⊢
   refine anyC_takeD (i:=2) (v:=.int .i64 q) (some 26) rfl rfl (by kernel_rfl) (by kernel_rfl) (by kernel_rfl) (fun c a w => FINQ c a _ _ w) (KC.out _ _ _ MR.out) (by exact yieldsC_moveG (wanted_none rfl) _ rfl (HF.get 4 rfl)) ?_
   replace HF := HF.put 26 (.int .i64 q) (by decide) rfl
   generalize hB3_26 : Act.put _ _ _ = A at HF ⊢
   refine anyC_takeD (i:=3) (v:=.pointer (some ⟨p,0,none⟩)) (some 27) rfl rfl (by kernel_rfl) (by kernel_rfl) (by kernel_rfl) (fun c a w => FINQ c a _ _ w) (KC.out _ _ _ MR.out) (by exact yieldsC_moveG (wanted_none rfl) _ rfl (HF.get 3 rfl)) ?_
   replace HF := HF.put 27 (.pointer (some ⟨p,0,none⟩)) (by decide) rfl
   generalize hB4_27 : Act.put _ _ _ = A at HF ⊢
   refine anyC_takeD (i:=4) (v:=.agg c.arr) (some 28) rfl rfl (by kernel_rfl) (by kernel_rfl) (by kernel_rfl) (fun c a w => FINQ c a _ _ w) (KC.out _ _ _ MR.out) (by exact yieldsC_row (C:=(fun W => W.heap[w.heap.size]? = some (.cells c.arr 28 (0,0)))) (wanted_none rfl) 28 _ rfl w.heap.size (HF.get 5 rfl) 28 _ _ _ (fun W hW => hW) Tryz.underlying28 rfl (by kernel_rfl)) ?_
   replace HF := HF.put 28 (.agg c.arr) (by decide) rfl
   generalize hB5_28 : Act.put _ _ _ = A at HF ⊢
   refine anyC_takeD (i:=5) (v:=.int .i64 q) (some 29) rfl rfl (by kernel_rfl) (by kernel_rfl) (by kernel_rfl) (fun c a w => FINQ c a _ _ w) (KC.out _ _ _ MR.out) (by exact yieldsC_moveG (wanted_none rfl) _ rfl (HF.get 7 rfl)) ?_
   replace HF := HF.put 29 (.int .i64 q) (by decide) rfl
   generalize hB6_29 : Act.put _ _ _ = A at HF ⊢
   refine anyC_two (i:=6) (j:=9) (some 30) (some 12) (by kernel_rfl) rfl rfl (wanted_none rfl) (wanted_none rfl) rfl rfl (fun K hK => ?_) (fun K hK => ?_)
   · refine wp_call3 (v0:=.pointer (some ⟨p,0,none⟩)) (v1:=.agg c.arr) (v2:=.int .i64 q) rfl (HF.get 2 rfl) (HF.get 1 rfl) (HF.get 0 rfl) (enters_of Tryz.func62 (by kernel_rfl) rfl) ?_
     refine (e_Kind HR.out HH.out.toPgIn F p kn D q wq MR.out.1.view HK.out MR.out.1.inv).mono ?_
     intro e w7 he
     rcases MR.out.1.step (More.refl _) HK.out (good_kind HH.out.toPgIn _) he with ⟨a',hE,rfl,hd',ht',_⟩ | ⟨x6,D6,F6,hE,rfl,M6',hq6,hk6,hf6⟩
     · exact FIND _ _ HF.1.2 (NEED.out a' w7 (HRr.out.symm.trans (bindP_need hE)) hd' ht')
     have R6 := hQQ ((bindP_ok hE).symm.trans HRr.out)
     have M6 : Hid (MidV w2 w7 F (fun b => b = w.heap.size + 1) p kn n D6 F6 ∧ w7.heap[w.heap.size + 1]? = some (.cells pgZ 83 (0,0))) := hQQ ⟨M6',hk6 _ _ HNZ.out MR.out.2⟩
     clear he hE hk6 hf6
     refine hK _ _ (KC.out _ _ _ M6.out) ?_
     clear hK K
     replace HF := HF.put 30 (.int .i64 x6) (by decide) rfl
     generalize hB7_30 : Act.put _ _ _ = A at HF ⊢
     refine anyC_takeD (i:=7) (v:=.int .i64 (IntKind.i64.wrap (x6 - 1))) (some 31) rfl rfl (by kernel_rfl) (by kernel_rfl) (by kernel_rfl) (fun c a w => FINQ c a _ _ w) (KC.out _ _ _ M6.out) (by exact yieldsC_subI (wanted_none rfl) rfl (HF.get 0 rfl) rfl _ rfl) ?_
     replace HF := HF.put 31 (.int .i64 (IntKind.i64.wrap (x6 - 1))) (by decide) rfl
     generalize hB8_31 : Act.put _ _ _ = A at HF ⊢
     refine anyC_takeD (i:=8) (v:=.agg (pgArr c p q (IntKind.i64.wrap (x6 - 1)))) (some 32) rfl rfl (by kernel_rfl) (by kernel_rfl) (by kernel_rfl) (fun c a w => FINQ c a _ _ w) (KC.out _ _ _ M6.out) (by exact yieldsC_page (wanted_none rfl) _ _ _ _ rfl c p q (IntKind.i64.wrap (x6 - 1)) (HF.get 7 rfl) (HF.get 6 rfl) (HF.get 5 rfl) (HF.get 0 rfl)) ?_
     replace HF := HF.put 32 (.agg (pgArr c p q (IntKind.i64.wrap (x6 - 1)))) (by decide) rfl
     generalize hB9_32 : Act.put _ _ _ = A at HF ⊢
     refine anyC_oneK (i:=9) (some 12) (by kernel_rfl) rfl (wanted_none rfl) rfl (fun K hK => ?_)
     refine wp_alloc_page rfl ?_
     obtain ⟨w8,e8,h8,m8⟩ := zero_page w7
     rw [e8]
     clear e8
     have M8 : Hid (MidV w2 w8 F (fun b => b = w.heap.size + 1) p kn n D6 F6 ∧ w8.heap[w.heap.size + 1]? = some (.cells pgZ 83 (0,0))) := hQQ ⟨M6.out.1.more m8,m8.block M6.out.2⟩
     have nb : ¬ F6 w7.heap.size := fun z => by have := M6.out.1.view.lt _ z; omega
     have lb := M6.out.1.size
     refine hK _ _ (KC.out _ _ _ M8.out) ?_
     clear hK K
     replace HF := HF.put 12 (.pointer (some ⟨w7.heap.size,0,none⟩)) (by decide) rfl
     generalize hB10_12 : Act.put _ _ _ = A at HF ⊢
     refine anyC_last (i:=10) (by kernel_rfl) (by kernel_rfl) rfl (wanted_none rfl) (fun K hK => ?_)
     refine wp_store_row 83 _ _ rfl (w7.heap.size) _ (HF.get 0 rfl) (HF.get 1 rfl) 83 pgZ h8 (by kernel_rfl) rfl (pg_one ..) ?_
     have MS := M8.out.1.row (b:=w7.heap.size) (fun q => by omega) nb (pgArr c p q (IntKind.i64.wrap (x6 - 1))) h8
     have HS1 := setRow_heap _ (w7.heap.size) pgZ (pgArr c p q (IntKind.i64.wrap (x6 - 1))) _ _ h8
     have HS2 := setRow_oth (cs:=pgArr c p q (IntKind.i64.wrap (x6 - 1))) M8.out.2 (show w.heap.size + 1 ≠ w7.heap.size by omega)
     refine hK _ _ (KC.out _ _ _ ⟨MS,HS2⟩) (FINE _ _ ⟨(.pointer (some ⟨p,0,none⟩)),(.agg c.arr),(.int .i64 q),(.pointer (some ⟨p,0,none⟩)),(.agg c.arr),(.int .i64 q),(.int .i64 x6),(.int .i64 (IntKind.i64.wrap (x6 - 1))),(.agg (pgArr c p q (IntKind.i64.wrap (x6 - 1)))),w7.heap.size,x6,D6,F6,?_,⟨MS,HS2,HS1,lb,nb⟩,R6.out⟩)
     rw [← hB10_12,← hB9_32,← hB8_31,← hB7_30,← hB6_29,← hB5_28,← hB4_27,← hB3_26,← hB2_25,← hB1_24]; rfl
   · refine wp_alloc_page rfl ?_
     obtain ⟨w7,e7,h7,m7⟩ := zero_page wq
     rw [e7]
     clear e7
     have M7 : Hid (MidV w2 w7 F (fun b => b = w.heap.size + 1) p kn n D F ∧ w7.heap[w.heap.size + 1]? = some (.cells pgZ 83 (0,0))) := hQQ ⟨MR.out.1.more m7,m7.block MR.out.2⟩
     have nb : ¬ F wq.heap.size := fun z => by have := MR.out.1.view.lt _ z; omega
     have lb := MR.out.1.size
     refine hK _ _ (KC.out _ _ _ M7.out) ?_
     clear hK K
     replace HF := HF.put 12 (.pointer (some ⟨wq.heap.size,0,none⟩)) (by decide) rfl
     generalize hB7_12 : Act.put _ _ _ = A at HF ⊢
     refine anyC_oneK (i:=6) (some 30) (by kernel_rfl) rfl (wanted_none rfl) rfl (fun K hK => ?_)
     refine wp_call3 (v0:=.pointer (some ⟨p,0,none⟩)) (v1:=.agg c.arr) (v2:=.int .i64 q) rfl (HF.get 3 rfl) (HF.get 2 rfl) (HF.get 1 rfl) (enters_of Tryz.func62 (by kernel_rfl) rfl) ?_
     refine (e_Kind HR.out HH.out.toPgIn F p kn D q w7 M7.out.1.view HK.out M7.out.1.inv).mono ?_
     intro e w8 he
     rcases M7.out.1.step (More.refl _) HK.out (good_kind HH.out.toPgIn _) he with ⟨a',hE,rfl,hd',ht',_⟩ | ⟨x6,D6,F6,hE,rfl,M6',hq6,hk6,hf6⟩
     · exact FIND _ _ HF.1.2 (NEED.out a' w8 (HRr.out.symm.trans (bindP_need hE)) hd' ht')
     have R6 := hQQ ((bindP_ok hE).symm.trans HRr.out)
     have M6 : Hid (MidV w2 w8 F (fun b => b = w.heap.size + 1) p kn n D6 F6 ∧ w8.heap[w.heap.size + 1]? = some (.cells pgZ 83 (0,0))) := hQQ ⟨M6',hk6 _ _ HNZ.out M7.out.2⟩
     have h8 := hk6 _ _ nb h7
     have nb8 : ¬ F6 wq.heap.size := fun z => by rcases hf6 _ z with q | q; exact nb q; have := lt_of_heap h7; omega
     clear he hE hk6 hf6
     refine hK _ _ (KC.out _ _ _ M6.out) ?_
     clear hK K
     replace HF := HF.put 30 (.int .i64 x6) (by decide) rfl
     generalize hB8_30 : Act.put _ _ _ = A at HF ⊢
     refine anyC_takeD (i:=7) (v:=.int .i64 (IntKind.i64.wrap (x6 - 1))) (some 31) rfl rfl (by kernel_rfl) (by kernel_rfl) (by kernel_rfl) (fun c a w => FINQ c a _ _ w) (KC.out _ _ _ M6.out) (by exact yieldsC_subI (wanted_none rfl) rfl (HF.get 0 rfl) rfl _ rfl) ?_
     replace HF := HF.put 31 (.int .i64 (IntKind.i64.wrap (x6 - 1))) (by decide) rfl
     generalize hB9_31 : Act.put _ _ _ = A at HF ⊢
     refine anyC_takeD (i:=8) (v:=.agg (pgArr c p q (IntKind.i64.wrap (x6 - 1)))) (some 32) rfl rfl (by kernel_rfl) (by kernel_rfl) (by kernel_rfl) (fun c a w => FINQ c a _ _ w) (KC.out _ _ _ M6.out) (by exact yieldsC_page (wanted_none rfl) _ _ _ _ rfl c p q (IntKind.i64.wrap (x6 - 1)) (HF.get 8 rfl) (HF.get 7 rfl) (HF.get 6 rfl) (HF.get 0 rfl)) ?_
     replace HF := HF.put 32 (.agg (pgArr c p q (IntKind.i64.wrap (x6 - 1)))) (by decide) rfl
     generalize hB10_32 : Act.put _ _ _ = A at HF ⊢
     refine anyC_last (i:=10) (by kernel_rfl) (by kernel_rfl) rfl (wanted_none rfl) (fun K hK => ?_)
     refine wp_store_row 83 _ _ rfl (wq.heap.size) _ (HF.get 3 rfl) (HF.get 0 rfl) 83 pgZ h8 (by kernel_rfl) rfl (pg_one ..) ?_
     have MS := M6.out.1.row (b:=wq.heap.size) (fun q => by omega) nb8 (pgArr c p q (IntKind.i64.wrap (x6 - 1))) h8
     have HS1 := setRow_heap _ (wq.heap.size) pgZ (pgArr c p q (IntKind.i64.wrap (x6 - 1))) _ _ h8
     have HS2 := setRow_oth (cs:=pgArr c p q (IntKind.i64.wrap (x6 - 1))) M6.out.2 (show w.heap.size + 1 ≠ wq.heap.size by omega)
     refine hK _ _ (KC.out _ _ _ ⟨MS,HS2⟩) (FINE _ _ ⟨(.pointer (some ⟨p,0,none⟩)),(.agg c.arr),(.int .i64 q),(.pointer (some ⟨p,0,none⟩)),(.agg c.arr),(.int .i64 q),(.int .i64 x6),(.int .i64 (IntKind.i64.wrap (x6 - 1))),(.agg (pgArr c p q (IntKind.i64.wrap (x6 - 1)))),wq.heap.size,x6,D6,F6,?_,⟨MS,HS2,HS1,lb,nb8⟩,R6.out⟩)
     rw [← hB10_32,← hB9_31,← hB8_30,← hB7_12,← hB6_29,← hB5_28,← hB4_27,← hB3_26,← hB2_25,← hB1_24,put_com (i:=12) (j:=30) (by decide),put_com (i:=12) (j:=31) (by decide),put_com (i:=12) (j:=32) (by decide)]; rfl
 · rw [if_neg hin] at hRr
   have PL := hQQ (xplace_out HR.out w2 ad (by unfold Cfg.us at hin; show ad < userV c.cp c.pg c.st c.ca c.bi ∨ userV c.cp c.pg c.st c.ca c.bi + 32 * c.pg ≤ ad; omega))
   have PL := hQQ (show Calls Tryz.prog 26 #[.agg c.arr,.int .i64 ad] w2 (Gives w2 (.tuple #[.int .i64 0,.int .i64 0,.bool false])) from PL.out)
   clear hin
   go_enter Tryz.func64,Tryz.ntmps64
   go_wp2_with (refine wpList_load_rowG rfl 28 _ rfl _ rfl 28 _ _ _ L2.out Tryz.underlying28 rfl (by kernel_rfl) ?_)
   refine PL.out.mono ?_
   rintro e w3 ⟨rfl,h3⟩
   have M3 := hQQ (And.intro (M0.out.1.more h3) (h3.block M0.out.2))
   clear h3
   have MZ := M3.out.1.row (b:=w.heap.size + 1) (fun _ => rfl) (M3.out.1.off HZL.out HNZ.out) pgZ M3.out.2
   have HZ := setRow_heap _ (w.heap.size + 1) pgZ pgZ _ _ M3.out.2
   obtain ⟨wz,ez⟩ : ∃ wz,World.setRow w3 (w.heap.size + 1) pgZ = wz := ⟨_,rfl⟩
   have Z0 := hQQ M3.out.2
   rw [ez] at MZ HZ
   have FIN := hQQ (DONE.out none wz D F (hRr.symm) MZ)
   clear MZ
   go_wp2_with (first | (refine wpList_zero rfl rfl ?_) | (refine wpList_store_row rfl 83 _ _ rfl _ _ rfl rfl 83 _ Z0.out (by kernel_rfl) rfl (by kernel_rfl) ?_))
   refine bodyPost_ret (results_row3 rfl _ _ (w.heap.size + 1) 83 pgZ _ _ rfl HZ Tryz.underlying83 rfl (by kernel_rfl)) rfl ?_
   exact FIN.out
end Go.Proofs.YtflihdcliknggaaGreatDoor
