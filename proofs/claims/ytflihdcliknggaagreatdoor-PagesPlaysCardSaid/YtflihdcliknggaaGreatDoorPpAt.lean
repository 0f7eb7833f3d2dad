/-
  The document's own answers for class that pages' take: how many words a block has, and how many blocks a page has.
-/
import Derived.Test.YtflihdcliknggaaGreatDoorPpAl
import Derived.WalkKit
import Derived.WalkSpells
import Derived.WalkLawsBesides
import Derived.Outline
import Derived.IntWalk
import Derived.Lib.Hide
import Derived.Test.YtflihdcliknggaaGreatDoorPpAq
import Derived.Test.YtflihdcliknggaaGreatDoorPpAr
import Derived.Test.YtflihdcliknggaaGreatDoorPpAs
import Derived.Test.YtflihdcliknggaaGreatDoorPpAh
set_option maxRecDepth 100000
set_option maxHeartbeats 8000000
set_option linter.unusedVariables false
set_option linter.unusedSimpArgs false
set_option linter.unusedSectionVars false
namespace Go.Proofs.YtflihdcliknggaaGreatDoor
open Go.RowKit
theorem sz_step {k : Nat} (h : k < 4) : szV k * 2 = szV ((k + 1 : Nat) : Int) ∧ 1 ≤ szV k ∧ szV k ≤ 16 := by
 rcases ways5c (show k ≤ 4 by omega) with rfl | rfl | rfl | rfl | rfl <;> first | omega | decide
variable (w : World)
theorem r3size_in (c : Nat) (h : c ≤ 4) : Calls Tryz.prog 74 #[.int .i64 c] w fun e w' => e = .returned (.int .i64 (szV c)) ∧ w' = w := by
 have d0 : decide ((c : Int) < 0) = false := by simp
 have d1 : decide ((4 : Int) < (c : Int)) = false := by simp; omega
 have d1b : decide (4 < c) = false := by simp; omega
 go_enter Tryz.func74,Tryz.ntmps74
 go_wp2_with fail
 go_loop [3,4] (fun n i => ∃ k : Nat,k ≤ c ∧ i = .int .i64 k ∧ n = .int .i64 (szV k)) (fun _ i => c - (intOf i).toNat)
 case atStart => exact ⟨0,Nat.zero_le _,rfl,rfl⟩
 case round =>
   obtain ⟨k,hk,rfl,rfl⟩ := hrel
   by_cases hlt : k < c
   · obtain ⟨a1,a2,a3⟩ := sz_step (show k < 4 by omega)
     have q0 : IntKind.i64.wrap (szV k * 2) = szV ((k + 1 : Nat) : Int) := by rw [a1]; have := sz_b (show k + 1 ≤ 4 by omega); exact wrap_in (by omega) (by omega)
     clear a1
     have d2 : decide ((k : Int) < (c : Int)) = true := by simp; omega
     go_wp2_with fail
     go_round
     case rel => exact ⟨k + 1,by omega,by go_num,rfl⟩
     case measure => simp [intOf]; omega
   · have he : k = c := by omega
     subst he
     have d2 : decide ((k : Int) < (k : Int)) = false := by simp
     go_wp2_with fail
     go_ret
     exact ⟨rfl,rfl⟩
theorem r3size (c : Int) : Calls Tryz.prog 74 #[.int .i64 c] w fun e w' => e = .returned (.int .i64 (szV c)) ∧ w' = w := by
 by_cases h : c < 0 ∨ 4 < c
 · rw [sz_none h]
   by_cases c0 : c < 0
   · have d0 : decide (c < 0) = true := by simp; omega
     go_enter Tryz.func74,Tryz.ntmps74
     go_wp2_with fail
     go_ret
     exact ⟨rfl,rfl⟩
   · have d0 : decide (c < 0) = false := by simp; omega
     have d1 : decide (4 < c) = true := by simp; omega
     go_enter Tryz.func74,Tryz.ntmps74
     go_wp2_with fail
     go_ret
     exact ⟨rfl,rfl⟩
 · obtain ⟨k,rfl⟩ : ∃ k : Nat,c = k := ⟨c.toNat,by omega⟩
   exact r3size_in w k (by omega)
theorem r3slots (c : Int) : Calls Tryz.prog 78 #[.int .i64 c] w fun e w' => e = .returned (.int .i64 (slotsC c)) ∧ w' = w := by
 by_cases h : c < 0 ∨ 4 < c
 · rw [slotsC_none h]
   by_cases c0 : c < 0
   · have d0 : decide (c < 0) = true := by simp; omega
     go_enter Tryz.func78,Tryz.ntmps78
     go_wp2_with fail
     go_ret
     exact ⟨rfl,rfl⟩
   · have d0 : decide (c < 0) = false := by simp; omega
     have d1 : decide (4 < c) = true := by simp; omega
     go_enter Tryz.func78,Tryz.ntmps78
     go_wp2_with fail
     go_ret
     exact ⟨rfl,rfl⟩
 · obtain ⟨k,rfl⟩ : ∃ k : Nat,c = k := ⟨c.toNat,by omega⟩
   have hk : k ≤ 4 := by omega
   have d0 : decide ((k : Int) < 0) = false := by simp
   have d1 : decide ((4 : Int) < (k : Int)) = false := by simp; omega
   have d1b : decide (4 < k) = false := by simp; omega
   have sb := sz_b hk
   obtain ⟨s1,s2,s3⟩ := slots_of_sz hk
   have d2 : (szV k == 0) = false := by simp; omega
   have q0 : IntKind.i64.wrap ((32 : Int).tdiv (szV k)) = slotsC k := by rw [s1]; exact wrap_in (by omega) (by omega)
   clear s1
   go_enter Tryz.func78,Tryz.ntmps78
   go_wp2_with fail
   refine (r3size _ k).mono ?_
   rintro e w1 ⟨rfl,rfl⟩
   go_wp2_with fail
   go_ret
   exact ⟨rfl,rfl⟩
end Go.Proofs.YtflihdcliknggaaGreatDoor
namespace Go.Proofs.YtflihdcliknggaaGreatDoor
open Go.RowKit Go.Sort Go.Maps Go.Shelf
theorem r3sizeG (k : Int) (w : World) : Calls Tryz.prog 74 #[.int .i64 k] w (Gives w (.int .i64 (szV k))) := (r3size w k).mono fun e w' q => ⟨q.1,q.2 ▸ More.refl _⟩
theorem r3slotsG (k : Int) (w : World) : Calls Tryz.prog 78 #[.int .i64 k] w (Gives w (.int .i64 (slotsC k))) := (r3slots w k).mono fun e w' q => ⟨q.1,q.2 ▸ More.refl _⟩
theorem r_hasG (x i : Int) (w : World) : Calls Tryz.prog 90 #[.int .i64 x,.int .i64 i] w (Gives w (.bool (hasB x i))) := (r_has x i w).mono fun e w' q => ⟨q.1,q.2 ▸ More.refl _⟩
theorem r_firstG (x n : Int) (w : World) : Calls Tryz.prog 81 #[.int .i64 x,.int .i64 n] w (Gives w (.int .i64 (slFirstV x n))) := (r_first x n w).mono fun e w' q => ⟨q.1,q.2 ▸ More.refl _⟩
theorem r_setG {x : Int} (i : Int) (h : W64 x) (w : World) : Calls Tryz.prog 83 #[.int .i64 x,.int .i64 i] w (Gives w (.int .i64 (setV x i))) := (r_set x i h.1 h.2 w).mono fun e w' q => ⟨q.1,q.2 ▸ More.refl _⟩
theorem r_clearG {x : Int} (i : Int) (h : W64 x) (w : World) : Calls Tryz.prog 87 #[.int .i64 x,.int .i64 i] w (Gives w (.int .i64 (clearV x i))) := (r_clear x i h.1 h.2 w).mono fun e w' q => ⟨q.1,q.2 ▸ More.refl _⟩
theorem szV_zero {k : Int} : szV k = 0 ↔ slotsC k = 0 := by
 unfold szV slotsC
 (repeat' split) <;> simp
theorem r11_Taken {c : Cfg} (R : c.Ok) (ws : List Int) (H : HdIn c.pg c.st ws.length) (hl : ws.length ≤ 1000) {G : Int → List Int} (F : PgF c.pg c.st G ws) (g cap : Nat) (ad : Int) (w : World) (hw : Ws w g cap ws) :
   Calls Tryz.prog 46 #[.agg c.cells,.slice (some ⟨g,0,none⟩) ws.length cap,.int .i64 ad] w (Gives w (.tuple #[.int .i64 (lookV c.us c.pg c.st ad ws).1,.bool (lookV c.us c.pg c.st ad ws).2])) := by
 obtain ⟨res,hres⟩ : ∃ res,lookV c.us c.pg c.st ad ws = res := ⟨_,rfl⟩
 rw [hres]
 unfold lookV takenV at hres
 by_cases hin : c.us ≤ ad ∧ ad < c.us + 32 * c.pg
 · rw [if_pos hin] at hres
   obtain ⟨hq,hwd⟩ := place_b hin
   have hkd := F.kd _ hq
   have PL := hQQ (fun W => rplace_in c.wk c.cp c.pg c.st c.tr c.wt c.ck c.pr c.ca c.bi c.ba W ad R hin.1 hin.2)
   have PL := hQQ (show ∀ W,Calls Tryz.prog 86 #[.agg c.cells,.int .i64 ad] W (Gives W (.tuple #[.int .i64 ((ad - c.us) / 32),.int .i64 ((ad - c.us) % 32),.bool true])) from PL.out)
   generalize (ad - c.us) / 32 = q at hres hq hkd PL
   generalize (ad - c.us) % 32 = wd at hres hwd PL
   clear hin
   obtain ⟨⟨q0,q1,_⟩,_,q4,q5,_⟩ := page_b H.toPgIn hq
   obtain ⟨b0,hb0⟩ : ∃ b : Nat,kA c.pg c.st q = (b : Int) := ⟨(kA c.pg c.st q).toNat,by omega⟩
   obtain ⟨b2,hb2⟩ : ∃ b : Nat,bA c.pg c.st q = (b : Int) := ⟨(bA c.pg c.st q).toNat,by omega⟩
   have l0 : b0 < ws.length := by omega
   have l2 : b2 < ws.length := by omega
   have P0 := hQQ ((page0 (st:=c.st) hq).trans hb0)
   have P2 := hQQ ((page2 (st:=c.st) hq).trans hb2)
   have ek : ws.getD b0 0 = kindV c.pg c.st ws q := by rw [kind_in hq,hb0]; rfl
   have eb : ws.getD b2 0 = bitV c.pg c.st ws q := by unfold bitV; rw [hb2]; rfl
   have CK : Hid (∀ W,Ws W g cap ws → W.cell? ⟨g,b0,none⟩ = some (.int .i64 (kindV c.pg c.st ws q))) := hQQ fun W hW => by rw [← ek]; exact hW.cell l0
   have CB : Hid (∀ W,Ws W g cap ws → W.cell? ⟨g,b2,none⟩ = some (.int .i64 (bitV c.pg c.st ws q))) := hQQ fun W hW => by rw [← eb]; exact hW.cell l2
   unfold tkRestV at hres
   generalize kindV c.pg c.st ws q = kd at hres hkd CK
   generalize bitV c.pg c.st ws q = bt at hres CB
   have hwr : IntKind.i64.wrap (kd - 1) = kd - 1 := wrap_in (by omega) (by omega)
   rw [hwr] at hres
   clear ek eb hb0 hb2 q0 q1 q4 q5 hq
   have hc := row_new w c.cells 30
   have HR := hQQ R
   have HH := hQQ H
   have hgl := hw.lt
   obtain ⟨w1,e1⟩ : ∃ w1,w.alloc (.cells c.cells 30) = w1 := ⟨_,rfl⟩
   have m1 : More w w1 := by rw [← e1]; exact (More.refl w).alloc _
   rw [e1] at hc
   have HC := hQQ hc
   have HM := hQQ m1
   have HW := hQQ (hw.more m1)
   have x2 : w1.cell? ⟨w.heap.size,2,none⟩ = some (.int .i64 c.pg) := cell_more hc (More.refl _) rfl
   have X2 := hQQ x2
   have pg1 := R.pg1
   have pg2 := R.pg2
   clear x2 m1 hw R H hc
   obtain ⟨kk,hkk⟩ : ∃ kk,kd - 1 = kk := ⟨_,rfl⟩
   rw [hkk] at hres hwr
   have hkb : -1 ≤ kk ∧ kk ≤ 4 := by omega
   go_enter Tryz.func46,Tryz.ntmps46
   go_wp2_with (refine wpList_load_rowG rfl 30 _ rfl _ rfl 30 _ _ _ HC.out Tryz.underlying30 rfl (by kernel_rfl) ?_)
   clear e1
   refine (PL.out _).mono ?_
   rintro e w2 ⟨rfl,h2⟩
   have M2 := hQQ h2
   have HC2 := hQQ (h2.block HC.out)
   clear h2
   go_wp2_with (refine wpList_load_rowG rfl 30 _ rfl _ rfl 30 _ _ _ HC2.out Tryz.underlying30 rfl (by kernel_rfl) ?_)
   refine (y_rkind HR.out q _).mono ?_
   rw [P0.out]
   rintro e w3 ⟨rfl,h3⟩
   have M3 := hQQ (M2.out.trans h3)
   have x3 := CK.out _ (HW.out.more M3.out)
   clear h3
   go_wp2_with fail
   refine (r3sizeG kk _).mono ?_
   rintro e w4 ⟨rfl,h4⟩
   have M4 := hQQ (M3.out.trans h4)
   have HC4 := hQQ (M4.out.block HC.out)
   clear h4 x3
   by_cases hz : slotsC kk = 0
   · rw [if_pos hz] at hres
     have hz' := szV_zero.2 hz
     have HRES := hQQ hres.symm
     clear hres hwr hkk hz
     rw [hz']
     go_wp2_with fail
     refine wp_region_more (by kernel_rfl) (by kernel_rfl) ?_
     iterate 21
       with_reducible refine wpQuiet_step (fun K hK => ?_)
       go_simp
       first
       | (refine hK _ ?_; clear hK K)
       | (apply Exists.intro
          refine ⟨fun W hW => ?_,hK _ ?_⟩
          first
          | (go_simp; try rfl)
          clear hK K)
     refine wpQuiet_nil ?_
     intro w9 h9
     have FIN := hQQ (HM.out.trans (M4.out.trans h9))
     clear h9
     go_wp2_with fail
     go_ret2
     exact ⟨by rw [HRES.out]; rfl,FIN.out⟩
   rw [if_neg hz] at hres
   have hk4 := slots_cls hz
   obtain ⟨z,rfl⟩ : ∃ z : Nat,kk = (z : Int) := ⟨kk.toNat,by omega⟩
   have hsb := sz_b (k:=z) (by omega)
   obtain ⟨sz,hsz⟩ : ∃ sz,szV (z : Int) = sz := ⟨_,rfl⟩
   rw [hsz] at hres hsb ⊢
   have t1 : wd.tmod sz = wd % sz := Int.tmod_eq_emod_of_nonneg hwd.1
   have t2 : wd.tdiv sz = wd / sz := Int.tdiv_eq_ediv_of_nonneg hwd.1
   have t4 : 0 ≤ wd / sz ∧ wd / sz ≤ wd := ⟨Int.ediv_nonneg hwd.1 (by omega),Int.ediv_le_self _ hwd.1⟩
   have t5 : IntKind.i64.wrap (wd / sz) = wd / sz := wrap_in (by omega) (by omega)
   have z0 : (sz == 0) = false := by simp; omega
   have z1 : decide (sz = 0) = false := by simp; omega
   have z2 : (sz == -1) = false := by simp; omega
   have z3 : decide (sz = -1) = false := by simp; omega
   have z4 : ¬ sz = 0 := by omega
   have z5 : ¬ sz = -1 := by omega
   obtain ⟨ix,hix⟩ : ∃ ix,wd / sz = ix := ⟨_,rfl⟩
   obtain ⟨mm,hmm⟩ : ∃ mm,wd % sz = mm := ⟨_,rfl⟩
   rw [hix] at hres t2 t5
   rw [hmm] at hres t1
   clear t4 hix hmm hsz hwr hkk hz hk4 hkb
   by_cases hm0 : mm = 0
   · rw [if_neg (by simpa using hm0)] at hres
     have d1 : (mm != 0) = false := by simp [hm0]
     have x4 := CB.out _ (HW.out.more M4.out)
     have hbb : (b2 : Int) < ws.length := by omega
     obtain ⟨hv,hhv⟩ : ∃ hv,hasB bt ix = hv := ⟨_,rfl⟩
     rw [hhv] at hres
     have YH := hQQ (fun W => hhv ▸ r_hasG bt ix W)
     have YB := hQQ (fun W => P2.out ▸ y_rbits HR.out q W)
     clear hm0 hhv
     cases hv with
     | true =>
       have HRES := hQQ hres.symm
       clear hres
       go_wp2_with fail
       refine wp_region_more (by kernel_rfl) (by kernel_rfl) ?_
       iterate 10
         with_reducible refine wpQuiet_step (fun K hK => ?_)
         go_simp
         first
         | (refine hK _ ?_; clear hK K)
         | (apply Exists.intro
            refine ⟨fun W hW => ?_,hK _ ?_⟩
            first
            | (go_simp; try rfl)
            clear hK K)
       refine wpQuiet_load_row rfl 30 _ rfl _ rfl 30 _ _ _ (fun W hW => hW.block HC4.out) Tryz.underlying30 rfl (by kernel_rfl) ?_
       iterate 10
         with_reducible refine wpQuiet_step (fun K hK => ?_)
         go_simp
         first
         | (refine hK _ ?_; clear hK K)
         | (apply Exists.intro
            refine ⟨fun W hW => ?_,hK _ ?_⟩
            first
            | (go_at_call 82; exact Calls.more hW (YB.out W))
            | (go_at_call 90; exact Calls.more hW (YH.out W))
            | (have x4' := hW.cell x4; go_simp; try rfl)
            clear hK K)
       refine wpQuiet_nil ?_
       intro w9 h9
       have FIN := hQQ (HM.out.trans (M4.out.trans h9))
       clear h9
       go_wp2_with fail
       go_ret2
       exact ⟨by rw [HRES.out]; rfl,FIN.out⟩
     | false =>
       have HRES := hQQ hres.symm
       clear hres
       go_wp2_with fail
       refine wp_region_more (by kernel_rfl) (by kernel_rfl) ?_
       iterate 10
         with_reducible refine wpQuiet_step (fun K hK => ?_)
         go_simp
         first
         | (refine hK _ ?_; clear hK K)
         | (apply Exists.intro
            refine ⟨fun W hW => ?_,hK _ ?_⟩
            first
            | (go_simp; try rfl)
            clear hK K)
       refine wpQuiet_load_row rfl 30 _ rfl _ rfl 30 _ _ _ (fun W hW => hW.block HC4.out) Tryz.underlying30 rfl (by kernel_rfl) ?_
       iterate 10
         with_reducible refine wpQuiet_step (fun K hK => ?_)
         go_simp
         first
         | (refine hK _ ?_; clear hK K)
         | (apply Exists.intro
            refine ⟨fun W hW => ?_,hK _ ?_⟩
            first
            | (go_at_call 82; exact Calls.more hW (YB.out W))
            | (go_at_call 90; exact Calls.more hW (YH.out W))
            | (have x4' := hW.cell x4; go_simp; try rfl)
            clear hK K)
       refine wpQuiet_nil ?_
       intro w9 h9
       have FIN := hQQ (HM.out.trans (M4.out.trans h9))
       clear h9
       go_wp2_with fail
       go_ret2
       exact ⟨by rw [HRES.out]; rfl,FIN.out⟩
   · rw [if_pos (by simpa using hm0)] at hres
     have d1 : (mm != 0) = true := by simpa using hm0
     have HRES := hQQ hres.symm
     clear hres hm0
     go_wp2_with fail
     refine wp_region_more (by kernel_rfl) (by kernel_rfl) ?_
     iterate 21
       with_reducible refine wpQuiet_step (fun K hK => ?_)
       go_simp
       first
       | (refine hK _ ?_; clear hK K)
       | (apply Exists.intro
          refine ⟨fun W hW => ?_,hK _ ?_⟩
          first
          | (go_simp; try rfl)
          clear hK K)
     refine wpQuiet_nil ?_
     intro w9 h9
     have FIN := hQQ (HM.out.trans (M4.out.trans h9))
     clear h9
     go_wp2_with fail
     go_ret2
     exact ⟨by rw [HRES.out]; rfl,FIN.out⟩
 · rw [if_neg hin] at hres
   have PL := hQQ (fun W => rplace_out c.wk c.cp c.pg c.st c.tr c.wt c.ck c.pr c.ca c.bi c.ba W ad R (by unfold Cfg.us at hin; show ad < userV c.cp c.pg c.st c.ca c.bi ∨ userV c.cp c.pg c.st c.ca c.bi + 32 * c.pg ≤ ad; omega))
   have PL := hQQ (show ∀ W,Calls Tryz.prog 86 #[.agg c.cells,.int .i64 ad] W (Gives W (.tuple #[.int .i64 0,.int .i64 0,.bool false])) from PL.out)
   clear hin
   have HRES := hQQ hres.symm
   clear hres
   have hc := row_new w c.cells 30
   have HR := hQQ R
   have HH := hQQ H
   have hgl := hw.lt
   obtain ⟨w1,e1⟩ : ∃ w1,w.alloc (.cells c.cells 30) = w1 := ⟨_,rfl⟩
   have m1 : More w w1 := by rw [← e1]; exact (More.refl w).alloc _
   rw [e1] at hc
   have HC := hQQ hc
   have HM := hQQ m1
   have HW := hQQ (hw.more m1)
   have x2 : w1.cell? ⟨w.heap.size,2,none⟩ = some (.int .i64 c.pg) := cell_more hc (More.refl _) rfl
   have X2 := hQQ x2
   have pg1 := R.pg1
   have pg2 := R.pg2
   clear x2 m1 hw R H hc
   go_enter Tryz.func46,Tryz.ntmps46
   go_wp2_with (refine wpList_load_rowG rfl 30 _ rfl _ rfl 30 _ _ _ HC.out Tryz.underlying30 rfl (by kernel_rfl) ?_)
   clear e1
   refine (PL.out _).mono ?_
   rintro e w2 ⟨rfl,h2⟩
   have FIN := hQQ (HM.out.trans h2)
   clear h2
   go_wp2_with fail
   go_ret2
   exact ⟨by rw [HRES.out]; rfl,FIN.out⟩
theorem r11_Room {c : Cfg} (R : c.Ok) (ws : List Int) (H : HdIn c.pg c.st ws.length) (hl : ws.length ≤ 1000) {G : Int → List Int} (L : Ln c.pg c.st G ws) (g cap : Nat) (k : Int) (w : World) (hw : Ws w g cap ws) :
   Calls Tryz.prog 47 #[.agg c.cells,.slice (some ⟨g,0,none⟩) ws.length cap,.int .i64 k] w (Gives w (.bool (roomV c.pg c.st k ws))) := by
 have FI := hQQ (fun W (hW : Ws W g cap ws) => r10_First R ws H hl L g cap k W hW)
 have hb := plFirst_b H k (slotsC k).toNat ws 1
 unfold roomV
 obtain ⟨x,hx⟩ : ∃ x,plFirstV c.pg c.st k (slotsC k).toNat 1 ws = x := ⟨_,rfl⟩
 rw [hx] at FI hb ⊢
 have hd : decide (0 ≤ x) = (x != -1) := by
   rcases hb with e | e
   · rw [e]; rfl
   · have := isPage_iff.1 e
     have e1 : (x != -1) = true := by simp; omega
     rw [e1]; simp; omega
 have HD := hQQ hd
 clear hb hx hd
 have hc := row_new w c.cells 30
 have HR := hQQ R
 have HH := hQQ H
 have hgl := hw.lt
 obtain ⟨w1,e1⟩ : ∃ w1,w.alloc (.cells c.cells 30) = w1 := ⟨_,rfl⟩
 have m1 : More w w1 := by rw [← e1]; exact (More.refl w).alloc _
 rw [e1] at hc
 have HC := hQQ hc
 have HM := hQQ m1
 have HW := hQQ (hw.more m1)
 have x2 : w1.cell? ⟨w.heap.size,2,none⟩ = some (.int .i64 c.pg) := cell_more hc (More.refl _) rfl
 have X2 := hQQ x2
 have pg1 := R.pg1
 have pg2 := R.pg2
 clear x2 m1 hw R H hc
 go_enter Tryz.func47,Tryz.ntmps47
 go_wp2_with (refine wpList_load_rowG rfl 30 _ rfl _ rfl 30 _ _ _ HC.out Tryz.underlying30 rfl (by kernel_rfl) ?_)
 clear e1
 refine (FI.out _ HW.out).mono ?_
 rintro e w2 ⟨rfl,h2⟩
 have FIN := hQQ (HM.out.trans h2)
 clear h2
 go_wp2_with fail
 go_ret
 exact ⟨by rw [← HD.out]; rfl,FIN.out⟩
theorem r11_Free {c : Cfg} (R : c.Ok) (ws : List Int) (H : HdIn c.pg c.st ws.length) (hl : ws.length ≤ 1000) (g cap : Nat) (k : Int) (w : World) (hw : Ws w g cap ws) :
   Calls Tryz.prog 48 #[.agg c.cells,.slice (some ⟨g,0,none⟩) ws.length cap,.int .i64 k] w (Gives w (.int .i64 (freeV c.pg c.st k ws))) := by
 obtain ⟨res,hres⟩ : ∃ res,freeV c.pg c.st k ws = res := ⟨_,rfl⟩
 rw [hres]
 unfold freeV at hres
 by_cases hz : slotsC k = 0
 · rw [if_pos hz] at hres
   subst hres
   have hk : k < 0 ∨ 4 < k := by
     by_cases e : 0 ≤ k ∧ k ≤ 4
     · have : k = 0 ∨ k = 1 ∨ k = 2 ∨ k = 3 ∨ k = 4 := by omega
       rcases this with rfl | rfl | rfl | rfl | rfl <;> cases hz
     · omega
   clear hz
   have hc := row_new w c.cells 30
   have HR := hQQ R
   have HH := hQQ H
   have hgl := hw.lt
   obtain ⟨w1,e1⟩ : ∃ w1,w.alloc (.cells c.cells 30) = w1 := ⟨_,rfl⟩
   have m1 : More w w1 := by rw [← e1]; exact (More.refl w).alloc _
   rw [e1] at hc
   have HC := hQQ hc
   have HM := hQQ m1
   have HW := hQQ (hw.more m1)
   have x2 : w1.cell? ⟨w.heap.size,2,none⟩ = some (.int .i64 c.pg) := cell_more hc (More.refl _) rfl
   have X2 := hQQ x2
   have pg1 := R.pg1
   have pg2 := R.pg2
   clear x2 m1 hw R H hc
   by_cases k0 : 0 ≤ k
   · have d1 : decide (0 ≤ k) = true := by simp [k0]
     have d2 : decide (k < 5) = false := by simp; omega
     clear k0 hk
     go_enter Tryz.func48,Tryz.ntmps48
     go_wp2_with fail
     clear e1
     go_loopw [7,8] (fun v7 v8 wr => ∃ (j : Nat),v8 = .int .i64 (j : Int) ∧ v7 = .int .i64 0 ∧ (j : Int) ≤ c.pg ∧ More w1 wr) (fun _ v8 _ => c.pg.toNat - (intOf v8).toNat)
     case atStart => exact ⟨0,rfl,rfl,by omega,More.refl _⟩
     case round =>
       obtain ⟨j,rfl,rfl,hj,ht⟩ := hrel
       have x2 := ht.cell X2.out
       have q1 : IntKind.i64.wrap ((j : Int) + 1) = (j : Int) + 1 := wrap_in (by omega) (by omega)
       by_cases hlt : (j : Int) < c.pg
       · have d3 : decide ((j : Int) < c.pg) = true := by simpa using hlt
         have HT := hQQ ht
         clear ht
         go_wp2_with fail
         go_roundw
         case rel => exact ⟨j + 1,by go_num,rfl,by omega,HT.out⟩
         case measure => simp [intOf]; omega
       · have d3 : decide ((j : Int) < c.pg) = false := by simpa using hlt
         have FIN := hQQ (HM.out.trans ht)
         clear ht
         go_wp2_with fail
         go_ret
         exact ⟨rfl,FIN.out⟩
   · have d1 : decide (0 ≤ k) = false := by simp; omega
     clear k0 hk
     go_enter Tryz.func48,Tryz.ntmps48
     go_wp2_with fail
     clear e1
     go_loopw [7,8] (fun v7 v8 wr => ∃ (j : Nat),v8 = .int .i64 (j : Int) ∧ v7 = .int .i64 0 ∧ (j : Int) ≤ c.pg ∧ More w1 wr) (fun _ v8 _ => c.pg.toNat - (intOf v8).toNat)
     case atStart => exact ⟨0,rfl,rfl,by omega,More.refl _⟩
     case round =>
       obtain ⟨j,rfl,rfl,hj,ht⟩ := hrel
       have x2 := ht.cell X2.out
       have q1 : IntKind.i64.wrap ((j : Int) + 1) = (j : Int) + 1 := wrap_in (by omega) (by omega)
       by_cases hlt : (j : Int) < c.pg
       · have d3 : decide ((j : Int) < c.pg) = true := by simpa using hlt
         have HT := hQQ ht
         clear ht
         go_wp2_with fail
         go_roundw
         case rel => exact ⟨j + 1,by go_num,rfl,by omega,HT.out⟩
         case measure => simp [intOf]; omega
       · have d3 : decide ((j : Int) < c.pg) = false := by simpa using hlt
         have FIN := hQQ (HM.out.trans ht)
         clear ht
         go_wp2_with fail
         go_ret
         exact ⟨rfl,FIN.out⟩
 rw [if_neg hz] at hres
 have hk4 := slots_cls hz
 have hsl := slots_in k
 have d1 : decide (0 ≤ k) = true := by simp; omega
 have d2 : decide (k < 5) = true := by simp; omega
 have qk : IntKind.i64.wrap (k + 1) = k + 1 := wrap_in (by omega) (by omega)
 have HRES := hQQ (show freeNV c.pg c.st k c.pg.toNat 0 0 ws = res from hres)
 clear hres hz
 have hc := row_new w c.cells 30
 have HR := hQQ R
 have HH := hQQ H
 have hgl := hw.lt
 obtain ⟨w1,e1⟩ : ∃ w1,w.alloc (.cells c.cells 30) = w1 := ⟨_,rfl⟩
 have m1 : More w w1 := by rw [← e1]; exact (More.refl w).alloc _
 rw [e1] at hc
 have HC := hQQ hc
 have HM := hQQ m1
 have HW := hQQ (hw.more m1)
 have x2 : w1.cell? ⟨w.heap.size,2,none⟩ = some (.int .i64 c.pg) := cell_more hc (More.refl _) rfl
 have X2 := hQQ x2
 have pg1 := R.pg1
 have pg2 := R.pg2
 clear x2 m1 hw R H hc
 go_enter Tryz.func48,Tryz.ntmps48
 go_wp2_with fail
 clear e1
 go_loopw [7,8] (fun v7 v8 wr => ∃ (j : Nat) (s : Int),v8 = .int .i64 (j : Int) ∧ v7 = .int .i64 s ∧ (j : Int) ≤ c.pg ∧ 0 ≤ s ∧ s ≤ 32 * j ∧ More w1 wr ∧ freeNV c.pg c.st k (c.pg.toNat - j) j s ws = res) (fun _ v8 _ => c.pg.toNat - (intOf v8).toNat)
 case atStart => exact ⟨0,0,rfl,rfl,by omega,by omega,by omega,More.refl _,HRES.out⟩
 case round =>
   clear HRES
   obtain ⟨j,s,rfl,rfl,hj,s0,s1,ht,hrest⟩ := hrel
   have HT := hQQ ht
   have x2 := ht.cell X2.out
   have q1 : IntKind.i64.wrap ((j : Int) + 1) = (j : Int) + 1 := wrap_in (by omega) (by omega)
   have HC1 := hQQ (ht.block HC.out)
   by_cases hlt : (j : Int) < c.pg
   · have d3 : decide ((j : Int) < c.pg) = true := by simpa using hlt
     have hq : isPage c.pg (j : Int) = true := isPage_iff.2 ⟨by omega,hlt⟩
     rw [show c.pg.toNat - j = (c.pg.toNat - (j + 1)) + 1 by omega] at hrest
     have hrest : (if kindV c.pg c.st ws j = k + 1 then freeNV c.pg c.st k (c.pg.toNat - (j + 1)) ((j : Int) + 1) (s + openV k (bitV c.pg c.st ws j)) ws else freeNV c.pg c.st k (c.pg.toNat - (j + 1)) ((j : Int) + 1) s ws) = res := hrest
     obtain ⟨⟨q0,q1',_⟩,_,q4,q5,_⟩ := page_b HH.out.toPgIn hq
     obtain ⟨b0,hb0⟩ : ∃ b : Nat,kA c.pg c.st j = (b : Int) := ⟨(kA c.pg c.st j).toNat,by omega⟩
     obtain ⟨b2,hb2⟩ : ∃ b : Nat,bA c.pg c.st j = (b : Int) := ⟨(bA c.pg c.st j).toNat,by omega⟩
     have l0 : b0 < ws.length := by omega
     have l2 : b2 < ws.length := by omega
     have P0 := hQQ ((page0 (st:=c.st) hq).trans hb0)
     have P2 := hQQ ((page2 (st:=c.st) hq).trans hb2)
     have ek : ws.getD b0 0 = kindV c.pg c.st ws j := by rw [kind_in hq,hb0]; rfl
     have eb : ws.getD b2 0 = bitV c.pg c.st ws j := by unfold bitV; rw [hb2]; rfl
     have CK : Hid (∀ W,Ws W g cap ws → W.cell? ⟨g,b0,none⟩ = some (.int .i64 (kindV c.pg c.st ws j))) := hQQ fun W hW => by rw [← ek]; exact hW.cell l0
     have CB : Hid (∀ W,Ws W g cap ws → W.cell? ⟨g,b2,none⟩ = some (.int .i64 (bitV c.pg c.st ws j))) := hQQ fun W hW => by rw [← eb]; exact hW.cell l2
     have REST := hQQ hrest
     generalize kindV c.pg c.st ws j = kd at REST CK
     generalize bitV c.pg c.st ws j = bt at REST CB
     clear ht hrest ek eb hb0 hb2 q0 q1' q4 q5 hq
     go_wp2_with (refine wpList_load_rowG rfl 30 _ rfl _ rfl 30 _ _ _ HC1.out Tryz.underlying30 rfl (by kernel_rfl) ?_)
     refine (y_rkind HR.out (j : Int) _).mono ?_
     rw [P0.out]
     rintro e w3 ⟨rfl,h3⟩
     have M3 := hQQ (HT.out.trans h3)
     have x3 := CK.out _ (HW.out.more M3.out)
     have HC3 := hQQ (M3.out.block HC.out)
     clear h3 x2
     by_cases hk : kd = k + 1
     · have d4 : (kd == k + 1) = true := by simp [hk]
       have R3 := hQQ (show freeNV c.pg c.st k (c.pg.toNat - (j + 1)) ((j : Int) + 1) (s + openV k bt) ws = res from by have h := REST.out; rw [if_pos hk] at h; exact h)
       have hcb := cnt_b bt k
       have x4 := CB.out _ (HW.out.more M3.out)
       have YS := hQQ (fun W => r3slotsG k W)
       have YC := hQQ (fun W => rs_count bt (slotsC k) W)
       have YB := hQQ (fun W => P2.out ▸ y_rbits HR.out (j : Int) W)
       have ho : openV k bt = slotsC k - slCountV bt (slotsC k) := rfl
       rw [ho] at R3 hcb
       obtain ⟨sl,hsl'⟩ : ∃ sl,slotsC k = sl := ⟨_,rfl⟩
       rw [hsl'] at YS YC R3 hcb hsl
       obtain ⟨ct,hct⟩ : ∃ ct,slCountV bt sl = ct := ⟨_,rfl⟩
       rw [hct] at YC R3 hcb
       have t1 : IntKind.i64.wrap (s + sl) = s + sl := wrap_in (by omega) (by omega)
       have t2 : IntKind.i64.wrap (s + sl - ct) = s + sl - ct := wrap_in (by omega) (by omega)
       clear hk ho hsl' hct REST
       go_wp2_with fail
       refine wp_region_more_tail 14 (by kernel_rfl) (by kernel_rfl) ?_
       simp only [List.take_succ_cons,List.take_zero,List.drop_succ_cons,List.drop_zero]
       iterate 5
         with_reducible refine wpQuiet_step (fun K hK => ?_)
         go_simp
         first
         | (refine hK _ ?_; clear hK K)
         | (apply Exists.intro
            refine ⟨fun W hW => ?_,hK _ ?_⟩
            first
            | (go_at_call 78; exact Calls.more hW (YS.out W))
            | (go_simp; try rfl)
            clear hK K)
       refine wpQuiet_load_row rfl 30 _ rfl _ rfl 30 _ _ _ (fun W hW => hW.block HC3.out) Tryz.underlying30 rfl (by kernel_rfl) ?_
       iterate 8
         with_reducible refine wpQuiet_step (fun K hK => ?_)
         go_simp
         first
         | (refine hK _ ?_; clear hK K)
         | (apply Exists.intro
            refine ⟨fun W hW => ?_,hK _ ?_⟩
            first
            | (go_at_call 82; exact Calls.more hW (YB.out W))
            | (go_at_call 78; exact Calls.more hW (YS.out W))
            | (go_at_call 91; exact Calls.more hW (YC.out W))
            | (have x4' := hW.cell x4; go_simp; try rfl)
            clear hK K)
       refine wpQuiet_nil ?_
       intro w4 h4
       have M4 := hQQ (M3.out.trans h4)
       clear h4 x3 x4
       go_wp2_with fail
       go_roundw
       case rel => exact ⟨j + 1,s + sl - ct,by go_num,by go_num,by omega,by omega,by omega,M4.out,by have := R3.out; rwa [show s + (sl - ct) = s + sl - ct by omega] at this⟩
       case measure => simp [intOf]; omega
     · have d4 : (kd == k + 1) = false := by simpa using hk
       have R3 := hQQ (show freeNV c.pg c.st k (c.pg.toNat - (j + 1)) ((j : Int) + 1) s ws = res from by have h := REST.out; rw [if_neg hk] at h; exact h)
       clear hk REST
       go_wp2_with fail
       go_roundw
       case rel => exact ⟨j + 1,s,by go_num,rfl,by omega,by omega,by omega,M3.out,R3.out⟩
       case measure => simp [intOf]; omega
   · have d3 : decide ((j : Int) < c.pg) = false := by simpa using hlt
     rw [show c.pg.toNat - j = 0 by omega] at hrest
     have he : s = res := hrest
     subst he
     have FIN := hQQ (HM.out.trans ht)
     clear ht hrest
     go_wp2_with fail
     go_ret
     exact ⟨rfl,FIN.out⟩
def RowW (w : World) (g cap : Nat) (v : Value) (ws : List Int) (e : Ending) (w' : World) : Prop := e = .returned v ∧ Ws w' g cap ws ∧ Turned (fun b => b = g) w w'
theorem set_twice {us : List Int} {b1 b2 : Nat} (h : b1 ≠ b2) (x y z : Int) : ((us.set b1 x).set b2 y).set b1 z = (us.set b2 y).set b1 z := by
 rw [List.set_comm x y h,List.set_set]
theorem addr_us {c : Cfg} (R : c.Ok) {q : Int} (hq : isPage c.pg q = true) (W : World) : Calls Tryz.prog 85 #[.agg c.cells,.int .i64 q] W (Gives W (.int .i64 (c.us + 32 * q))) := by
 have := raddr c.wk c.cp c.pg c.st c.tr c.wt c.ck c.pr c.ca c.bi c.ba W q R
 rw [show addrV c.cp c.pg c.st c.ca c.bi q = c.us + 32 * q from by unfold addrV; rw [if_pos (isPage_iff.1 hq)]; rfl] at this
 exact this
theorem lk_of {c : Cfg} (R : c.Ok) {ws us : List Int} (hlen : us.length = ws.length) (H : HdIn c.pg c.st ws.length) (hl : ws.length ≤ 1000) {G1 : Int → List Int} (L : Ln c.pg c.st G1 us) (q k f : Int) (hf : ∀ a,isHd c.pg c.st a → q ∉ G1 a) {X : List Int} (hX : (plLinkV c.pg c.st q k f us).2 = X) (g cap : Nat) (w : World) (hw : Ws w g cap us) :
   Calls Tryz.prog 84 #[.agg c.cells,.slice (some ⟨g,0,none⟩) ws.length cap,.int .i64 q,.int .i64 k,.int .i64 f] w (fun e w' => e = .returned (.bool (plLinkV c.pg c.st q k f us).1) ∧ Ws w' g cap X ∧ Turned (fun b => b = g) w w') := by
 subst hX
 have := r10_Link R us (by rw [hlen]; exact H) (by omega) L q k f (fun _ => hf) g cap w hw
 rw [hlen] at this
 exact this
theorem r11_Grab {c : Cfg} (R : c.Ok) (ws : List Int) (H : HdIn c.pg c.st ws.length) (hl : ws.length ≤ 1000) {G : Int → List Int} (P : PgW c.pg c.st G ws) (ho : OkW ws) (g cap : Nat) (k : Int) (w : World) (hw : Ws w g cap ws) :
   Calls Tryz.prog 44 #[.agg c.cells,.slice (some ⟨g,0,none⟩) ws.length cap,.int .i64 k] w (RowW w g cap (.tuple #[.int .i64 (grabV c.us c.pg c.st k ws).1.1,.bool (grabV c.us c.pg c.st k ws).1.2]) (grabV c.us c.pg c.st k ws).2) := by
 have hsz : 0 ≤ szV k ∧ szV k ≤ 16 := by unfold szV; (repeat' split) <;> omega
 by_cases hs : slotsC k = 0
 · rw [grab_none1 H c.us hs ws]
   have hz' := szV_zero.2 hs
   have ZS := hQQ (fun W => hz' ▸ r3sizeG k W)
   clear hs hz' hsz
   have hc := row_new w c.cells 30
   have HR := hQQ R
   have HH := hQQ H
   have hgl := hw.lt
   obtain ⟨w1,e1⟩ : ∃ w1,w.alloc (.cells c.cells 30) = w1 := ⟨_,rfl⟩
   have m1 : More w w1 := by rw [← e1]; exact (More.refl w).alloc _
   rw [e1] at hc
   have HC := hQQ hc
   have HM := hQQ m1
   have HW := hQQ (hw.more m1)
   have x2 : w1.cell? ⟨w.heap.size,2,none⟩ = some (.int .i64 c.pg) := cell_more hc (More.refl _) rfl
   have X2 := hQQ x2
   have pg1 := R.pg1
   have pg2 := R.pg2
   clear x2 m1 hw R H hc
   go_enter Tryz.func44,Tryz.ntmps44
   go_wp2_with fail
   clear e1
   refine (ZS.out _).mono ?_
   rintro e w2 ⟨rfl,h2⟩
   have FIN : Hid (Ws w2 g cap ws ∧ Turned (fun b => b = g) w w2) := hQQ ⟨HW.out.more h2,turned_more (HM.out.trans h2)⟩
   clear h2
   go_wp2_with fail
   go_ret2
   exact ⟨rfl,FIN.out.1,FIN.out.2⟩
 have hk4 := slots_cls hs
 have hsl := slots_in k
 have hs1 : (szV k == 0) = false := by
   have : szV k ≠ 0 := fun e => hs (szV_zero.1 e)
   simpa using this
 have FI := hQQ (fun W (hW : Ws W g cap ws) => r10_First R ws H hl P.ln g cap k W hW)
 have FD := hQQ (fun W (hW : Ws W g cap ws) => r9_Find R ws H.toPgIn hl g cap 1 1 W hW)
 have hfb := plFirst_b H k (slotsC k).toNat ws 1
 have ZS := hQQ (fun W => r3sizeG k W)
 have YS := hQQ (fun W => r3slotsG k W)
 have qk : IntKind.i64.wrap (k + 1) = k + 1 := wrap_in (by omega) (by omega)
 have UB := hQQ (userB R)
 have HO := hQQ ho
 have HP := hQQ P
 by_cases hx : plFirstV c.pg c.st k (slotsC k).toNat 1 ws = -1
 · by_cases hy : findV c.pg c.st 1 1 ws = -1
   · rw [grab_none2 H c.us hs hx hy]
     rw [hx] at FI
     rw [hy] at FD
     clear hx hy hfb ho P
     have hc := row_new w c.cells 30
     have HR := hQQ R
     have HH := hQQ H
     have hgl := hw.lt
     obtain ⟨w1,e1⟩ : ∃ w1,w.alloc (.cells c.cells 30) = w1 := ⟨_,rfl⟩
     have m1 : More w w1 := by rw [← e1]; exact (More.refl w).alloc _
     rw [e1] at hc
     have HC := hQQ hc
     have HM := hQQ m1
     have HW := hQQ (hw.more m1)
     have x2 : w1.cell? ⟨w.heap.size,2,none⟩ = some (.int .i64 c.pg) := cell_more hc (More.refl _) rfl
     have X2 := hQQ x2
     have pg1 := R.pg1
     have pg2 := R.pg2
     clear x2 m1 hw R H hc
     go_enter Tryz.func44,Tryz.ntmps44
     go_wp2_with fail
     clear e1
     refine (ZS.out _).mono ?_
     rintro e w2 ⟨rfl,h2⟩
     have HL2 := hQQ (h2.block HC.out)
     go_wp2_with (refine wpList_load_rowG rfl 30 _ rfl _ rfl 30 _ _ _ HL2.out Tryz.underlying30 rfl (by kernel_rfl) ?_)
     refine (FI.out _ (HW.out.more h2)).mono ?_
     rintro e w3 ⟨rfl,h3⟩
     have M3 := hQQ (h2.trans h3)
     have HL3 := hQQ (M3.out.block HC.out)
     clear h2 h3
     go_wp2_with (refine wpList_load_rowG rfl 30 _ rfl _ rfl 30 _ _ _ HL3.out Tryz.underlying30 rfl (by kernel_rfl) ?_)
     refine (FD.out _ (HW.out.more M3.out)).mono ?_
     rintro e w4 ⟨rfl,h4⟩
     have FIN : Hid (Ws w4 g cap ws ∧ Turned (fun b => b = g) w w4) := hQQ ⟨HW.out.more (M3.out.trans h4),turned_more (HM.out.trans (M3.out.trans h4))⟩
     clear h4
     go_wp2_with fail
     go_ret2
     exact ⟨rfl,FIN.out.1,FIN.out.2⟩
   · obtain ⟨G1,G2,V1,X,hyp,hk0,ht,T,n1,L1,M,hg,_⟩ := grab_new H c.us hs P rfl hx rfl hy
     rw [hg]
     rw [hx] at FI
     obtain ⟨q,hq⟩ : ∃ q,findV c.pg c.st 1 1 ws = q := ⟨_,rfl⟩
     rw [hq] at FD hyp hk0 ht T M hg hy ⊢
     have hb0 := T.bit q hyp
     rw [if_pos (by omega)] at hb0
     have hq1 := isPage_iff.1 hyp
     have pgb := R.pg2
     have TK := hQQ (fun W (hW : Ws W g cap ws) => by have := r9_Take R ws H.toPgIn hl g cap q 1 (k + 1) (by unfold W64; omega) W hW; rw [ht] at this; exact this)
     have d0 : decide (q < 0) = false := by simp; omega
     have HQ := hQQ hyp
     have hfz := first_zero hs
     clear hq hx hy hfb ho P hk0 ht T hg
     have hc := row_new w c.cells 30
     have HR := hQQ R
     have HH := hQQ H
     have hgl := hw.lt
     obtain ⟨w1,e1⟩ : ∃ w1,w.alloc (.cells c.cells 30) = w1 := ⟨_,rfl⟩
     have m1 : More w w1 := by rw [← e1]; exact (More.refl w).alloc _
     rw [e1] at hc
     have HC := hQQ hc
     have HM := hQQ m1
     have HW := hQQ (hw.more m1)
     have x2 : w1.cell? ⟨w.heap.size,2,none⟩ = some (.int .i64 c.pg) := cell_more hc (More.refl _) rfl
     have X2 := hQQ x2
     have pg1 := R.pg1
     have pg2 := R.pg2
     clear x2 m1 hw R H hc
     obtain ⟨_,⟨q2,q3,_⟩,q4,q5,_⟩ := page_b HH.out.toPgIn HQ.out
     obtain ⟨b1,hb1⟩ : ∃ b : Nat,cA c.pg c.st q = (b : Int) := ⟨(cA c.pg c.st q).toNat,by omega⟩
     obtain ⟨b2,hb2⟩ : ∃ b : Nat,bA c.pg c.st q = (b : Int) := ⟨(bA c.pg c.st q).toNat,by omega⟩
     have l1 : b1 < ws.length := by omega
     have l2 : b2 < ws.length := by omega
     have P1 := hQQ ((page1 (st:=c.st) HQ.out).trans hb1)
     have P2 := hQQ ((page2 (st:=c.st) HQ.out).trans hb2)
     have l1i : (b1 : Int) < ws.length := by omega
     have l2i : (b2 : Int) < ws.length := by omega
     have n12 : b1 ≠ b2 := by
       have := isPage_iff.1 HQ.out
       unfold cA at hb1; unfold bA at hb2; omega
     have HSW : Hid (∀ (b f : Int) (us : List Int),setsW c.pg c.st q b f us = (us.set b2 b).set b1 f) := hQQ fun b f us => by unfold setsW; rw [hb1,hb2]; rfl
     have CCW : Hid (∀ us : List Int,cntV c.pg c.st us q = us.getD b1 0) := hQQ fun us => by unfold cntV; rw [hb1]; rfl
     have CBW : Hid (∀ us : List Int,bitV c.pg c.st us q = us.getD b2 0) := hQQ fun us => by unfold bitV; rw [hb2]; rfl
     have HB1 := hQQ hb1
     have HB2 := hQQ hb2
     have YC := hQQ (fun W => P1.out ▸ y_rcount HR.out q W)
     have YB := hQQ (fun W => P2.out ▸ y_rbits HR.out q W)
     clear hb1 hb2 q2 q3 q4 q5
     have KC : Hid (∀ W,Turned (fun b => b = g) w1 W → W.heap[w.heap.size]? = some (.cells c.cells 30 (0,0))) := hQQ fun W t => (t.block _ (lt_of_heap HC.out) (by omega)).trans HC.out
     have hub := UB.out
     have t2 : IntKind.i64.wrap (c.us + 32 * q + 0) = c.us + 32 * q + 0 := wrap_in (by unfold Cfg.us; omega) (by unfold Cfg.us; omega)
     obtain ⟨i,hi⟩ : ∃ i : Int,0 = i := ⟨_,rfl⟩
     obtain ⟨sz,hsz'⟩ : ∃ sz,szV k = sz := ⟨_,rfl⟩
     have hi0 : i * sz = 0 := by rw [← hi]; omega
     have t1 : IntKind.i64.wrap (i * sz) = i * sz := wrap_in (by omega) (by omega)
     have t2 : IntKind.i64.wrap (c.us + 32 * q + i * sz) = c.us + 32 * q + i * sz := by rw [hi0]; exact t2
     rw [show c.us + 32 * q = c.us + 32 * q + i * sz by omega]
     have AD := hQQ (addr_us HR.out HQ.out)
     obtain ⟨adr,hadr⟩ : ∃ adr,c.us + 32 * q = adr := ⟨_,rfl⟩
     rw [hadr] at AD t2 ⊢
     rw [hsz'] at ZS hs1
     obtain ⟨U,hU⟩ : ∃ U,V1.set b1 (slotsC k) = U := ⟨_,rfl⟩
     have HUN : Hid (U.length = ws.length) := hQQ (by rw [← hU]; simp [n1])
     obtain ⟨bt,hbt⟩ : ∃ bt : Int,0 = bt := ⟨_,rfl⟩
     obtain ⟨f0,hf0⟩ : ∃ f0,slotsC k = f0 := ⟨_,rfl⟩
     obtain ⟨nb',hnb⟩ : ∃ nb',setV 0 0 = nb' := ⟨_,rfl⟩
     have HBT : Hid (U.getD b2 0 = bt) := hQQ (by
       have := CBW.out V1
       rw [hb0] at this
       rw [← hU,← hbt]
       simp [List.getD,List.getElem?_set_ne n12] at this ⊢
       exact this.symm)
     have HCT : Hid (U.getD b1 0 = f0) := hQQ (by rw [← hU,← hf0]; simp [List.getD,n1,l1])
     have YF := hQQ (fun W => (show slFirstV bt (slotsC k) = i by rw [← hbt,hfz,hi]) ▸ r_firstG bt (slotsC k) W)
     have YT := hQQ (fun W => (show setV bt i = nb' by rw [← hbt,← hi,hnb]) ▸ r_setG (x:=bt) i (by rw [← hbt]; unfold W64; constructor <;> decide) W)
     have LK : Hid (∀ W,Ws W g cap ((U.set b2 nb').set b1 (f0 - 1)) → Calls Tryz.prog 84 #[.agg c.cells,.slice (some ⟨g,0,none⟩) ws.length cap,.int .i64 q,.int .i64 k,.int .i64 (f0 - 1)] W (fun e w' => e = .returned (.bool (plLinkV c.pg c.st q k (f0 - 1) ((U.set b2 nb').set b1 (f0 - 1))).1) ∧ Ws w' g cap X ∧ Turned (fun b => b = g) W w')) := hQQ (by
       have e : (U.set b2 nb').set b1 (f0 - 1) = setsW c.pg c.st q (setV 0 0) (slotsC k - 1) V1 := by rw [← hU,set_twice n12,HSW.out,hf0,hnb]
       intro W hW
       refine lk_of HR.out (by simp [HUN.out]) HH.out hl (by rw [e]; exact M.lt) q k (f0 - 1) M.m1 (by rw [e,← hf0]; exact M.eX) g cap W hW)
     have tf : IntKind.i64.wrap (f0 - 1) = f0 - 1 := wrap_in (by omega) (by omega)
     have NV : Hid (V1.length = ws.length) := hQQ n1
     rw [hf0] at YS YF
     have HU := hQQ hU
     rw [hf0] at HU
     clear hi hi0 hsz hsz' hadr hU hbt hf0 hnb hb0 n1 L1 M hfz hub hq1 hyp hk4 hs hsl
     go_enter Tryz.func44,Tryz.ntmps44
     go_wp2_with fail
     clear e1
     refine (ZS.out _).mono ?_
     rintro e w2 ⟨rfl,h2⟩
     have HL2 := hQQ (h2.block HC.out)
     go_wp2_with (refine wpList_load_rowG rfl 30 _ rfl _ rfl 30 _ _ _ HL2.out Tryz.underlying30 rfl (by kernel_rfl) ?_)
     refine (FI.out _ (HW.out.more h2)).mono ?_
     rintro e w3 ⟨rfl,h3⟩
     have M3 := hQQ (h2.trans h3)
     have HL3 := hQQ (M3.out.block HC.out)
     clear h2 h3
     go_wp2_with (refine wpList_load_rowG rfl 30 _ rfl _ rfl 30 _ _ _ HL3.out Tryz.underlying30 rfl (by kernel_rfl) ?_)
     refine (FD.out _ (HW.out.more M3.out)).mono ?_
     rintro e w4 ⟨rfl,h4⟩
     have M4 := hQQ (M3.out.trans h4)
     have HL4 := hQQ (M4.out.block HC.out)
     clear h4
     go_wp2_with (refine wpList_load_rowG rfl 30 _ rfl _ rfl 30 _ _ _ HL4.out Tryz.underlying30 rfl (by kernel_rfl) ?_)
     refine (TK.out _ (HW.out.more M4.out)).mono ?_
     rintro e wa ⟨rfl,hxa,hta⟩
     have Xa := hQQ hxa
     have Ta : Hid (Turned (fun b => b = g) w1 wa) := hQQ ((turned_more M4.out).trans hta)
     have HLa := hQQ (KC.out _ Ta.out)
     clear hxa hta
     go_wp2_with (refine wpList_load_rowG rfl 30 _ rfl _ rfl 30 _ _ _ HLa.out Tryz.underlying30 rfl (by kernel_rfl) ?_)
     refine (YC.out _).mono ?_
     rintro e wb ⟨rfl,hb⟩
     have Xb := hQQ (Xa.out.more hb)
     have Tb : Hid (Turned (fun b => b = g) w1 wb) := hQQ (Ta.out.trans (turned_more hb))
     clear hb
     go_wp2_with fail
     refine (YS.out _).mono ?_
     rintro e wc ⟨rfl,hc⟩
     have Xc := hQQ (Xb.out.more hc)
     have Tc : Hid (Turned (fun b => b = g) w1 wc) := hQQ (Tb.out.trans (turned_more hc))
     clear hc
     have c5 := Xc.out.cell (i:=b1) (by rw [NV.out]; exact l1)
     have f5 := Xc.out.froz b1
     have l5 := Xc.out.lt
     obtain ⟨w5,e5⟩ : ∃ w5,World.setCell wc ⟨g,b1,none⟩ (.int .i64 f0) = w5 := ⟨_,rfl⟩
     have X5 : Hid (Ws w5 g cap (V1.set b1 f0)) := hQQ (by rw [← e5]; exact Xc.out.set (by rw [NV.out]; exact l1) _)
     have T5 : Hid (Turned (fun b => b = g) w1 w5) := hQQ (by rw [← e5]; exact Turned.setCell Tc.out _ _ (fun _ => rfl))
     have X5 : Hid (Ws w5 g cap U) := hQQ (by rw [← HU.out]; exact X5.out)
     go_wp2_with fail
     clear c5 f5 l5 e5
     -- the words U,at w5: X5,T5; its bits bt,its count f0; i the first open one
     have HL5 := hQQ (KC.out _ T5.out)
     have x5 : w5.cell? ⟨g,b2,none⟩ = some (.int .i64 bt) := by rw [← HBT.out]; exact X5.out.cell (by rw [HUN.out]; exact l2)
     refine wp_region_more_tail 9 (by kernel_rfl) (by kernel_rfl) ?_
     simp only [List.take_succ_cons,List.take_zero,List.drop_succ_cons,List.drop_zero]
     iterate 1
       with_reducible refine wpQuiet_step (fun K hK => ?_)
       go_simp
       first
       | (refine hK _ ?_; clear hK K)
       | (apply Exists.intro
          refine ⟨fun W hW => ?_,hK _ ?_⟩
          first
          | (go_simp; try rfl)
          clear hK K)
     refine wpQuiet_load_row rfl 30 _ rfl _ rfl 30 _ _ _ (fun W hW => hW.block HL5.out) Tryz.underlying30 rfl (by kernel_rfl) ?_
     iterate 7
       with_reducible refine wpQuiet_step (fun K hK => ?_)
       go_simp
       first
       | (refine hK _ ?_; clear hK K)
       | (apply Exists.intro
          refine ⟨fun W hW => ?_,hK _ ?_⟩
          first
          | (go_at_call 82; exact Calls.more hW (YB.out W))
          | (go_at_call 78; exact Calls.more hW (YS.out W))
          | (go_at_call 81; exact Calls.more hW (YF.out W))
          | (have x5' := hW.cell x5; go_simp; try rfl)
          clear hK K)
     refine wpQuiet_nil ?_
     intro w6 h6
     have T6 : Hid (Turned (fun b => b = g) w1 w6) := hQQ (T5.out.trans (turned_more h6))
     have X6 := hQQ (X5.out.more h6)
     have x6 := h6.cell x5
     have HL6 := hQQ (h6.block HL5.out)
     clear h6 x5
     go_wp2_with fail
     refine wp_region_more_tail 13 (by kernel_rfl) (by kernel_rfl) ?_
     simp only [List.take_succ_cons,List.take_zero,List.drop_succ_cons,List.drop_zero]
     iterate 1
       with_reducible refine wpQuiet_step (fun K hK => ?_)
       go_simp
       first
       | (refine hK _ ?_; clear hK K)
       | (apply Exists.intro
          refine ⟨fun W hW => ?_,hK _ ?_⟩
          first
          | (go_simp; try rfl)
          clear hK K)
     refine wpQuiet_load_row rfl 30 _ rfl _ rfl 30 _ _ _ (fun W hW => hW.block HL6.out) Tryz.underlying30 rfl (by kernel_rfl) ?_
     iterate 3
       with_reducible refine wpQuiet_step (fun K hK => ?_)
       go_simp
       first
       | (refine hK _ ?_; clear hK K)
       | (apply Exists.intro
          refine ⟨fun W hW => ?_,hK _ ?_⟩
          first
          | (go_at_call 82; exact Calls.more hW (YB.out W))
          | (go_simp; try rfl)
          clear hK K)
     refine wpQuiet_load_row rfl 30 _ rfl _ rfl 30 _ _ _ (fun W hW => hW.block HL6.out) Tryz.underlying30 rfl (by kernel_rfl) ?_
     iterate 7
       with_reducible refine wpQuiet_step (fun K hK => ?_)
       go_simp
       first
       | (refine hK _ ?_; clear hK K)
       | (apply Exists.intro
          refine ⟨fun W hW => ?_,hK _ ?_⟩
          first
          | (go_at_call 82; exact Calls.more hW (YB.out W))
          | (go_at_call 83; exact Calls.more hW (YT.out W))
          | (have x6' := hW.cell x6; go_simp; try rfl)
          clear hK K)
     refine wpQuiet_nil ?_
     intro w7 h7
     have T7 : Hid (Turned (fun b => b = g) w1 w7) := hQQ (T6.out.trans (turned_more h7))
     have X7 := hQQ (X6.out.more h7)
     clear h7 x6
     have c8 := X7.out.cell (i:=b2) (by rw [HUN.out]; exact l2)
     have f8 := X7.out.froz b2
     have l8 := X7.out.lt
     obtain ⟨w8,e8⟩ : ∃ w8,World.setCell w7 ⟨g,b2,none⟩ (.int .i64 nb') = w8 := ⟨_,rfl⟩
     have X8 : Hid (Ws w8 g cap (U.set b2 nb')) := hQQ (by rw [← e8]; exact X7.out.set (by rw [HUN.out]; exact l2) _)
     have T8 : Hid (Turned (fun b => b = g) w1 w8) := hQQ (by rw [← e8]; exact Turned.setCell T7.out _ _ (fun _ => rfl))
     have HL8 := hQQ (KC.out _ T8.out)
     go_wp2_with (refine wpList_load_rowG rfl 30 _ rfl _ rfl 30 _ _ _ HL8.out Tryz.underlying30 rfl (by kernel_rfl) ?_)
     clear c8 f8 l8 e8
     refine (YC.out _).mono ?_
     rintro e w9 ⟨rfl,h9⟩
     have T9 : Hid (Turned (fun b => b = g) w1 w9) := hQQ (T8.out.trans (turned_more h9))
     have X9 := hQQ (X8.out.more h9)
     clear h9
     have x9 : w9.cell? ⟨g,b1,none⟩ = some (.int .i64 f0) := by
       have := X9.out.cell (i:=b1) (by simp [HUN.out]; exact l1)
       rw [this]; congr 2
       rw [← HCT.out]; simp [List.getD,List.getElem?_set_ne (Ne.symm n12)]
     have c10 := X9.out.cell (i:=b1) (by simp [HUN.out]; exact l1)
     have f10 := X9.out.froz b1
     have l10 := X9.out.lt
     obtain ⟨w10,e10⟩ : ∃ w10,World.setCell w9 ⟨g,b1,none⟩ (.int .i64 (f0 - 1)) = w10 := ⟨_,rfl⟩
     have X10 : Hid (Ws w10 g cap ((U.set b2 nb').set b1 (f0 - 1))) := hQQ (by rw [← e10]; exact X9.out.set (by simp [HUN.out]; exact l1) _)
     have T10 : Hid (Turned (fun b => b = g) w1 w10) := hQQ (by rw [← e10]; exact Turned.setCell T9.out _ _ (fun _ => rfl))
     clear c10
     have HL10 := hQQ (KC.out _ T10.out)
     go_wp2_with fail
     clear x9 f10 l10 e10
     have x10 : w10.cell? ⟨g,b1,none⟩ = some (.int .i64 (f0 - 1)) := by
       have := X10.out.cell (i:=b1) (by simp [HUN.out]; exact l1)
       rw [this]; congr 2
       simp [List.getD,HUN.out,l1]
     refine wp_region_more_tail 10 (by kernel_rfl) (by kernel_rfl) ?_
     simp only [List.take_succ_cons,List.take_zero,List.drop_succ_cons,List.drop_zero]
     refine wpQuiet_load_row rfl 30 _ rfl _ rfl 30 _ _ _ (fun W hW => hW.block HL10.out) Tryz.underlying30 rfl (by kernel_rfl) ?_
     iterate 4
       with_reducible refine wpQuiet_step (fun K hK => ?_)
       go_simp
       first
       | (refine hK _ ?_; clear hK K)
       | (apply Exists.intro
          refine ⟨fun W hW => ?_,hK _ ?_⟩
          first
          | (go_simp; try rfl)
          clear hK K)
     refine wpQuiet_load_row rfl 30 _ rfl _ rfl 30 _ _ _ (fun W hW => hW.block HL10.out) Tryz.underlying30 rfl (by kernel_rfl) ?_
     iterate 4
       with_reducible refine wpQuiet_step (fun K hK => ?_)
       go_simp
       first
       | (refine hK _ ?_; clear hK K)
       | (apply Exists.intro
          refine ⟨fun W hW => ?_,hK _ ?_⟩
          first
          | (go_at_call 79; exact Calls.more hW (YC.out W))
          | (have xc' := hW.cell x10; go_simp; try rfl)
          clear hK K)
     refine wpQuiet_nil ?_
     intro w11 h11
     have T11 : Hid (Turned (fun b => b = g) w1 w11) := hQQ (T10.out.trans (turned_more h11))
     have X11 := hQQ (X10.out.more h11)
     clear h11 x10
     go_wp2_with fail
     refine (LK.out w11 X11.out).mono ?_
     rintro e w12 ⟨rfl,hx12,ht12⟩
     have X12 := hQQ hx12
     have T12 : Hid (Turned (fun b => b = g) w1 w12) := hQQ (T11.out.trans ht12)
     have HL12 := hQQ (KC.out _ T12.out)
     clear hx12 ht12
     go_wp2_with (refine wpList_load_rowG rfl 30 _ rfl _ rfl 30 _ _ _ HL12.out Tryz.underlying30 rfl (by kernel_rfl) ?_)
     refine (AD.out w12).mono ?_
     rintro e w13 ⟨rfl,h13⟩
     have X13 := hQQ (X12.out.more h13)
     have T13 : Hid (Turned (fun b => b = g) w1 w13) := hQQ (T12.out.trans (turned_more h13))
     clear h13
     go_wp2_with fail
     refine (ZS.out w13).mono ?_
     rintro e w14 ⟨rfl,h14⟩
     have FIN : Hid (Ws w14 g cap X ∧ Turned (fun b => b = g) w w14) := hQQ ⟨X13.out.more h14,(turned_more HM.out).trans (T13.out.trans (turned_more h14))⟩
     clear h14
     go_wp2_with fail
     go_ret2
     exact ⟨rfl,FIN.out.1,FIN.out.2⟩
 · obtain ⟨x,hxx⟩ : ∃ x,plFirstV c.pg c.st k (slotsC k).toNat 1 ws = x := ⟨_,rfl⟩
   rw [hxx] at FI hfb hx
   obtain ⟨j,G1,G2,V1,X,hyp,hk0,hc1,_,hj1,hj2,hj3,M,hg,_⟩ := grab_old H c.us hs P rfl hxx hx
   rw [hg]
   obtain ⟨q,hq⟩ : ∃ q,x = q := ⟨_,rfl⟩
   rw [hq] at FI hyp hk0 hc1 hj1 hj3 M ⊢
   have hq1 := isPage_iff.1 hyp
   have pgb := R.pg2
   have hcb := M.o1.cnt H hyp
   have hbb := M.o1.bit H hyp
   have UL := hQQ (fun W (hW : Ws W g cap ws) => by have := r10_Unlink R ws H hl P.ln q k (cntV c.pg c.st ws q) g cap W hW; rw [M.eu] at this; exact this)
   have d0 : decide (q < 0) = false := by simp; omega
   have HQ := hQQ hyp
   have HWB := hQQ (okW_at' ho (bA c.pg c.st q))
   have hkc := (P.f.cnt q hyp (by omega)).2
   have hkd := slots_in (kindV c.pg c.st ws q - 1)
   clear hq hxx hx hfb ho P hk0 hg
   have hc := row_new w c.cells 30
   have HR := hQQ R
   have HH := hQQ H
   have hgl := hw.lt
   obtain ⟨w1,e1⟩ : ∃ w1,w.alloc (.cells c.cells 30) = w1 := ⟨_,rfl⟩
   have m1 : More w w1 := by rw [← e1]; exact (More.refl w).alloc _
   rw [e1] at hc
   have HC := hQQ hc
   have HM := hQQ m1
   have HW := hQQ (hw.more m1)
   have x2 : w1.cell? ⟨w.heap.size,2,none⟩ = some (.int .i64 c.pg) := cell_more hc (More.refl _) rfl
   have X2 := hQQ x2
   have pg1 := R.pg1
   have pg2 := R.pg2
   clear x2 m1 hw R H hc
   obtain ⟨_,⟨q2,q3,_⟩,q4,q5,_⟩ := page_b HH.out.toPgIn HQ.out
   obtain ⟨b1,hb1⟩ : ∃ b : Nat,cA c.pg c.st q = (b : Int) := ⟨(cA c.pg c.st q).toNat,by omega⟩
   obtain ⟨b2,hb2⟩ : ∃ b : Nat,bA c.pg c.st q = (b : Int) := ⟨(bA c.pg c.st q).toNat,by omega⟩
   have l1 : b1 < ws.length := by omega
   have l2 : b2 < ws.length := by omega
   have P1 := hQQ ((page1 (st:=c.st) HQ.out).trans hb1)
   have P2 := hQQ ((page2 (st:=c.st) HQ.out).trans hb2)
   have l1i : (b1 : Int) < ws.length := by omega
   have l2i : (b2 : Int) < ws.length := by omega
   have n12 : b1 ≠ b2 := by
     have := isPage_iff.1 HQ.out
     unfold cA at hb1; unfold bA at hb2; omega
   have HSW : Hid (∀ (b f : Int) (us : List Int),setsW c.pg c.st q b f us = (us.set b2 b).set b1 f) := hQQ fun b f us => by unfold setsW; rw [hb1,hb2]; rfl
   have CCW : Hid (∀ us : List Int,cntV c.pg c.st us q = us.getD b1 0) := hQQ fun us => by unfold cntV; rw [hb1]; rfl
   have CBW : Hid (∀ us : List Int,bitV c.pg c.st us q = us.getD b2 0) := hQQ fun us => by unfold bitV; rw [hb2]; rfl
   have HB1 := hQQ hb1
   have HB2 := hQQ hb2
   have YC := hQQ (fun W => P1.out ▸ y_rcount HR.out q W)
   have YB := hQQ (fun W => P2.out ▸ y_rbits HR.out q W)
   clear hb1 hb2 q2 q3 q4 q5
   have KC : Hid (∀ W,Turned (fun b => b = g) w1 W → W.heap[w.heap.size]? = some (.cells c.cells 30 (0,0))) := hQQ fun W t => (t.block _ (lt_of_heap HC.out) (by omega)).trans HC.out
   have hub := UB.out
   obtain ⟨i,hi⟩ : ∃ i : Int,(j : Int) = i := ⟨_,rfl⟩
   rw [hi] at hj1 hj2 M ⊢
   have hi2 : 0 ≤ i ∧ i ≤ 31 := by omega
   obtain ⟨sz,hsz'⟩ : ∃ sz,szV k = sz := ⟨_,rfl⟩
   rw [hsz'] at ZS hs1 hsz ⊢
   have hb1 : 0 ≤ i * sz := Int.mul_nonneg hi2.1 hsz.1
   have hb2 : i * sz ≤ 31 * 16 := Int.mul_le_mul hi2.2 hsz.2 hsz.1 (by omega)
   have t1 : IntKind.i64.wrap (i * sz) = i * sz := wrap_in (by omega) (by omega)
   have t2 : IntKind.i64.wrap (c.us + 32 * q + i * sz) = c.us + 32 * q + i * sz := wrap_in (by unfold Cfg.us; omega) (by unfold Cfg.us; omega)
   have AD := hQQ (addr_us HR.out HQ.out)
   obtain ⟨adr,hadr⟩ : ∃ adr,c.us + 32 * q = adr := ⟨_,rfl⟩
   rw [hadr] at AD t2 ⊢
   obtain ⟨U,hU⟩ : ∃ U,V1 = U := ⟨_,rfl⟩
   rw [hU] at UL M hcb hbb
   have HUN : Hid (U.length = ws.length) := hQQ M.nu
   obtain ⟨bt,hbt⟩ : ∃ bt : Int,bitV c.pg c.st ws q = bt := ⟨_,rfl⟩
   obtain ⟨f0,hf0⟩ : ∃ f0,cntV c.pg c.st ws q = f0 := ⟨_,rfl⟩
   have HWB' : Hid (W64 bt) := hQQ (by rw [← hbt]; exact HWB.out)
   rw [hbt] at hj1 hj3 M hbb
   rw [hf0] at M hcb hc1 hkc UL
   obtain ⟨nb',hnb⟩ : ∃ nb',setV bt i = nb' := ⟨_,rfl⟩
   rw [hnb] at M
   have HBT : Hid (U.getD b2 0 = bt) := hQQ (by rw [← CBW.out U]; exact hbb)
   have HCT : Hid (U.getD b1 0 = f0) := hQQ (by rw [← CCW.out U]; exact hcb)
   have xw1 : ws.getD b1 0 = f0 := by rw [← CCW.out ws]; exact hf0
   have XW1 := hQQ xw1
   have YF := hQQ (fun W => hj1 ▸ r_firstG bt (slotsC k) W)
   have YT := hQQ (fun W => hnb ▸ r_setG (x:=bt) i HWB'.out W)
   have LK : Hid (∀ W,Ws W g cap ((U.set b2 nb').set b1 (f0 - 1)) → Calls Tryz.prog 84 #[.agg c.cells,.slice (some ⟨g,0,none⟩) ws.length cap,.int .i64 q,.int .i64 k,.int .i64 (f0 - 1)] W (fun e w' => e = .returned (.bool (plLinkV c.pg c.st q k (f0 - 1) ((U.set b2 nb').set b1 (f0 - 1))).1) ∧ Ws w' g cap X ∧ Turned (fun b => b = g) W w')) := hQQ (by
     have e : (U.set b2 nb').set b1 (f0 - 1) = setsW c.pg c.st q nb' (f0 - 1) U := by rw [HSW.out]
     intro W hW
     refine lk_of HR.out (by simp [HUN.out]) HH.out hl (by rw [e]; exact M.lt) q k (f0 - 1) M.m1 (by rw [e]; exact M.eX) g cap W hW)
   have tf : IntKind.i64.wrap (f0 - 1) = f0 - 1 := wrap_in (by omega) (by omega)
   obtain ⟨slk,hslk⟩ : ∃ slk,slotsC k = slk := ⟨_,rfl⟩
   rw [hslk] at YS YF
   clear hi hsz hsz' hadr hU hbt hf0 hnb M hub hq1 hyp hk4 hs hsl hj1 hj2 hj3 hb1 hb2 hi2 hcb hbb hc1 hslk xw1 HWB hkc hkd
   go_enter Tryz.func44,Tryz.ntmps44
   go_wp2_with fail
   clear e1
   refine (ZS.out _).mono ?_
   rintro e w2 ⟨rfl,h2⟩
   have HL2 := hQQ (h2.block HC.out)
   go_wp2_with (refine wpList_load_rowG rfl 30 _ rfl _ rfl 30 _ _ _ HL2.out Tryz.underlying30 rfl (by kernel_rfl) ?_)
   refine (FI.out _ (HW.out.more h2)).mono ?_
   rintro e w3 ⟨rfl,h3⟩
   have M3 := hQQ (h2.trans h3)
   have HL3 := hQQ (M3.out.block HC.out)
   have T3 : Hid (Turned (fun b => b = g) w1 w3) := hQQ (turned_more M3.out)
   have X3 := hQQ (HW.out.more M3.out)
   have x3 : w3.cell? ⟨g,b1,none⟩ = some (.int .i64 f0) := by rw [← XW1.out]; exact X3.out.cell l1
   clear h2 h3
   go_wp2_with fail
   refine wp_region_more_tail 10 (by kernel_rfl) (by kernel_rfl) ?_
   simp only [List.take_succ_cons,List.take_zero,List.drop_succ_cons,List.drop_zero]
   refine wpQuiet_load_row rfl 30 _ rfl _ rfl 30 _ _ _ (fun W hW => hW.block HL3.out) Tryz.underlying30 rfl (by kernel_rfl) ?_
   iterate 4
     with_reducible refine wpQuiet_step (fun K hK => ?_)
     go_simp
     first
     | (refine hK _ ?_; clear hK K)
     | (apply Exists.intro
        refine ⟨fun W hW => ?_,hK _ ?_⟩
        first
        | (go_simp; try rfl)
        clear hK K)
   refine wpQuiet_load_row rfl 30 _ rfl _ rfl 30 _ _ _ (fun W hW => hW.block HL3.out) Tryz.underlying30 rfl (by kernel_rfl) ?_
   iterate 4
     with_reducible refine wpQuiet_step (fun K hK => ?_)
     go_simp
     first
     | (refine hK _ ?_; clear hK K)
     | (apply Exists.intro
        refine ⟨fun W hW => ?_,hK _ ?_⟩
        first
        | (go_at_call 79; exact Calls.more hW (YC.out W))
        | (have xc' := hW.cell x3; go_simp; try rfl)
        clear hK K)
   refine wpQuiet_nil ?_
   intro w4 h4
   have T4 : Hid (Turned (fun b => b = g) w1 w4) := hQQ (T3.out.trans (turned_more h4))
   have X4 := hQQ (X3.out.more h4)
   clear h4 x3
   go_wp2_with fail
   refine (UL.out w4 X4.out).mono ?_
   rintro e w5 ⟨rfl,hx5,ht5⟩
   have X5 := hQQ hx5
   have T5 : Hid (Turned (fun b => b = g) w1 w5) := hQQ (T4.out.trans ht5)
   clear hx5 ht5
   go_wp2_with fail
   -- the words U,at w5: X5,T5; its bits bt,its count f0; i the first open one
   have HL5 := hQQ (KC.out _ T5.out)
   have x5 : w5.cell? ⟨g,b2,none⟩ = some (.int .i64 bt) := by rw [← HBT.out]; exact X5.out.cell (by rw [HUN.out]; exact l2)
   refine wp_region_more_tail 9 (by kernel_rfl) (by kernel_rfl) ?_
   simp only [List.take_succ_cons,List.take_zero,List.drop_succ_cons,List.drop_zero]
   iterate 1
     with_reducible refine wpQuiet_step (fun K hK => ?_)
     go_simp
     first
     | (refine hK _ ?_; clear hK K)
     | (apply Exists.intro
        refine ⟨fun W hW => ?_,hK _ ?_⟩
        first
        | (go_simp; try rfl)
        clear hK K)
   refine wpQuiet_load_row rfl 30 _ rfl _ rfl 30 _ _ _ (fun W hW => hW.block HL5.out) Tryz.underlying30 rfl (by kernel_rfl) ?_
   iterate 7
     with_reducible refine wpQuiet_step (fun K hK => ?_)
     go_simp
     first
     | (refine hK _ ?_; clear hK K)
     | (apply Exists.intro
        refine ⟨fun W hW => ?_,hK _ ?_⟩
        first
        | (go_at_call 82; exact Calls.more hW (YB.out W))
        | (go_at_call 78; exact Calls.more hW (YS.out W))
        | (go_at_call 81; exact Calls.more hW (YF.out W))
        | (have x5' := hW.cell x5; go_simp; try rfl)
        clear hK K)
   refine wpQuiet_nil ?_
   intro w6 h6
   have T6 : Hid (Turned (fun b => b = g) w1 w6) := hQQ (T5.out.trans (turned_more h6))
   have X6 := hQQ (X5.out.more h6)
   have x6 := h6.cell x5
   have HL6 := hQQ (h6.block HL5.out)
   clear h6 x5
   go_wp2_with fail
   refine wp_region_more_tail 13 (by kernel_rfl) (by kernel_rfl) ?_
   simp only [List.take_succ_cons,List.take_zero,List.drop_succ_cons,List.drop_zero]
   iterate 1
     with_reducible refine wpQuiet_step (fun K hK => ?_)
     go_simp
     first
     | (refine hK _ ?_; clear hK K)
     | (apply Exists.intro
        refine ⟨fun W hW => ?_,hK _ ?_⟩
        first
        | (go_simp; try rfl)
        clear hK K)
   refine wpQuiet_load_row rfl 30 _ rfl _ rfl 30 _ _ _ (fun W hW => hW.block HL6.out) Tryz.underlying30 rfl (by kernel_rfl) ?_
   iterate 3
     with_reducible refine wpQuiet_step (fun K hK => ?_)
     go_simp
     first
     | (refine hK _ ?_; clear hK K)
     | (apply Exists.intro
        refine ⟨fun W hW => ?_,hK _ ?_⟩
        first
        | (go_at_call 82; exact Calls.more hW (YB.out W))
        | (go_simp; try rfl)
        clear hK K)
   refine wpQuiet_load_row rfl 30 _ rfl _ rfl 30 _ _ _ (fun W hW => hW.block HL6.out) Tryz.underlying30 rfl (by kernel_rfl) ?_
   iterate 7
     with_reducible refine wpQuiet_step (fun K hK => ?_)
     go_simp
     first
     | (refine hK _ ?_; clear hK K)
     | (apply Exists.intro
        refine ⟨fun W hW => ?_,hK _ ?_⟩
        first
        | (go_at_call 82; exact Calls.more hW (YB.out W))
        | (go_at_call 83; exact Calls.more hW (YT.out W))
        | (have x6' := hW.cell x6; go_simp; try rfl)
        clear hK K)
   refine wpQuiet_nil ?_
   intro w7 h7
   have T7 : Hid (Turned (fun b => b = g) w1 w7) := hQQ (T6.out.trans (turned_more h7))
   have X7 := hQQ (X6.out.more h7)
   clear h7 x6
   have c8 := X7.out.cell (i:=b2) (by rw [HUN.out]; exact l2)
   have f8 := X7.out.froz b2
   have l8 := X7.out.lt
   obtain ⟨w8,e8⟩ : ∃ w8,World.setCell w7 ⟨g,b2,none⟩ (.int .i64 nb') = w8 := ⟨_,rfl⟩
   have X8 : Hid (Ws w8 g cap (U.set b2 nb')) := hQQ (by rw [← e8]; exact X7.out.set (by rw [HUN.out]; exact l2) _)
   have T8 : Hid (Turned (fun b => b = g) w1 w8) := hQQ (by rw [← e8]; exact Turned.setCell T7.out _ _ (fun _ => rfl))
   have HL8 := hQQ (KC.out _ T8.out)
   go_wp2_with (refine wpList_load_rowG rfl 30 _ rfl _ rfl 30 _ _ _ HL8.out Tryz.underlying30 rfl (by kernel_rfl) ?_)
   clear c8 f8 l8 e8
   refine (YC.out _).mono ?_
   rintro e w9 ⟨rfl,h9⟩
   have T9 : Hid (Turned (fun b => b = g) w1 w9) := hQQ (T8.out.trans (turned_more h9))
   have X9 := hQQ (X8.out.more h9)
   clear h9
   have x9 : w9.cell? ⟨g,b1,none⟩ = some (.int .i64 f0) := by
     have := X9.out.cell (i:=b1) (by simp [HUN.out]; exact l1)
     rw [this]; congr 2
     rw [← HCT.out]; simp [List.getD,List.getElem?_set_ne (Ne.symm n12)]
   have c10 := X9.out.cell (i:=b1) (by simp [HUN.out]; exact l1)
   have f10 := X9.out.froz b1
   have l10 := X9.out.lt
   obtain ⟨w10,e10⟩ : ∃ w10,World.setCell w9 ⟨g,b1,none⟩ (.int .i64 (f0 - 1)) = w10 := ⟨_,rfl⟩
   have X10 : Hid (Ws w10 g cap ((U.set b2 nb').set b1 (f0 - 1))) := hQQ (by rw [← e10]; exact X9.out.set (by simp [HUN.out]; exact l1) _)
   have T10 : Hid (Turned (fun b => b = g) w1 w10) := hQQ (by rw [← e10]; exact Turned.setCell T9.out _ _ (fun _ => rfl))
   clear c10
   have HL10 := hQQ (KC.out _ T10.out)
   go_wp2_with fail
   clear x9 f10 l10 e10
   have x10 : w10.cell? ⟨g,b1,none⟩ = some (.int .i64 (f0 - 1)) := by
     have := X10.out.cell (i:=b1) (by simp [HUN.out]; exact l1)
     rw [this]; congr 2
     simp [List.getD,HUN.out,l1]
   refine wp_region_more_tail 10 (by kernel_rfl) (by kernel_rfl) ?_
   simp only [List.take_succ_cons,List.take_zero,List.drop_succ_cons,List.drop_zero]
   refine wpQuiet_load_row rfl 30 _ rfl _ rfl 30 _ _ _ (fun W hW => hW.block HL10.out) Tryz.underlying30 rfl (by kernel_rfl) ?_
   iterate 4
     with_reducible refine wpQuiet_step (fun K hK => ?_)
     go_simp
     first
     | (refine hK _ ?_; clear hK K)
     | (apply Exists.intro
        refine ⟨fun W hW => ?_,hK _ ?_⟩
        first
        | (go_simp; try rfl)
        clear hK K)
   refine wpQuiet_load_row rfl 30 _ rfl _ rfl 30 _ _ _ (fun W hW => hW.block HL10.out) Tryz.underlying30 rfl (by kernel_rfl) ?_
   iterate 4
     with_reducible refine wpQuiet_step (fun K hK => ?_)
     go_simp
     first
     | (refine hK _ ?_; clear hK K)
     | (apply Exists.intro
        refine ⟨fun W hW => ?_,hK _ ?_⟩
        first
        | (go_at_call 79; exact Calls.more hW (YC.out W))
        | (have xc' := hW.cell x10; go_simp; try rfl)
        clear hK K)
   refine wpQuiet_nil ?_
   intro w11 h11
   have T11 : Hid (Turned (fun b => b = g) w1 w11) := hQQ (T10.out.trans (turned_more h11))
   have X11 := hQQ (X10.out.more h11)
   clear h11 x10
   go_wp2_with fail
   refine (LK.out w11 X11.out).mono ?_
   rintro e w12 ⟨rfl,hx12,ht12⟩
   have X12 := hQQ hx12
   have T12 : Hid (Turned (fun b => b = g) w1 w12) := hQQ (T11.out.trans ht12)
   have HL12 := hQQ (KC.out _ T12.out)
   clear hx12 ht12
   go_wp2_with (refine wpList_load_rowG rfl 30 _ rfl _ rfl 30 _ _ _ HL12.out Tryz.underlying30 rfl (by kernel_rfl) ?_)
   refine (AD.out w12).mono ?_
   rintro e w13 ⟨rfl,h13⟩
   have X13 := hQQ (X12.out.more h13)
   have T13 : Hid (Turned (fun b => b = g) w1 w13) := hQQ (T12.out.trans (turned_more h13))
   clear h13
   go_wp2_with fail
   refine (ZS.out w13).mono ?_
   rintro e w14 ⟨rfl,h14⟩
   have FIN : Hid (Ws w14 g cap X ∧ Turned (fun b => b = g) w w14) := hQQ ⟨X13.out.more h14,(turned_more HM.out).trans (T13.out.trans (turned_more h14))⟩
   clear h14
   go_wp2_with fail
   go_ret2
   exact ⟨rfl,FIN.out.1,FIN.out.2⟩
end Go.Proofs.YtflihdcliknggaaGreatDoor
