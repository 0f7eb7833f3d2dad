/-
  The document's own functions of pages, over a row of words: Return.
-/
import Derived.Test.YtflihdcliknggaaGreatDoorPpAt
import Derived.Test.YtflihdcliknggaaGreatDoorPpAs
import Derived.Test.YtflihdcliknggaaGreatDoorPpAo
import Derived.Test.YtflihdcliknggaaGreatDoorPpAp
set_option maxRecDepth 100000
set_option maxHeartbeats 8000000
set_option linter.unusedVariables false
set_option linter.unusedSimpArgs false
set_option linter.unusedSectionVars false
namespace Go.Proofs.YtflihdcliknggaaGreatDoor
open Go.RowKit Go.Sort Go.Maps Go.Shelf
theorem taken_place {us pg st a : Int} {ws : List Int} {q k i : Int} {t : Bool} (h : takenV us pg st a ws = some (q,k,i,t)) : us ≤ a ∧ a < us + 32 * pg ∧ (a - us) / 32 = q ∧ (a - us) % 32 / szV k = i := by
 unfold takenV at h
 split at h
 · rename_i hin
   unfold tkRestV at h
   split at h
   · cases h
   · split at h
     · cases h
     · simp only [Option.some.injEq,Prod.mk.injEq] at h
       obtain ⟨h1,rfl,h3,_⟩ := h
       exact ⟨hin.1,hin.2,h1,h3⟩
 · cases h
theorem wf_low {pg st : Int} {ws : List Int} (hk : ∀ p,isPage pg p = true → 0 ≤ kindV pg st ws p ∧ kindV pg st ws p ≤ 5) (hf : ∀ p,isPage pg p = true → kindV pg st ws p = 0 → cntV pg st ws p = 0 ∧ bitV pg st ws p = 0) (hm : ∀ p,isPage pg p = true → kindV pg st ws p ≠ 0 → mappedV pg st ws (p / 4) = true) : Wf pg st ws := by
 have k7 : ∀ p,kindV pg st ws p ≤ 5 := fun p => by
   cases hp : isPage pg p with
   | true => exact (hk p hp).2
   | false => rw [kind_out hp]; omega
 exact ⟨fun p hp => ⟨(hk p hp).1,by have := (hk p hp).2; omega⟩,fun p e => by have := k7 p; omega,fun p e => by have := k7 p; omega,fun p e => by
   have h := page_of (pg:=pg) (ws:=ws) (st:=st) (p:=p) (by rw [e]; decide)
   exact hf p (isPage_iff.2 h) e,hm⟩
theorem put3_sets {pg st : Int} {n : Nat} (H : HdIn pg st n) {q : Int} (hq : isPage pg q = true) (k x b f : Int) {us : List Int} (hn : us.length = n) : put3V pg st q k x (setsW pg st q b f us) = put3V pg st q k x us := by
 have hl : (setsW pg st q b f us).length = n := by simp [setsW,hn]
 refine words_ext (by rw [put3_len H.toPgIn,put3_len H.toPgIn,hl,hn]) (fun i h0 _ => ?_)
 rw [put3_at H.toPgIn hq k x hl h0,put3_at H.toPgIn hq k x hn h0,sets_at H hq b f hn h0]
 by_cases e1 : i = bA pg st q
 · rw [if_pos e1,if_pos e1]
 · by_cases e2 : i = cA pg st q
   · rw [if_neg e1,if_pos e2,if_neg e1,if_pos e2]
   · rw [if_neg e1,if_neg e2,if_neg e1,if_neg e2,if_neg e2,if_neg e1]
theorem r11_Return {c : Cfg} (R : c.Ok) (ws : List Int) (H : HdIn c.pg c.st ws.length) (hl : ws.length ≤ 1000) {G : Int → List Int} (P : PgW c.pg c.st G ws) (ho : OkW ws) (g cap : Nat) (ad : Int) (w : World) (hw : Ws w g cap ws) :
   Calls Tryz.prog 45 #[.agg c.cells,.slice (some ⟨g,0,none⟩) ws.length cap,.int .i64 ad] w (RowW w g cap (.bool (backV c.us c.pg c.st ad ws).1) (backV c.us c.pg c.st ad ws).2) := by
 have TK := hQQ (fun W (hW : Ws W g cap ws) => r11_Taken R ws H hl P.f g cap ad W hW)
 cases hy : tkYes (takenV c.us c.pg c.st ad ws) with
 | none =>
   rw [back_no H hy]
   have hv : lookV c.us c.pg c.st ad ws = (0,false) := by unfold lookV; rw [hy]; rfl
   rw [hv] at TK
   clear hy hv P ho
   have hc := row_new w c.cells 30
   have HR := hQQ R
   have HH := hQQ H
   have hgl := hw.lt
   obtain ⟨w1,e1⟩ : ∃ w1,w.alloc (.cells c.cells 30) = w1 := ⟨_,rfl⟩
   have m1 : More w w1 := by rw [← e1]; exact (More.refl w).alloc _
   rw [e1] at hc
   have HC := hQQ hc
   have HM := hQQ m1
   have HW := hQQ (hw.more m1)
   have x2 : w1.cell? ⟨w.heap.size,2,none⟩ = some (.int .i64 c.pg) := cell_more hc (More.refl _) rfl
   have X2 := hQQ x2
   have pg1 := R.pg1
   have pg2 := R.pg2
   clear x2 m1 hw R H hc
   go_enter Tryz.func45,Tryz.ntmps45
   go_wp2_with (refine wpList_load_rowG rfl 30 _ rfl _ rfl 30 _ _ _ HC.out Tryz.underlying30 rfl (by kernel_rfl) ?_)
   clear e1
   refine (TK.out _ HW.out).mono ?_
   rintro e w2 ⟨rfl,h2⟩
   have FIN : Hid (Ws w2 g cap ws ∧ Turned (fun b => b = g) w w2) := hQQ ⟨HW.out.more h2,turned_more (HM.out.trans h2)⟩
   clear h2
   go_wp2_with fail
   go_ret
   exact ⟨rfl,FIN.out.1,FIN.out.2⟩
 | some y =>
   obtain ⟨q,k,i⟩ := y
   have hv : lookV c.us c.pg c.st ad ws = (k,true) := by unfold lookV; rw [hy]; rfl
   rw [hv] at TK
   obtain ⟨hyp,hk0,k0,k4,i0,i1,hb,ha,f00,f01,hA,hB⟩ := back_yes H c.us P rfl ho hy
   obtain ⟨p0,p1,p2,p3⟩ := taken_place (tkYes_some hy)
   have PL := hQQ (fun W => rplace_in c.wk c.cp c.pg c.st c.tr c.wt c.ck c.pr c.ca c.bi c.ba W ad R p0 p1)
   have PL := hQQ (show ∀ W,Calls Tryz.prog 86 #[.agg c.cells,.int .i64 ad] W (Gives W (.tuple #[.int .i64 ((ad - c.us) / 32),.int .i64 ((ad - c.us) % 32),.bool true])) from PL.out)
   have hwd : 0 ≤ (ad - c.us) % 32 ∧ (ad - c.us) % 32 < 32 := ⟨by omega,by omega⟩
   rw [p2] at PL
   generalize (ad - c.us) % 32 = wd at PL p3 hwd
   have hsl := slots_in k
   obtain ⟨z,rfl⟩ : ∃ z : Nat,k = (z : Int) := ⟨k.toNat,by omega⟩
   have hsb := sz_b (k:=z) (by omega)
   have hq1 := isPage_iff.1 hyp
   have pgb := R.pg2
   have HQ := hQQ hyp
   have HWB := hQQ (okW_at' ho (bA c.pg c.st q))
   have UL := hQQ (fun W (hW : Ws W g cap ws) => r10_Unlink R ws H hl P.ln q (z : Int) (cntV c.pg c.st ws q) g cap W hW)
   have ZS := hQQ (fun W => r3sizeG (z : Int) W)
   have YS := hQQ (fun W => r3slotsG (z : Int) W)
   obtain ⟨sz,hsz⟩ : ∃ sz,szV (z : Int) = sz := ⟨_,rfl⟩
   rw [hsz] at hsb p3 ZS
   have t1 : wd.tdiv sz = i := by rw [Int.tdiv_eq_ediv_of_nonneg hwd.1,p3]
   have t5 : IntKind.i64.wrap i = i := wrap_in (by omega) (by omega)
   have z0 : (sz == 0) = false := by simp; omega
   have z1 : decide (sz = 0) = false := by simp; omega
   have z2 : (sz == -1) = false := by simp; omega
   have z3 : decide (sz = -1) = false := by simp; omega
   have z4 : ¬ sz = 0 := by omega
   have z5 : ¬ sz = -1 := by omega
   have tf : IntKind.i64.wrap (cntV c.pg c.st ws q + 1) = cntV c.pg c.st ws q + 1 := wrap_in (by omega) (by omega)
   have hF := P.f
   clear hv hy ha p0 p1 p2 p3 hb hsz hsb hwd P
   by_cases hd : cntV c.pg c.st ws q + 1 = slotsC (z : Int)
   · obtain ⟨G1,G2,U,X,M,hg,_⟩ := hB hd
     rw [hg]
     rw [M.eu] at UL
     have hcb := M.o1.cnt H hyp
     have hbb := M.o1.bit H hyp
     have hX : put3V c.pg c.st q 0 0 U = X := by
       rw [← M.eX]
       unfold plLinkV
       rw [if_neg (fun zz => zz.1 (by unfold headV; rw [if_neg (by omega)]))]
     have HUN : Hid (U.length = ws.length) := hQQ M.nu
     have wfU : ∀ b f,Wf c.pg c.st (setsW c.pg c.st q b f U) := fun b f => by
       refine wf_low (fun p hp => ?_) (fun p hp => ?_) (fun p hp => ?_)
       · rw [sets_kind H hyp b f M.nu,M.o1.kind H]; exact hF.kd p hp
       · rw [sets_kind H hyp b f M.nu,M.o1.kind H,sets_cnt H hyp b f M.nu hp,sets_bit H hyp b f M.nu hp]
         intro e
         have hne : p ≠ q := fun e2 => by rw [e2] at e; omega
         rw [if_neg hne,if_neg hne,M.o1.cnt H hp,M.o1.bit H hp]
         exact hF.free p hp e
       · rw [sets_kind H hyp b f M.nu,M.o1.kind H,sets_map H hyp b f M.nu,M.o1.map H]; exact hF.map p hp
     have kU : ∀ b f,kindV c.pg c.st (setsW c.pg c.st q b f U) q = (z : Int) + 1 := fun b f => by rw [sets_kind H hyp b f M.nu,M.o1.kind H]; exact hk0
     have dU : ∀ b f,(dropV c.pg c.st q (setsW c.pg c.st q b f U)).2 = X := fun b f => by
       have hlv : lenV c.pg c.st q (setsW c.pg c.st q b f U) = 1 := by unfold lenV; rw [kU,if_pos (cls_iff.2 ⟨by omega,by omega⟩)]
       have : (dropV c.pg c.st q (setsW c.pg c.st q b f U)).2 = put3V c.pg c.st q 0 0 (setsW c.pg c.st q b f U) := by unfold dropV; rw [hlv]; rfl
       rw [this,put3_sets H hyp 0 0 b f M.nu,hX]
     have DR := hQQ (fun (b f : Int) W (hW : Ws W g cap (setsW c.pg c.st q b f U)) => by
       have hlen : (setsW c.pg c.st q b f U).length = ws.length := by simp [setsW,M.nu]
       have := r9_Drop R (setsW c.pg c.st q b f U) (by rw [hlen]; exact H.toPgIn) (by omega) (wfU b f) g cap q W hW
       rw [hlen,dU] at this
       exact this)
     obtain ⟨bt,hbt⟩ : ∃ bt : Int,bitV c.pg c.st ws q = bt := ⟨_,rfl⟩
     obtain ⟨f0,hf0⟩ : ∃ f0,cntV c.pg c.st ws q = f0 := ⟨_,rfl⟩
     have HWB' : Hid (W64 bt) := hQQ (by rw [← hbt]; exact HWB.out)
     rw [hbt] at hbb
     rw [hf0] at hcb hd UL tf
     obtain ⟨nb',hnb⟩ : ∃ nb',clearV bt i = nb' := ⟨_,rfl⟩
     clear hA hB hg wfU kU dU hX M hF hq1 hyp hk0 k0 k4 i0 i1 f00 f01 ho HWB hsl
     have hc := row_new w c.cells 30
     have HR := hQQ R
     have HH := hQQ H
     have hgl := hw.lt
     obtain ⟨w1,e1⟩ : ∃ w1,w.alloc (.cells c.cells 30) = w1 := ⟨_,rfl⟩
     have m1 : More w w1 := by rw [← e1]; exact (More.refl w).alloc _
     rw [e1] at hc
     have HC := hQQ hc
     have HM := hQQ m1
     have HW := hQQ (hw.more m1)
     have x2 : w1.cell? ⟨w.heap.size,2,none⟩ = some (.int .i64 c.pg) := cell_more hc (More.refl _) rfl
     have X2 := hQQ x2
     have pg1 := R.pg1
     have pg2 := R.pg2
     clear x2 m1 hw R H hc
     obtain ⟨_,⟨q2,q3,_⟩,q4,q5,_⟩ := page_b HH.out.toPgIn HQ.out
     obtain ⟨b1,hb1⟩ : ∃ b : Nat,cA c.pg c.st q = (b : Int) := ⟨(cA c.pg c.st q).toNat,by omega⟩
     obtain ⟨b2,hb2⟩ : ∃ b : Nat,bA c.pg c.st q = (b : Int) := ⟨(bA c.pg c.st q).toNat,by omega⟩
     have l1 : b1 < ws.length := by omega
     have l2 : b2 < ws.length := by omega
     have P1 := hQQ ((page1 (st:=c.st) HQ.out).trans hb1)
     have P2 := hQQ ((page2 (st:=c.st) HQ.out).trans hb2)
     have l1i : (b1 : Int) < ws.length := by omega
     have l2i : (b2 : Int) < ws.length := by omega
     have n12 : b1 ≠ b2 := by
       have := isPage_iff.1 HQ.out
       unfold cA at hb1; unfold bA at hb2; omega
     have HSW : Hid (∀ (b f : Int) (us : List Int),setsW c.pg c.st q b f us = (us.set b2 b).set b1 f) := hQQ fun b f us => by unfold setsW; rw [hb1,hb2]; rfl
     have CCW : Hid (∀ us : List Int,cntV c.pg c.st us q = us.getD b1 0) := hQQ fun us => by unfold cntV; rw [hb1]; rfl
     have CBW : Hid (∀ us : List Int,bitV c.pg c.st us q = us.getD b2 0) := hQQ fun us => by unfold bitV; rw [hb2]; rfl
     have HB1 := hQQ hb1
     have HB2 := hQQ hb2
     have YC := hQQ (fun W => P1.out ▸ y_rcount HR.out q W)
     have YB := hQQ (fun W => P2.out ▸ y_rbits HR.out q W)
     clear hb1 hb2 q2 q3 q4 q5
     have KC : Hid (∀ W,Turned (fun b => b = g) w1 W → W.heap[w.heap.size]? = some (.cells c.cells 30 (0,0))) := hQQ fun W t => (t.block _ (lt_of_heap HC.out) (by omega)).trans HC.out
     have HBT : Hid (U.getD b2 0 = bt) := hQQ (by rw [← CBW.out U]; exact hbb)
     have HCT : Hid (U.getD b1 0 = f0) := hQQ (by rw [← CCW.out U]; exact hcb)
     have XW1 : Hid (ws.getD b1 0 = f0) := hQQ (by rw [← CCW.out ws]; exact hf0)
     have YT := hQQ (fun W => hnb ▸ r_clearG (x:=bt) i HWB'.out W)
     have DR := hQQ (fun W (hW : Ws W g cap ((U.set b2 nb').set b1 (f0 + 1))) => DR.out nb' (f0 + 1) W (by rw [HSW.out]; exact hW))
     obtain ⟨sl,hsl⟩ : ∃ sl,slotsC (z : Int) = sl := ⟨_,rfl⟩
     rw [hsl] at YS hd
     have de : (f0 + 1 == sl) = true := by simp [hd]
     clear hbt hf0 hnb hcb hbb hsl hd
     go_enter Tryz.func45,Tryz.ntmps45
     go_wp2_with (refine wpList_load_rowG rfl 30 _ rfl _ rfl 30 _ _ _ HC.out Tryz.underlying30 rfl (by kernel_rfl) ?_)
     clear e1
     refine (TK.out _ HW.out).mono ?_
     rintro e w2 ⟨rfl,h2⟩
     have HL2 := hQQ (h2.block HC.out)
     go_wp2_with (refine wpList_load_rowG rfl 30 _ rfl _ rfl 30 _ _ _ HL2.out Tryz.underlying30 rfl (by kernel_rfl) ?_)
     refine (PL.out _).mono ?_
     rintro e w3 ⟨rfl,h3⟩
     have M3 := hQQ (h2.trans h3)
     have HL3 := hQQ (M3.out.block HC.out)
     have T3 : Hid (Turned (fun b => b = g) w1 w3) := hQQ (turned_more M3.out)
     have X3 := hQQ (HW.out.more M3.out)
     have x3 : w3.cell? ⟨g,b1,none⟩ = some (.int .i64 f0) := by rw [← XW1.out]; exact X3.out.cell l1
     clear h2 h3
     go_wp2_with fail
     refine wp_region_more_tail 10 (by kernel_rfl) (by kernel_rfl) ?_
     simp only [List.take_succ_cons,List.take_zero,List.drop_succ_cons,List.drop_zero]
     refine wpQuiet_load_row rfl 30 _ rfl _ rfl 30 _ _ _ (fun W hW => hW.block HL3.out) Tryz.underlying30 rfl (by kernel_rfl) ?_
     iterate 4
       with_reducible refine wpQuiet_step (fun K hK => ?_)
       go_simp
       first
       | (refine hK _ ?_; clear hK K)
       | (apply Exists.intro
          refine ⟨fun W hW => ?_,hK _ ?_⟩
          first
          | (go_simp; try rfl)
          clear hK K)
     refine wpQuiet_load_row rfl 30 _ rfl _ rfl 30 _ _ _ (fun W hW => hW.block HL3.out) Tryz.underlying30 rfl (by kernel_rfl) ?_
     iterate 4
       with_reducible refine wpQuiet_step (fun K hK => ?_)
       go_simp
       first
       | (refine hK _ ?_; clear hK K)
       | (apply Exists.intro
          refine ⟨fun W hW => ?_,hK _ ?_⟩
          first
          | (go_at_call 79; exact Calls.more hW (YC.out W))
          | (have xc' := hW.cell x3; go_simp; try rfl)
          clear hK K)
     refine wpQuiet_nil ?_
     intro w4 h4
     have T4 : Hid (Turned (fun b => b = g) w1 w4) := hQQ (T3.out.trans (turned_more h4))
     have X4 := hQQ (X3.out.more h4)
     clear h4 x3
     go_wp2_with fail
     refine (UL.out w4 X4.out).mono ?_
     rintro e w5 ⟨rfl,hx5,ht5⟩
     have X5 := hQQ hx5
     have T5 : Hid (Turned (fun b => b = g) w1 w5) := hQQ (T4.out.trans ht5)
     clear hx5 ht5
     go_wp2_with fail
     -- the words U at w5: X5,T5; its bits bt,its count f0
     have HL5 := hQQ (KC.out _ T5.out)
     have x5 : w5.cell? ⟨g,b2,none⟩ = some (.int .i64 bt) := by rw [← HBT.out]; exact X5.out.cell (by rw [HUN.out]; exact l2)
     refine wp_region_more_tail 16 (by kernel_rfl) (by kernel_rfl) ?_
     simp only [List.take_succ_cons,List.take_zero,List.drop_succ_cons,List.drop_zero]
     iterate 1
       with_reducible refine wpQuiet_step (fun K hK => ?_)
       go_simp
       first
       | (refine hK _ ?_; clear hK K)
       | (apply Exists.intro
          refine ⟨fun W hW => ?_,hK _ ?_⟩
          first
          | (go_simp; try rfl)
          clear hK K)
     refine wpQuiet_load_row rfl 30 _ rfl _ rfl 30 _ _ _ (fun W hW => hW.block HL5.out) Tryz.underlying30 rfl (by kernel_rfl) ?_
     iterate 3
       with_reducible refine wpQuiet_step (fun K hK => ?_)
       go_simp
       first
       | (refine hK _ ?_; clear hK K)
       | (apply Exists.intro
          refine ⟨fun W hW => ?_,hK _ ?_⟩
          first
          | (go_at_call 82; exact Calls.more hW (YB.out W))
          | (go_simp; try rfl)
          clear hK K)
     refine wpQuiet_load_row rfl 30 _ rfl _ rfl 30 _ _ _ (fun W hW => hW.block HL5.out) Tryz.underlying30 rfl (by kernel_rfl) ?_
     iterate 10
       with_reducible refine wpQuiet_step (fun K hK => ?_)
       go_simp
       first
       | (refine hK _ ?_; clear hK K)
       | (apply Exists.intro
          refine ⟨fun W hW => ?_,hK _ ?_⟩
          first
          | (go_at_call 82; exact Calls.more hW (YB.out W))
          | (go_at_call 74; exact Calls.more hW (ZS.out W))
          | (go_at_call 87; exact Calls.more hW (YT.out W))
          | (have x5' := hW.cell x5; go_simp; try rfl)
          clear hK K)
     refine wpQuiet_nil ?_
     intro w7 h7
     have T7 : Hid (Turned (fun b => b = g) w1 w7) := hQQ (T5.out.trans (turned_more h7))
     have X7 := hQQ (X5.out.more h7)
     clear h7 x5
     have c8 := X7.out.cell (i:=b2) (by rw [HUN.out]; exact l2)
     have f8 := X7.out.froz b2
     have l8 := X7.out.lt
     obtain ⟨w8,e8⟩ : ∃ w8,World.setCell w7 ⟨g,b2,none⟩ (.int .i64 nb') = w8 := ⟨_,rfl⟩
     have X8 : Hid (Ws w8 g cap (U.set b2 nb')) := hQQ (by rw [← e8]; exact X7.out.set (by rw [HUN.out]; exact l2) _)
     have T8 : Hid (Turned (fun b => b = g) w1 w8) := hQQ (by rw [← e8]; exact Turned.setCell T7.out _ _ (fun _ => rfl))
     have HL8 := hQQ (KC.out _ T8.out)
     go_wp2_with (refine wpList_load_rowG rfl 30 _ rfl _ rfl 30 _ _ _ HL8.out Tryz.underlying30 rfl (by kernel_rfl) ?_)
     clear c8 f8 l8 e8
     refine (YC.out _).mono ?_
     rintro e w9 ⟨rfl,h9⟩
     have T9 : Hid (Turned (fun b => b = g) w1 w9) := hQQ (T8.out.trans (turned_more h9))
     have X9 := hQQ (X8.out.more h9)
     clear h9
     have x9 : w9.cell? ⟨g,b1,none⟩ = some (.int .i64 f0) := by
       have := X9.out.cell (i:=b1) (by simp [HUN.out]; exact l1)
       rw [this]; congr 2
       rw [← HCT.out]; simp [List.getD,List.getElem?_set_ne (Ne.symm n12)]
     have c10 := X9.out.cell (i:=b1) (by simp [HUN.out]; exact l1)
     have f10 := X9.out.froz b1
     have l10 := X9.out.lt
     obtain ⟨w10,e10⟩ : ∃ w10,World.setCell w9 ⟨g,b1,none⟩ (.int .i64 (f0 + 1)) = w10 := ⟨_,rfl⟩
     have X10 : Hid (Ws w10 g cap ((U.set b2 nb').set b1 (f0 + 1))) := hQQ (by rw [← e10]; exact X9.out.set (by simp [HUN.out]; exact l1) _)
     have T10 : Hid (Turned (fun b => b = g) w1 w10) := hQQ (by rw [← e10]; exact Turned.setCell T9.out _ _ (fun _ => rfl))
     clear c10
     have HL10 := hQQ (KC.out _ T10.out)
     go_wp2_with fail
     clear x9 f10 l10 e10
     have x10 : w10.cell? ⟨g,b1,none⟩ = some (.int .i64 (f0 + 1)) := by
       have := X10.out.cell (i:=b1) (by simp [HUN.out]; exact l1)
       rw [this]; congr 2
       simp [List.getD,HUN.out,l1]
     refine wp_region_more (by kernel_rfl) (by kernel_rfl) ?_
     iterate 1
       with_reducible refine wpQuiet_step (fun K hK => ?_)
       go_simp
       first
       | (refine hK _ ?_; clear hK K)
       | (apply Exists.intro
          refine ⟨fun W hW => ?_,hK _ ?_⟩
          first
          | (go_simp; try rfl)
          clear hK K)
     refine wpQuiet_load_row rfl 30 _ rfl _ rfl 30 _ _ _ (fun W hW => hW.block HL10.out) Tryz.underlying30 rfl (by kernel_rfl) ?_
     iterate 7
       with_reducible refine wpQuiet_step (fun K hK => ?_)
       go_simp
       first
       | (refine hK _ ?_; clear hK K)
       | (apply Exists.intro
          refine ⟨fun W hW => ?_,hK _ ?_⟩
          first
          | (go_at_call 79; exact Calls.more hW (YC.out W))
          | (go_at_call 78; exact Calls.more hW (YS.out W))
          | (have x10' := hW.cell x10; go_simp; try rfl)
          clear hK K)
     refine wpQuiet_nil ?_
     intro wd1 hd1
     have T13 : Hid (Turned (fun b => b = g) w1 wd1) := hQQ (T10.out.trans (turned_more hd1))
     have X13 := hQQ (X10.out.more hd1)
     have x13 := hd1.cell x10
     have HL13 := hQQ (KC.out _ T13.out)
     clear hd1 x10
     go_wp2_with (refine wpList_load_rowG rfl 30 _ rfl _ rfl 30 _ _ _ HL13.out Tryz.underlying30 rfl (by kernel_rfl) ?_)
     clear x13
     refine (DR.out _ X13.out).mono ?_
     rintro e wz ⟨rfl,hxz,htz⟩
     have FIN : Hid (Ws wz g cap X ∧ Turned (fun b => b = g) w wz) := hQQ ⟨hxz,(turned_more HM.out).trans (T13.out.trans htz)⟩
     clear hxz htz
     go_wp2_with fail
     go_ret
     exact ⟨rfl,FIN.out.1,FIN.out.2⟩
   · obtain ⟨G1,G2,U,X,M,hg,_⟩ := hA hd
     rw [hg]
     rw [M.eu] at UL
     have hcb := M.o1.cnt H hyp
     have hbb := M.o1.bit H hyp
     have HUN : Hid (U.length = ws.length) := hQQ M.nu
     obtain ⟨bt,hbt⟩ : ∃ bt : Int,bitV c.pg c.st ws q = bt := ⟨_,rfl⟩
     obtain ⟨f0,hf0⟩ : ∃ f0,cntV c.pg c.st ws q = f0 := ⟨_,rfl⟩
     have HWB' : Hid (W64 bt) := hQQ (by rw [← hbt]; exact HWB.out)
     rw [hbt] at hbb M
     rw [hf0] at hcb hd UL tf M
     obtain ⟨nb',hnb⟩ : ∃ nb',clearV bt i = nb' := ⟨_,rfl⟩
     rw [hnb] at M
     clear hA hB hg hF hq1 hyp hk0 k0 k4 i0 i1 f00 f01 ho HWB hsl
     have hc := row_new w c.cells 30
     have HR := hQQ R
     have HH := hQQ H
     have hgl := hw.lt
     obtain ⟨w1,e1⟩ : ∃ w1,w.alloc (.cells c.cells 30) = w1 := ⟨_,rfl⟩
     have m1 : More w w1 := by rw [← e1]; exact (More.refl w).alloc _
     rw [e1] at hc
     have HC := hQQ hc
     have HM := hQQ m1
     have HW := hQQ (hw.more m1)
     have x2 : w1.cell? ⟨w.heap.size,2,none⟩ = some (.int .i64 c.pg) := cell_more hc (More.refl _) rfl
     have X2 := hQQ x2
     have pg1 := R.pg1
     have pg2 := R.pg2
     clear x2 m1 hw R H hc
     obtain ⟨_,⟨q2,q3,_⟩,q4,q5,_⟩ := page_b HH.out.toPgIn HQ.out
     obtain ⟨b1,hb1⟩ : ∃ b : Nat,cA c.pg c.st q = (b : Int) := ⟨(cA c.pg c.st q).toNat,by omega⟩
     obtain ⟨b2,hb2⟩ : ∃ b : Nat,bA c.pg c.st q = (b : Int) := ⟨(bA c.pg c.st q).toNat,by omega⟩
     have l1 : b1 < ws.length := by omega
     have l2 : b2 < ws.length := by omega
     have P1 := hQQ ((page1 (st:=c.st) HQ.out).trans hb1)
     have P2 := hQQ ((page2 (st:=c.st) HQ.out).trans hb2)
     have l1i : (b1 : Int) < ws.length := by omega
     have l2i : (b2 : Int) < ws.length := by omega
     have n12 : b1 ≠ b2 := by
       have := isPage_iff.1 HQ.out
       unfold cA at hb1; unfold bA at hb2; omega
     have HSW : Hid (∀ (b f : Int) (us : List Int),setsW c.pg c.st q b f us = (us.set b2 b).set b1 f) := hQQ fun b f us => by unfold setsW; rw [hb1,hb2]; rfl
     have CCW : Hid (∀ us : List Int,cntV c.pg c.st us q = us.getD b1 0) := hQQ fun us => by unfold cntV; rw [hb1]; rfl
     have CBW : Hid (∀ us : List Int,bitV c.pg c.st us q = us.getD b2 0) := hQQ fun us => by unfold bitV; rw [hb2]; rfl
     have HB1 := hQQ hb1
     have HB2 := hQQ hb2
     have YC := hQQ (fun W => P1.out ▸ y_rcount HR.out q W)
     have YB := hQQ (fun W => P2.out ▸ y_rbits HR.out q W)
     clear hb1 hb2 q2 q3 q4 q5
     have KC : Hid (∀ W,Turned (fun b => b = g) w1 W → W.heap[w.heap.size]? = some (.cells c.cells 30 (0,0))) := hQQ fun W t => (t.block _ (lt_of_heap HC.out) (by omega)).trans HC.out
     have HBT : Hid (U.getD b2 0 = bt) := hQQ (by rw [← CBW.out U]; exact hbb)
     have HCT : Hid (U.getD b1 0 = f0) := hQQ (by rw [← CCW.out U]; exact hcb)
     have XW1 : Hid (ws.getD b1 0 = f0) := hQQ (by rw [← CCW.out ws]; exact hf0)
     have YT := hQQ (fun W => hnb ▸ r_clearG (x:=bt) i HWB'.out W)
     have LK : Hid (∀ W,Ws W g cap ((U.set b2 nb').set b1 (f0 + 1)) → Calls Tryz.prog 84 #[.agg c.cells,.slice (some ⟨g,0,none⟩) ws.length cap,.int .i64 q,.int .i64 (z : Int),.int .i64 (f0 + 1)] W (fun e w' => e = .returned (.bool (plLinkV c.pg c.st q (z : Int) (f0 + 1) ((U.set b2 nb').set b1 (f0 + 1))).1) ∧ Ws w' g cap X ∧ Turned (fun b => b = g) W w')) := hQQ (by
       have e : (U.set b2 nb').set b1 (f0 + 1) = setsW c.pg c.st q nb' (f0 + 1) U := by rw [HSW.out]
       intro W hW
       refine lk_of HR.out (by simp [HUN.out]) HH.out hl (by rw [e]; exact M.lt) q (z : Int) (f0 + 1) M.m1 (by rw [e]; exact M.eX) g cap W hW)
     obtain ⟨sl,hsl⟩ : ∃ sl,slotsC (z : Int) = sl := ⟨_,rfl⟩
     rw [hsl] at YS hd
     have de : (f0 + 1 == sl) = false := by simpa using hd
     clear hbt hf0 hnb hcb hbb hsl hd M
     go_enter Tryz.func45,Tryz.ntmps45
     go_wp2_with (refine wpList_load_rowG rfl 30 _ rfl _ rfl 30 _ _ _ HC.out Tryz.underlying30 rfl (by kernel_rfl) ?_)
     clear e1
     refine (TK.out _ HW.out).mono ?_
     rintro e w2 ⟨rfl,h2⟩
     have HL2 := hQQ (h2.block HC.out)
     go_wp2_with (refine wpList_load_rowG rfl 30 _ rfl _ rfl 30 _ _ _ HL2.out Tryz.underlying30 rfl (by kernel_rfl) ?_)
     refine (PL.out _).mono ?_
     rintro e w3 ⟨rfl,h3⟩
     have M3 := hQQ (h2.trans h3)
     have HL3 := hQQ (M3.out.block HC.out)
     have T3 : Hid (Turned (fun b => b = g) w1 w3) := hQQ (turned_more M3.out)
     have X3 := hQQ (HW.out.more M3.out)
     have x3 : w3.cell? ⟨g,b1,none⟩ = some (.int .i64 f0) := by rw [← XW1.out]; exact X3.out.cell l1
     clear h2 h3
     go_wp2_with fail
     refine wp_region_more_tail 10 (by kernel_rfl) (by kernel_rfl) ?_
     simp only [List.take_succ_cons,List.take_zero,List.drop_succ_cons,List.drop_zero]
     refine wpQuiet_load_row rfl 30 _ rfl _ rfl 30 _ _ _ (fun W hW => hW.block HL3.out) Tryz.underlying30 rfl (by kernel_rfl) ?_
     iterate 4
       with_reducible refine wpQuiet_step (fun K hK => ?_)
       go_simp
       first
       | (refine hK _ ?_; clear hK K)
       | (apply Exists.intro
          refine ⟨fun W hW => ?_,hK _ ?_⟩
          first
          | (go_simp; try rfl)
          clear hK K)
     refine wpQuiet_load_row rfl 30 _ rfl _ rfl 30 _ _ _ (fun W hW => hW.block HL3.out) Tryz.underlying30 rfl (by kernel_rfl) ?_
     iterate 4
       with_reducible refine wpQuiet_step (fun K hK => ?_)
       go_simp
       first
       | (refine hK _ ?_; clear hK K)
       | (apply Exists.intro
          refine ⟨fun W hW => ?_,hK _ ?_⟩
          first
          | (go_at_call 79; exact Calls.more hW (YC.out W))
          | (have xc' := hW.cell x3; go_simp; try rfl)
          clear hK K)
     refine wpQuiet_nil ?_
     intro w4 h4
     have T4 : Hid (Turned (fun b => b = g) w1 w4) := hQQ (T3.out.trans (turned_more h4))
     have X4 := hQQ (X3.out.more h4)
     clear h4 x3
     go_wp2_with fail
     refine (UL.out w4 X4.out).mono ?_
     rintro e w5 ⟨rfl,hx5,ht5⟩
     have X5 := hQQ hx5
     have T5 : Hid (Turned (fun b => b = g) w1 w5) := hQQ (T4.out.trans ht5)
     clear hx5 ht5
     go_wp2_with fail
     -- the words U at w5: X5,T5; its bits bt,its count f0
     have HL5 := hQQ (KC.out _ T5.out)
     have x5 : w5.cell? ⟨g,b2,none⟩ = some (.int .i64 bt) := by rw [← HBT.out]; exact X5.out.cell (by rw [HUN.out]; exact l2)
     refine wp_region_more_tail 16 (by kernel_rfl) (by kernel_rfl) ?_
     simp only [List.take_succ_cons,List.take_zero,List.drop_succ_cons,List.drop_zero]
     iterate 1
       with_reducible refine wpQuiet_step (fun K hK => ?_)
       go_simp
       first
       | (refine hK _ ?_; clear hK K)
       | (apply Exists.intro
          refine ⟨fun W hW => ?_,hK _ ?_⟩
          first
          | (go_simp; try rfl)
          clear hK K)
     refine wpQuiet_load_row rfl 30 _ rfl _ rfl 30 _ _ _ (fun W hW => hW.block HL5.out) Tryz.underlying30 rfl (by kernel_rfl) ?_
     iterate 3
       with_reducible refine wpQuiet_step (fun K hK => ?_)
       go_simp
       first
       | (refine hK _ ?_; clear hK K)
       | (apply Exists.intro
          refine ⟨fun W hW => ?_,hK _ ?_⟩
          first
          | (go_at_call 82; exact Calls.more hW (YB.out W))
          | (go_simp; try rfl)
          clear hK K)
     refine wpQuiet_load_row rfl 30 _ rfl _ rfl 30 _ _ _ (fun W hW => hW.block HL5.out) Tryz.underlying30 rfl (by kernel_rfl) ?_
     iterate 10
       with_reducible refine wpQuiet_step (fun K hK => ?_)
       go_simp
       first
       | (refine hK _ ?_; clear hK K)
       | (apply Exists.intro
          refine ⟨fun W hW => ?_,hK _ ?_⟩
          first
          | (go_at_call 82; exact Calls.more hW (YB.out W))
          | (go_at_call 74; exact Calls.more hW (ZS.out W))
          | (go_at_call 87; exact Calls.more hW (YT.out W))
          | (have x5' := hW.cell x5; go_simp; try rfl)
          clear hK K)
     refine wpQuiet_nil ?_
     intro w7 h7
     have T7 : Hid (Turned (fun b => b = g) w1 w7) := hQQ (T5.out.trans (turned_more h7))
     have X7 := hQQ (X5.out.more h7)
     clear h7 x5
     have c8 := X7.out.cell (i:=b2) (by rw [HUN.out]; exact l2)
     have f8 := X7.out.froz b2
     have l8 := X7.out.lt
     obtain ⟨w8,e8⟩ : ∃ w8,World.setCell w7 ⟨g,b2,none⟩ (.int .i64 nb') = w8 := ⟨_,rfl⟩
     have X8 : Hid (Ws w8 g cap (U.set b2 nb')) := hQQ (by rw [← e8]; exact X7.out.set (by rw [HUN.out]; exact l2) _)
     have T8 : Hid (Turned (fun b => b = g) w1 w8) := hQQ (by rw [← e8]; exact Turned.setCell T7.out _ _ (fun _ => rfl))
     have HL8 := hQQ (KC.out _ T8.out)
     go_wp2_with (refine wpList_load_rowG rfl 30 _ rfl _ rfl 30 _ _ _ HL8.out Tryz.underlying30 rfl (by kernel_rfl) ?_)
     clear c8 f8 l8 e8
     refine (YC.out _).mono ?_
     rintro e w9 ⟨rfl,h9⟩
     have T9 : Hid (Turned (fun b => b = g) w1 w9) := hQQ (T8.out.trans (turned_more h9))
     have X9 := hQQ (X8.out.more h9)
     clear h9
     have x9 : w9.cell? ⟨g,b1,none⟩ = some (.int .i64 f0) := by
       have := X9.out.cell (i:=b1) (by simp [HUN.out]; exact l1)
       rw [this]; congr 2
       rw [← HCT.out]; simp [List.getD,List.getElem?_set_ne (Ne.symm n12)]
     have c10 := X9.out.cell (i:=b1) (by simp [HUN.out]; exact l1)
     have f10 := X9.out.froz b1
     have l10 := X9.out.lt
     obtain ⟨w10,e10⟩ : ∃ w10,World.setCell w9 ⟨g,b1,none⟩ (.int .i64 (f0 + 1)) = w10 := ⟨_,rfl⟩
     have X10 : Hid (Ws w10 g cap ((U.set b2 nb').set b1 (f0 + 1))) := hQQ (by rw [← e10]; exact X9.out.set (by simp [HUN.out]; exact l1) _)
     have T10 : Hid (Turned (fun b => b = g) w1 w10) := hQQ (by rw [← e10]; exact Turned.setCell T9.out _ _ (fun _ => rfl))
     clear c10
     have HL10 := hQQ (KC.out _ T10.out)
     go_wp2_with fail
     clear x9 f10 l10 e10
     have x10 : w10.cell? ⟨g,b1,none⟩ = some (.int .i64 (f0 + 1)) := by
       have := X10.out.cell (i:=b1) (by simp [HUN.out]; exact l1)
       rw [this]; congr 2
       simp [List.getD,HUN.out,l1]
     refine wp_region_more (by kernel_rfl) (by kernel_rfl) ?_
     iterate 1
       with_reducible refine wpQuiet_step (fun K hK => ?_)
       go_simp
       first
       | (refine hK _ ?_; clear hK K)
       | (apply Exists.intro
          refine ⟨fun W hW => ?_,hK _ ?_⟩
          first
          | (go_simp; try rfl)
          clear hK K)
     refine wpQuiet_load_row rfl 30 _ rfl _ rfl 30 _ _ _ (fun W hW => hW.block HL10.out) Tryz.underlying30 rfl (by kernel_rfl) ?_
     iterate 7
       with_reducible refine wpQuiet_step (fun K hK => ?_)
       go_simp
       first
       | (refine hK _ ?_; clear hK K)
       | (apply Exists.intro
          refine ⟨fun W hW => ?_,hK _ ?_⟩
          first
          | (go_at_call 79; exact Calls.more hW (YC.out W))
          | (go_at_call 78; exact Calls.more hW (YS.out W))
          | (have x10' := hW.cell x10; go_simp; try rfl)
          clear hK K)
     refine wpQuiet_nil ?_
     intro wd1 hd1
     have T13 : Hid (Turned (fun b => b = g) w1 wd1) := hQQ (T10.out.trans (turned_more hd1))
     have X13 := hQQ (X10.out.more hd1)
     have x13 := hd1.cell x10
     have HL13 := hQQ (KC.out _ T13.out)
     clear hd1 x10
     go_wp2_with fail
     refine wp_region_more_tail 10 (by kernel_rfl) (by kernel_rfl) ?_
     simp only [List.take_succ_cons,List.take_zero,List.drop_succ_cons,List.drop_zero]
     refine wpQuiet_load_row rfl 30 _ rfl _ rfl 30 _ _ _ (fun W hW => hW.block HL13.out) Tryz.underlying30 rfl (by kernel_rfl) ?_
     iterate 4
       with_reducible refine wpQuiet_step (fun K hK => ?_)
       go_simp
       first
       | (refine hK _ ?_; clear hK K)
       | (apply Exists.intro
          refine ⟨fun W hW => ?_,hK _ ?_⟩
          first
          | (go_simp; try rfl)
          clear hK K)
     refine wpQuiet_load_row rfl 30 _ rfl _ rfl 30 _ _ _ (fun W hW => hW.block HL13.out) Tryz.underlying30 rfl (by kernel_rfl) ?_
     iterate 4
       with_reducible refine wpQuiet_step (fun K hK => ?_)
       go_simp
       first
       | (refine hK _ ?_; clear hK K)
       | (apply Exists.intro
          refine ⟨fun W hW => ?_,hK _ ?_⟩
          first
          | (go_at_call 79; exact Calls.more hW (YC.out W))
          | (have xc' := hW.cell x13; go_simp; try rfl)
          clear hK K)
     refine wpQuiet_nil ?_
     intro w14 h14
     have T14 : Hid (Turned (fun b => b = g) w1 w14) := hQQ (T13.out.trans (turned_more h14))
     have X14 := hQQ (X13.out.more h14)
     clear h14 x13
     go_wp2_with fail
     refine (LK.out w14 X14.out).mono ?_
     rintro e wz ⟨rfl,hxz,htz⟩
     have FIN : Hid (Ws wz g cap X ∧ Turned (fun b => b = g) w wz) := hQQ ⟨hxz,(turned_more HM.out).trans (T14.out.trans htz)⟩
     clear hxz htz
     go_wp2_with fail
     go_ret
     exact ⟨rfl,FIN.out.1,FIN.out.2⟩
theorem told_fin {w w1 wz : World} {g cap k : Nat} {ws : List Int} (cs : Array Value) (m : More w w1) (hT : Turned (fun b => b = g) w1 wz) (hW : Ws wz g cap ws) (hg : g < w.heap.size) (hk : w.heap.size ≤ k) : Ws (wz.setRow k cs) g cap ws ∧ Turned (fun b => b = g) w (wz.setRow k cs) := by
 have t : Turned (fun b => b = k) wz (wz.setRow k cs) := Turned.setRow (Turned.refl _ wz) _ _ (fun _ => rfl)
 exact ⟨hW.keep t (by omega),turned_own ((turned_more m).trans hT) t (fun b q => .inr (by omega))⟩
theorem fn_told11 {c : Cfg} (R : c.Ok) (ws : List Int) (H : HdIn c.pg c.st ws.length) (hl : ws.length ≤ 1000) {G : Int → List Int} (P : PgW c.pg c.st G ws) (ho : OkW ws) (kd k m ad : Int) (g cap : Nat) (w : World) (hw : Ws w g cap ws) :
   Calls Tryz.prog 13 #[.agg c.cells,.slice (some ⟨g,0,none⟩) ws.length cap,.agg #[.int .i64 kd,.int .i64 k,.int .i64 m],.int .i64 ad] w (RowW w g cap (val4 (gdoneV c.us c.pg c.st kd k ad ws).1) (gdoneV c.us c.pg c.st kd k ad ws).2) := by
 have CG := hQQ (fun W hW => r11_Grab R ws H hl P ho g cap k W hW)
 have CB := hQQ (fun W hW => r11_Return R ws H hl P ho g cap ad W hW)
 have CT := hQQ (fun W hW => r11_Taken R ws H hl P.f g cap ad W hW)
 have CR := hQQ (fun W hW => r11_Room R ws H hl P.ln g cap k W hW)
 have CF := hQQ (fun W hW => r11_Free R ws H hl g cap k W hW)
 obtain ⟨w1,e1,hb0,hb1,hb2,m1,s1⟩ := entry3 w (.cells c.cells 30) (.cells #[.int .i64 kd,.int .i64 k,.int .i64 m] 38) (.cells #[.int .i64 0,.int .i64 0,.int .i64 0,.int .i64 0] 39)
 have hgl := hw.lt
 have W1 := hQQ (hw.more m1)
 have T1 : Hid (Turned (fun b => b = g) w1 w1) := hQQ (Turned.refl _ _)
 have L0 := hQQ hb0
 have KZ : Hid (∀ W,Turned (fun b => b = g) w1 W → W.heap[w.heap.size + 2]? = some (.cells #[.int .i64 0,.int .i64 0,.int .i64 0,.int .i64 0] 39 (0,0)) ∧ W.heap[w.heap.size]? = some (.cells c.cells 30 (0,0)) ∧ W.heap[w.heap.size + 1]? = some (.cells #[.int .i64 kd,.int .i64 k,.int .i64 m] 38 (0,0))) := hQQ fun W t =>
   ⟨(t.block _ (lt_of_heap hb2) (by omega)).trans hb2,(t.block _ (lt_of_heap hb0) (by omega)).trans hb0,(t.block _ (lt_of_heap hb1) (by omega)).trans hb1⟩
 have FINT : Hid (∀ (x : V4) (a : List Int) (W : World),Turned (fun b => b = g) w1 W → Ws W g cap a → Ws (W.setRow (w.heap.size + 2) #[.int .i64 x.1,.int .i64 x.2.1,.int .i64 x.2.2.1,.int .i64 x.2.2.2]) g cap a ∧ Turned (fun b => b = g) w (W.setRow (w.heap.size + 2) #[.int .i64 x.1,.int .i64 x.2.1,.int .i64 x.2.2.1,.int .i64 x.2.2.2])) := hQQ fun x a W t h => told_fin _ m1 t h hgl (by omega)
 have y0 := cell_more (j:=0) hb1 (More.refl _) rfl
 have y1 := cell_more (j:=1) hb1 (More.refl _) rfl
 have Y1 := hQQ y1
 have b41 := build4
 have b42 := build4b
 have b44 := build4d
 clear hb0 hb1 hb2 m1 hw R H P ho s1
 by_cases z0 : kd = 0
 · have t0 : (kd == 0) = true := by simp [z0]
   rw [show gdoneV c.us c.pg c.st kd k ad ws = (((grabV c.us c.pg c.st k ws).1.1,b2i (grabV c.us c.pg c.st k ws).1.2,0,0),(grabV c.us c.pg c.st k ws).2) by unfold gdoneV; rw [if_pos (.inl z0)]]
   clear z0
   go_enter Tryz.func13,Tryz.ntmps13
   go_wp2_with (refine wpList_load_rowG rfl 30 _ rfl _ rfl 30 _ _ _ L0.out Tryz.underlying30 rfl (by kernel_rfl) ?_)
   clear e1
   refine (CG.out w1 W1.out).mono ?_
   rintro e w4 ⟨rfl,hw4,ht4⟩
   have W4 := hQQ hw4
   have T4 := hQQ (T1.out.trans ht4)
   clear hw4 ht4
   go_wp2_with fail
   refine (l11_number _ w4).mono ?_
   rintro e w5 ⟨rfl,h5⟩
   have W5 := hQQ (W4.out.more h5)
   have T5 := hQQ (T4.out.trans (turned_more h5))
   clear h5
   obtain ⟨Zn,Wn,Tn⟩ := KZ.out _ T5.out
   have FIN := hQQ (FINT.out ((grabV c.us c.pg c.st k ws).1.1,b2i (grabV c.us c.pg c.st k ws).1.2,0,0) _ _ T5.out W5.out)
   have Z9 := hQQ Zn
   clear Zn Wn Tn
   go_wp2_with (refine wpList_store_row rfl 39 _ _ rfl (w.heap.size + 2) _ rfl rfl 39 #[.int .i64 0,.int .i64 0,.int .i64 0,.int .i64 0] Z9.out (by kernel_rfl) rfl (by simp [Value.oneCell']) ?_)
   refine bodyPost_ret (v:=val4 ((grabV c.us c.pg c.st k ws).1.1,b2i (grabV c.us c.pg c.st k ws).1.2,0,0)) (results_cell_row Tryz.results13 _ _ _ 39 _ (0,0) _ rfl (setRow_heap _ _ _ _ _ _ Z9.out) Tryz.underlying39 rfl (by kernel_rfl)) rfl ⟨rfl,FIN.out⟩
 have t0 : (kd == 0) = false := by simp [z0]
 by_cases z1 : kd = 1
 · have t1 : (kd == 1) = true := by simp [z1]
   rw [show gdoneV c.us c.pg c.st kd k ad ws = (((grabV c.us c.pg c.st k ws).1.1,b2i (grabV c.us c.pg c.st k ws).1.2,0,0),(grabV c.us c.pg c.st k ws).2) by unfold gdoneV; rw [if_pos (.inr z1)]]
   clear z0 z1
   go_enter Tryz.func13,Tryz.ntmps13
   go_wp2_with (refine wpList_load_rowG rfl 30 _ rfl _ rfl 30 _ _ _ L0.out Tryz.underlying30 rfl (by kernel_rfl) ?_)
   clear e1
   refine (CG.out w1 W1.out).mono ?_
   rintro e w4 ⟨rfl,hw4,ht4⟩
   have W4 := hQQ hw4
   have T4 := hQQ (T1.out.trans ht4)
   clear hw4 ht4
   go_wp2_with fail
   refine (l11_number _ w4).mono ?_
   rintro e w5 ⟨rfl,h5⟩
   have W5 := hQQ (W4.out.more h5)
   have T5 := hQQ (T4.out.trans (turned_more h5))
   clear h5
   obtain ⟨Zn,Wn,Tn⟩ := KZ.out _ T5.out
   have FIN := hQQ (FINT.out ((grabV c.us c.pg c.st k ws).1.1,b2i (grabV c.us c.pg c.st k ws).1.2,0,0) _ _ T5.out W5.out)
   have Z9 := hQQ Zn
   clear Zn Wn Tn
   go_wp2_with (refine wpList_store_row rfl 39 _ _ rfl (w.heap.size + 2) _ rfl rfl 39 #[.int .i64 0,.int .i64 0,.int .i64 0,.int .i64 0] Z9.out (by kernel_rfl) rfl (by simp [Value.oneCell']) ?_)
   refine bodyPost_ret (v:=val4 ((grabV c.us c.pg c.st k ws).1.1,b2i (grabV c.us c.pg c.st k ws).1.2,0,0)) (results_cell_row Tryz.results13 _ _ _ 39 _ (0,0) _ rfl (setRow_heap _ _ _ _ _ _ Z9.out) Tryz.underlying39 rfl (by kernel_rfl)) rfl ⟨rfl,FIN.out⟩
 have t1 : (kd == 1) = false := by simp [z1]
 have n1 : ¬ (kd = 0 ∨ kd = 1) := by rintro (q | q); exact z0 q; exact z1 q
 by_cases z2 : kd = 2
 · have t2 : (kd == 2) = true := by simp [z2]
   rw [show gdoneV c.us c.pg c.st kd k ad ws = ((b2i (backV c.us c.pg c.st ad ws).1,0,0,0),(backV c.us c.pg c.st ad ws).2) by unfold gdoneV; rw [if_neg n1,if_pos (.inl z2)]]
   clear z0 z1 z2 n1
   go_enter Tryz.func13,Tryz.ntmps13
   go_wp2_with (refine wpList_load_rowG rfl 30 _ rfl _ rfl 30 _ _ _ L0.out Tryz.underlying30 rfl (by kernel_rfl) ?_)
   clear e1
   refine (CB.out w1 W1.out).mono ?_
   rintro e w4 ⟨rfl,hw4,ht4⟩
   have W4 := hQQ hw4
   have T4 := hQQ (T1.out.trans ht4)
   clear hw4 ht4
   go_wp2_with fail
   refine (l11_number _ w4).mono ?_
   rintro e w5 ⟨rfl,h5⟩
   have W5 := hQQ (W4.out.more h5)
   have T5 := hQQ (T4.out.trans (turned_more h5))
   clear h5
   obtain ⟨Zn,Wn,Tn⟩ := KZ.out _ T5.out
   have FIN := hQQ (FINT.out (b2i (backV c.us c.pg c.st ad ws).1,0,0,0) _ _ T5.out W5.out)
   have Z9 := hQQ Zn
   clear Zn Wn Tn
   go_wp2_with (refine wpList_store_row rfl 39 _ _ rfl (w.heap.size + 2) _ rfl rfl 39 #[.int .i64 0,.int .i64 0,.int .i64 0,.int .i64 0] Z9.out (by kernel_rfl) rfl (by simp [Value.oneCell']) ?_)
   refine bodyPost_ret (v:=val4 (b2i (backV c.us c.pg c.st ad ws).1,0,0,0)) (results_cell_row Tryz.results13 _ _ _ 39 _ (0,0) _ rfl (setRow_heap _ _ _ _ _ _ Z9.out) Tryz.underlying39 rfl (by kernel_rfl)) rfl ⟨rfl,FIN.out⟩
 have t2 : (kd == 2) = false := by simp [z2]
 by_cases z3 : kd = 3
 · have t3 : (kd == 3) = true := by simp [z3]
   rw [show gdoneV c.us c.pg c.st kd k ad ws = ((b2i (backV c.us c.pg c.st ad ws).1,0,0,0),(backV c.us c.pg c.st ad ws).2) by unfold gdoneV; rw [if_neg n1,if_pos (.inr z3)]]
   clear z0 z1 z2 z3 n1
   go_enter Tryz.func13,Tryz.ntmps13
   go_wp2_with (refine wpList_load_rowG rfl 30 _ rfl _ rfl 30 _ _ _ L0.out Tryz.underlying30 rfl (by kernel_rfl) ?_)
   clear e1
   refine (CB.out w1 W1.out).mono ?_
   rintro e w4 ⟨rfl,hw4,ht4⟩
   have W4 := hQQ hw4
   have T4 := hQQ (T1.out.trans ht4)
   clear hw4 ht4
   go_wp2_with fail
   refine (l11_number _ w4).mono ?_
   rintro e w5 ⟨rfl,h5⟩
   have W5 := hQQ (W4.out.more h5)
   have T5 := hQQ (T4.out.trans (turned_more h5))
   clear h5
   obtain ⟨Zn,Wn,Tn⟩ := KZ.out _ T5.out
   have FIN := hQQ (FINT.out (b2i (backV c.us c.pg c.st ad ws).1,0,0,0) _ _ T5.out W5.out)
   have Z9 := hQQ Zn
   clear Zn Wn Tn
   go_wp2_with (refine wpList_store_row rfl 39 _ _ rfl (w.heap.size + 2) _ rfl rfl 39 #[.int .i64 0,.int .i64 0,.int .i64 0,.int .i64 0] Z9.out (by kernel_rfl) rfl (by simp [Value.oneCell']) ?_)
   refine bodyPost_ret (v:=val4 (b2i (backV c.us c.pg c.st ad ws).1,0,0,0)) (results_cell_row Tryz.results13 _ _ _ 39 _ (0,0) _ rfl (setRow_heap _ _ _ _ _ _ Z9.out) Tryz.underlying39 rfl (by kernel_rfl)) rfl ⟨rfl,FIN.out⟩
 have t3 : (kd == 3) = false := by simp [z3]
 have n2 : ¬ (kd = 2 ∨ kd = 3) := by rintro (q | q); exact z2 q; exact z3 q
 rw [show gdoneV c.us c.pg c.st kd k ad ws = (((lookV c.us c.pg c.st ad ws).1,b2i (lookV c.us c.pg c.st ad ws).2,b2i (roomV c.pg c.st k ws),freeV c.pg c.st k ws),ws) by unfold gdoneV; rw [if_neg n1,if_neg n2]]
 clear z0 z1 z2 z3 n1 n2
 go_enter Tryz.func13,Tryz.ntmps13
 go_wp2_with (refine wpList_load_rowG rfl 30 _ rfl _ rfl 30 _ _ _ L0.out Tryz.underlying30 rfl (by kernel_rfl) ?_)
 clear e1
 refine (CT.out w1 W1.out).mono ?_
 rintro e w2 ⟨rfl,h2⟩
 have W2 := hQQ (W1.out.more h2)
 have T2 := hQQ (T1.out.trans (turned_more h2))
 clear h2
 have L2 := hQQ (KZ.out _ T2.out).2.1
 have Y2 := hQQ (cell_more (j:=1) (KZ.out _ T2.out).2.2 (More.refl _) rfl)
 go_wp2_with fail
 refine wp_region_more_tail 15 (by kernel_rfl) (by kernel_rfl) ?_
 simp only [List.take_succ_cons,List.take_zero,List.drop_succ_cons,List.drop_zero]
 iterate 2
   with_reducible refine wpQuiet_step (fun K hK => ?_)
   go_simp
   first
   | (refine hK _ ?_; clear hK K)
   | (apply Exists.intro
      refine ⟨fun W hW => ?_,hK _ ?_⟩
      first
      | (go_simp; try rfl)
      clear hK K)
 iterate 1
   with_reducible refine wpQuiet_step (fun K hK => ?_)
   go_simp
   first
   | (refine hK _ ?_; clear hK K)
   | (apply Exists.intro
      refine ⟨fun W hW => ?_,hK _ ?_⟩
      first
      | (go_at_call 42; exact Calls.more hW (l11_number _ W))
      | (go_simp; try rfl)
      clear hK K)
 refine wpQuiet_load_row rfl 30 _ rfl _ rfl 30 _ _ _ (fun W hW => hW.block L2.out) Tryz.underlying30 rfl (by kernel_rfl) ?_
 iterate 3
   with_reducible refine wpQuiet_step (fun K hK => ?_)
   go_simp
   first
   | (refine hK _ ?_; clear hK K)
   | (apply Exists.intro
      refine ⟨fun W hW => ?_,hK _ ?_⟩
      first
      | (have c1' := hW.cell Y2.out; go_simp; try rfl)
      clear hK K)
 iterate 1
   with_reducible refine wpQuiet_step (fun K hK => ?_)
   go_simp
   first
   | (refine hK _ ?_; clear hK K)
   | (apply Exists.intro
      refine ⟨fun W hW => ?_,hK _ ?_⟩
      first
      | (go_at_call 47; exact Calls.more hW (CR.out W (W2.out.more hW)))
      | (go_simp; try rfl)
      clear hK K)
 iterate 1
   with_reducible refine wpQuiet_step (fun K hK => ?_)
   go_simp
   first
   | (refine hK _ ?_; clear hK K)
   | (apply Exists.intro
      refine ⟨fun W hW => ?_,hK _ ?_⟩
      first
      | (go_at_call 42; exact Calls.more hW (l11_number _ W))
      | (go_simp; try rfl)
      clear hK K)
 refine wpQuiet_load_row rfl 30 _ rfl _ rfl 30 _ _ _ (fun W hW => hW.block L2.out) Tryz.underlying30 rfl (by kernel_rfl) ?_
 iterate 3
   with_reducible refine wpQuiet_step (fun K hK => ?_)
   go_simp
   first
   | (refine hK _ ?_; clear hK K)
   | (apply Exists.intro
      refine ⟨fun W hW => ?_,hK _ ?_⟩
      first
      | (have c1' := hW.cell Y2.out; go_simp; try rfl)
      clear hK K)
 iterate 1
   with_reducible refine wpQuiet_step (fun K hK => ?_)
   go_simp
   first
   | (refine hK _ ?_; clear hK K)
   | (apply Exists.intro
      refine ⟨fun W hW => ?_,hK _ ?_⟩
      first
      | (go_at_call 48; exact Calls.more hW (CF.out W (W2.out.more hW)))
      | (go_simp; try rfl)
      clear hK K)
 iterate 1
   with_reducible refine wpQuiet_step (fun K hK => ?_)
   go_simp
   first
   | (refine hK _ ?_; clear hK K)
   | (apply Exists.intro
      refine ⟨fun W hW => ?_,hK _ ?_⟩
      first
      | (go_simp; try rfl)
      clear hK K)
 refine wpQuiet_nil ?_
 intro w4 m4
 have W4 := hQQ (W2.out.more m4)
 have T4 : Hid (Turned (fun b => b = g) w1 w4) := hQQ (T2.out.trans (turned_more m4))
 clear m4
 obtain ⟨Zn,Wn,Tn⟩ := KZ.out _ T4.out
 have FIN := hQQ (FINT.out ((lookV c.us c.pg c.st ad ws).1,b2i (lookV c.us c.pg c.st ad ws).2,b2i (roomV c.pg c.st k ws),freeV c.pg c.st k ws) _ _ T4.out W4.out)
 have Z9 := hQQ Zn
 clear Zn Wn Tn
 go_wp2_with (refine wpList_store_row rfl 39 _ _ rfl (w.heap.size + 2) _ rfl rfl 39 #[.int .i64 0,.int .i64 0,.int .i64 0,.int .i64 0] Z9.out (by kernel_rfl) rfl (by simp [Value.oneCell']) ?_)
 refine bodyPost_ret (v:=val4 ((lookV c.us c.pg c.st ad ws).1,b2i (lookV c.us c.pg c.st ad ws).2,b2i (roomV c.pg c.st k ws),freeV c.pg c.st k ws)) (results_cell_row Tryz.results13 _ _ _ 39 _ (0,0) _ rfl (setRow_heap _ _ _ _ _ _ Z9.out) Tryz.underlying39 rfl (by kernel_rfl)) rfl ⟨rfl,FIN.out⟩
end Go.Proofs.YtflihdcliknggaaGreatDoor
