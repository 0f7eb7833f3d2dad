/-
  Layer 11's statement of which page a block comes of.
-/
import Derived.Test.YtmafllcmkhgidaaGreatDoorPfAq
import Derived.Test.YtmafllcmkhgidaaGreatDoorPfAa
import Derived.ProofKit
import Derived.Deep.Fields
set_option maxRecDepth 100000
set_option maxHeartbeats 8000000
set_option linter.unusedVariables false
set_option linter.unusedSimpArgs false
set_option linter.unusedSectionVars false
namespace Go.Proofs.YtmafllcmkhgidaaGreatDoor
open Go.RowKit Go.Sort Go.Maps Go.Shelf
theorem key32 {k : Int} {j : Nat} (hk : 0 ≤ k ∧ k ≤ 4) (hj : (j : Int) < slotsC k) : 0 < szV k ∧ 0 ≤ (j : Int) * szV k ∧ (j : Int) * szV k < 32 := by
 obtain ⟨z,rfl⟩ : ∃ z : Nat,k = (z : Int) := ⟨k.toNat,by omega⟩
 have hz4 : z = 0 ∨ z = 1 ∨ z = 2 ∨ z = 3 ∨ z = 4 := by omega
 rcases hz4 with rfl | rfl | rfl | rfl | rfl
 · have hj : (j : Int) < 32 := hj
   rw [show szV ((0 : Nat) : Int) = 1 from rfl]; omega
 · have hj : (j : Int) < 16 := hj
   rw [show szV ((1 : Nat) : Int) = 2 from rfl]; omega
 · have hj : (j : Int) < 8 := hj
   rw [show szV ((2 : Nat) : Int) = 4 from rfl]; omega
 · have hj : (j : Int) < 4 := hj
   rw [show szV ((3 : Nat) : Int) = 8 from rfl]; omega
 · have hj : (j : Int) < 2 := hj
   rw [show szV ((4 : Nat) : Int) = 16 from rfl]; omega
theorem pf_walk (y0 y1 y2 y3 y4 y5 y6 y7 y8 y9 y10 : Int) (a : Option Addr) (capl : Nat) (l : List Ins3) (q : Int) (w : World) (hS : Sizes w) (f0 : (Lit.int .i64 y0).wf = true) (f1 : (Lit.int .i64 y1).wf = true) (f2 : (Lit.int .i64 y2).wf = true) (f3 : (Lit.int .i64 y3).wf = true) (f4 : (Lit.int .i64 y4).wf = true) (f5 : (Lit.int .i64 y5).wf = true) (f6 : (Lit.int .i64 y6).wf = true) (f7 : (Lit.int .i64 y7).wf = true) (f8 : (Lit.int .i64 y8).wf = true) (f9 : (Lit.int .i64 y9).wf = true) (f10 : (Lit.int .i64 y10).wf = true) (hl : IsIns w a l) (ho : OkP l) (hm : l.length ≤ 9223372036854775807) (hq : (Lit.int .i64 q).wf = true) :
   Calls Tryz.prog 3 #[.agg #[.int .i64 y0,.int .i64 y1,.int .i64 y2,.int .i64 y3,.int .i64 y4,.int .i64 y5,.int .i64 y6,.int .i64 y7,.int .i64 y8,.int .i64 y9,.int .i64 y10],.slice a l.length capl,.int .i64 q] w (Gives w (.bool true)) := by
 obtain ⟨w2,e2,ha2,hb2,m2,hs2⟩ := entry2 w (.cells #[.int .i64 y0,.int .i64 y1,.int .i64 y2,.int .i64 y3,.int .i64 y4,.int .i64 y5,.int .i64 y6,.int .i64 y7,.int .i64 y8,.int .i64 y9,.int .i64 y10] 23) (.cells #[.int .i64 q] 3)
 obtain ⟨bt,hsz⟩ := hS
 have HSZ : Hid (SzAt bt w) := hQQ hsz
 have sz0 := HSZ.out.lt0
 have szb := HSZ.out.lt
 have HM := hQQ m2
 have HA := hQQ ha2
 have HB := hQQ hb2
 clear ha2 hb2 hsz hq
 by_cases hbig : 60 < l.length
 · have d0 : decide ((60 : Int) < (l.length : Int)) = true := by simp; omega
   clear m2 hs2 HA HB f0 f1 f2 f3 f4 f5 f6 f7 f8 f9 f10
   go_enter Tryz.func3,Tryz.ntmps3
   go_wp2_with fail
   refine (lives11_ok bt _ (HSZ.out.more HM.out)).mono ?_
   rintro e w8 ⟨rfl,h8⟩
   have HM8 := hQQ (HM.out.trans h8)
   clear h8
   go_wp2_with fail
   go_ret
   exact ⟨rfl,HM8.out⟩
 · have d0 : decide ((60 : Int) < (l.length : Int)) = false := by simp; omega
   obtain ⟨d,n,G,zs,bs,S,hn,hlz,hz,P,AF⟩ := ag_ok y0 y1 y2 y3 y4 y5 y6 y7 y8 y9 y10 f0 f1 f2 f3 f4 f5 f6 f7 f8 f9 f10 l (by omega)
   have wds := S.words
   have H := pg_hdin S hn
   have hpos : 0 < d.us := by
     have h2 := userB S.ok
     show 0 < userV _ _ _ _ _
     omega
   have SS := hQQ S
   have PP := hQQ P
   have HZ := hQQ hz
   have HH := hQQ H
   have AO := hQQ (AF.out a capl w2 ⟨bt,HSZ.out.more m2⟩ (hl.more m2))
   have pg1 := H.pg1
   have pg2 := H.pg2
   have hnb : 160 ≤ n ∧ n ≤ 800 := by omega
   clear m2 f0 f1 f2 f3 f4 f5 f6 f7 f8 f9 f10 hl ho hm AF S P hz H hn wds
   go_enter Tryz.func3,Tryz.ntmps3
   go_wp2_with (refine wpList_load_row rfl 23 _ rfl w.heap.size rfl 23 _ _ _ HA.out Tryz.underlying23 rfl (by kernel_rfl) ?_)
   clear e2
   refine AO.out.mono ?_
   rintro e w5 ⟨gz,cz,vb,rfl,hwz,hrb,hgz,m5⟩
   obtain ⟨ab,cb,rfl,_⟩ := hrb.reads
   obtain ⟨w6,e6,hl6,m6,s6⟩ := entry1 w5 (.cells zero24 28)
   have hL7 := setRow_heap _ _ _ d.arr _ _ hl6
   have m7 : More w5 (w6.setRow w5.heap.size d.arr) := m6.setRow _ _ (Nat.le_refl _)
   obtain ⟨w7,e7⟩ : ∃ w7,w6.setRow w5.heap.size d.arr = w7 := ⟨_,rfl⟩
   rw [e7] at hL7 m7
   have s7 : w7.heap.size = w5.heap.size + 1 := by rw [← e7]; simpa using s6
   have hL6 := hQQ hl6
   have WZ := hQQ (hwz.more m7)
   have LC := hQQ hL7
   have QB := hQQ ((m5.trans m7).block HB.out)
   have M7 : Hid (More w w7) := hQQ ((HM.out.trans m5).trans m7)
   have HLZ := hQQ hlz
   have FZ := hQQ (FlI.zero d.pg d.st q zs)
   clear hwz hrb m5 hl6 hL7 m7 AO HA HB s6 hlz
   go_wp2_with (refine wpList_store_row rfl 28 _ _ rfl w5.heap.size d.arr rfl rfl 28 zero24 hL6.out (by kernel_rfl) rfl (arr_one d) ?_)
   clear e7 e6 m6 hs2
   have hgz5 := WZ.out.lt
   go_loopw [11,12,13] (fun v11 v12 v13 wr => ∃ (j : Nat) (le : Int) (ob : Bool),v11 = .int .i64 le ∧ v12 = .bool ob ∧ v13 = .int .i64 (j : Int) ∧ (j : Int) ≤ d.pg ∧ FlI d.pg d.st q zs j (le,ob) ∧ More w7 wr) (fun _ _ i _ => (d.pg - intOf i).toNat)
   case atStart => exact ⟨0,0,false,rfl,rfl,rfl,by omega,FZ.out,More.refl _⟩
   case round =>
     obtain ⟨j,le,ob,rfl,rfl,rfl,hj,hI,hM⟩ := hrel
     have MR := hQQ hM
     have LR := hQQ (hM.block LC.out)
     have HI := hQQ hI
     clear hM hI FZ
     go_wp2_with (refine wpList_load_row rfl 28 _ rfl w5.heap.size rfl 28 _ _ _ LR.out Tryz.underlying28 rfl (by kernel_rfl) ?_)
     refine (y_config SS.out.ok _).mono ?_
     rintro e w11 ⟨rfl,m11⟩
     have M11 := hQQ (MR.out.trans m11)
     clear m11 MR LR
     have hfl := field_pages d
     by_cases hlt : (j : Int) < d.pg
     · have d1 : decide ((j : Int) < d.pg) = true := by simpa using hlt
       have hpj : isPage d.pg (j : Int) = true := isPage_iff.2 ⟨by omega,hlt⟩
       have PB := page_b HH.out.toPgIn hpj
       have PC := page_c HH.out hpj
       have b0 := PB.1
       obtain ⟨_,b3,b4,_⟩ := PC
       have WZ11 := WZ.out.more M11.out
       have z1 := pt_rd WZ11 (i:=kA d.pg d.st j) (by omega) (by rw [HLZ.out]; omega)
       have z3 := pt_rd WZ11 (i:=bA d.pg d.st j) b3 (by rw [HLZ.out]; exact b4)
       have YK := hQQ (fun W => by have := y_kind SS.out.ok W (j : Int); rw [page0 hpj] at this; exact this)
       have YB := hQQ (fun W => by have := g_bitsA SS.out.ok W (j : Int); rw [page2 hpj] at this; exact this)
       have ek : kindV d.pg d.st zs j = wAt zs (kA d.pg d.st j) := by unfold kindV; rw [if_pos hpj]
       have eb : bitV d.pg d.st zs j = wAt zs (bA d.pg d.st j) := rfl
       have ST := HI.out.step (by omega)
       unfold flStep at ST
       rw [ek,eb] at ST
       have hbw : W64 (wAt zs (bA d.pg d.st j)) := okW_at' HZ.out _
       obtain ⟨ka,hka⟩ : ∃ ka : Nat,kA d.pg d.st j = (ka : Int) := ⟨(kA d.pg d.st j).toNat,by omega⟩
       obtain ⟨ba,hba⟩ : ∃ ba : Nat,bA d.pg d.st j = (ba : Int) := ⟨(bA d.pg d.st j).toNat,by omega⟩
       have l1 : ka < n := by omega
       have l3 : ba < n := by omega
       rw [hka] at z1 YK ST
       rw [hba] at z3 YB ST hbw
       simp only [Int.toNat_natCast] at z1 z3
       generalize wAt zs (ka : Int) = va at z1 ST
       generalize wAt zs (ba : Int) = vd at z3 ST hbw
       have dl1 : decide ((ka : Int) < (n : Int)) = true := by simp; omega
       have dl3 : decide ((ba : Int) < (n : Int)) = true := by simp; omega
       have LL := hQQ (M11.out.block LC.out)
       have ST := hQQ ST
       have HBW := hQQ hbw
       clear ek eb PB b0 b3 b4 WZ11 hka hba hpj HI hbw
       have c5 := (box_cells (M11.out.block QB.out)).1
       have SZ11 := hQQ (HSZ.out.more (M7.out.trans M11.out))
       go_wp2_with (refine wpList_load_rowG rfl 28 _ rfl _ rfl 28 _ _ _ LL.out Tryz.underlying28 rfl (by kernel_rfl) ?_)
       refine (YK.out _).mono ?_
       rintro e w12 ⟨rfl,m12⟩
       have M12 := hQQ (M11.out.trans m12)
       have z1 := m12.cell z1
       have z3 := m12.cell z3
       have c5 := m12.cell c5
       have SZ12 := hQQ (SZ11.out.more m12)
       have LL := hQQ (m12.block LL.out)
       clear m12
       cases ob with
       | true =>
         go_wp2_with fail
         refine (g_size q _ SZ12.out).mono ?_
         rintro e w13 ⟨rfl,m13⟩
         have M13 := hQQ (M12.out.trans m13)
         have z3 := m13.cell z3
         have c5 := m13.cell c5
         have SZ13 := hQQ (SZ12.out.more m13)
         have LL := hQQ (m13.block LL.out)
         clear m13
         by_cases hq0 : 0 < szV q
         · have e1 : decide (0 < szV q) = true := by simpa using hq0
           have hqc := slots_cls (sz_pos.1 hq0)
           have q1 : IntKind.i64.wrap (q + 1) = q + 1 := wrap_in (by omega) (by omega)
           by_cases hk : va = q + 1
           · have e2 : (va == q + 1) = true := by simpa using hk
             have HKK := hQQ hk
             clear hk
             have CB := cnt_b vd q
             have SIN := slots_in q
             have SL := hQQ (fun W (hW : More w13 W) => g_slots q W (SZ13.out.more hW))
             have CN := hQQ (fun W => o_count vd (slotsC q) (by omega) (by omega) W)
             have qs : IntKind.i64.wrap (slotsC q - slCountV vd (slotsC q)) = openV q vd := wrap_in (x:=slotsC q - slCountV vd (slotsC q)) (by omega) (by omega)
             clear CB SIN hqc
             go_wp2_with fail
             refine wp_region_more (by kernel_rfl) (by kernel_rfl) ?_
             iterate 1
               with_reducible refine wpQuiet_step (fun K hK => ?_)
               go_simp
               first
               | (refine hK _ ?_; clear hK K)
               | (apply Exists.intro
                  refine ⟨fun W hW => ?_,hK _ ?_⟩
                  first
                  | (have c5' := hW.cell c5; go_simp; try rfl)
                  clear hK K)
             iterate 1
               with_reducible refine wpQuiet_step (fun K hK => ?_)
               go_simp
               first
               | (refine hK _ ?_; clear hK K)
               | (apply Exists.intro
                  refine ⟨fun W hW => ?_,hK _ ?_⟩
                  first
                  | (go_at_call 9; exact Calls.more hW (SL.out W hW))
                  | (go_simp; try rfl)
                  clear hK K)
             iterate 1
               with_reducible refine wpQuiet_step (fun K hK => ?_)
               go_simp
               first
               | (refine hK _ ?_; clear hK K)
               | (apply Exists.intro
                  refine ⟨fun W hW => ?_,hK _ ?_⟩
                  first
                  | (go_simp; try rfl)
                  clear hK K)
             refine wpQuiet_load_row rfl 28 _ rfl _ rfl 28 _ _ _ (fun W hW => hW.block LL.out) Tryz.underlying28 rfl (by kernel_rfl) ?_
             iterate 1
               with_reducible refine wpQuiet_step (fun K hK => ?_)
               go_simp
               first
               | (refine hK _ ?_; clear hK K)
               | (apply Exists.intro
                  refine ⟨fun W hW => ?_,hK _ ?_⟩
                  first
                  | (go_simp; try rfl)
                  clear hK K)
             iterate 1
               with_reducible refine wpQuiet_step (fun K hK => ?_)
               go_simp
               first
               | (refine hK _ ?_; clear hK K)
               | (apply Exists.intro
                  refine ⟨fun W hW => ?_,hK _ ?_⟩
                  first
                  | (go_at_call 11; exact Calls.more hW (YB.out W))
                  | (go_simp; try rfl)
                  clear hK K)
             iterate 2
               with_reducible refine wpQuiet_step (fun K hK => ?_)
               go_simp
               first
               | (refine hK _ ?_; clear hK K)
               | (apply Exists.intro
                  refine ⟨fun W hW => ?_,hK _ ?_⟩
                  first
                  | (have z3' := hW.cell z3; go_simp; try rfl)
                  clear hK K)
             iterate 1
               with_reducible refine wpQuiet_step (fun K hK => ?_)
               go_simp
               first
               | (refine hK _ ?_; clear hK K)
               | (apply Exists.intro
                  refine ⟨fun W hW => ?_,hK _ ?_⟩
                  first
                  | (have c5' := hW.cell c5; go_simp; try rfl)
                  clear hK K)
             iterate 1
               with_reducible refine wpQuiet_step (fun K hK => ?_)
               go_simp
               first
               | (refine hK _ ?_; clear hK K)
               | (apply Exists.intro
                  refine ⟨fun W hW => ?_,hK _ ?_⟩
                  first
                  | (go_at_call 9; exact Calls.more hW (SL.out W hW))
                  | (go_simp; try rfl)
                  clear hK K)
             iterate 1
               with_reducible refine wpQuiet_step (fun K hK => ?_)
               go_simp
               first
               | (refine hK _ ?_; clear hK K)
               | (apply Exists.intro
                  refine ⟨fun W hW => ?_,hK _ ?_⟩
                  first
                  | (go_at_call 10; exact Calls.more hW (CN.out W))
                  | (go_simp; try rfl)
                  clear hK K)
             iterate 2
               with_reducible refine wpQuiet_step (fun K hK => ?_)
               go_simp
               first
               | (refine hK _ ?_; clear hK K)
               | (apply Exists.intro
                  refine ⟨fun W hW => ?_,hK _ ?_⟩
                  first
                  | (go_simp; try rfl)
                  clear hK K)
             refine wpQuiet_nil ?_
             intro w14 m14
             have M14 := hQQ (M13.out.trans m14)
             clear m14 qs q1
             have ST := hQQ ST.out
             generalize openV q vd = nn at ST ⊢
             by_cases hn0 : 0 < nn
             · have f1 : decide (0 < nn) = true := by simpa using hn0
               by_cases hl0 : le = 0
               · have f2 : (le == 0) = true := by simpa using hl0
                 go_wp2_with fail
                 refine ⟨⟨j + 1,nn,true,rfl,rfl,by go_num,by omega,?_,M14.out⟩,?_⟩
                 · have h := ST.out
                   rw [if_pos ⟨hq0,HKK.out,hn0,.inl hl0⟩] at h
                   rw [show (((j + 1 : Nat)) : Int) = (j : Int) + 1 by omega]
                   simpa using h
                 · simp [intOf]; omega
               · have f2 : (le == 0) = false := by simpa using hl0
                 by_cases hnl : nn < le
                 · have f3 : decide (nn < le) = true := by simpa using hnl
                   go_wp2_with fail
                   refine ⟨⟨j + 1,nn,true,rfl,rfl,by go_num,by omega,?_,M14.out⟩,?_⟩
                   · have h := ST.out
                     rw [if_pos ⟨hq0,HKK.out,hn0,.inr hnl⟩] at h
                     rw [show (((j + 1 : Nat)) : Int) = (j : Int) + 1 by omega]
                     simpa using h
                   · simp [intOf]; omega
                 · have f3 : decide (nn < le) = false := by simp; omega
                   go_wp2_with fail
                   refine ⟨⟨j + 1,le,true,rfl,rfl,by go_num,by omega,?_,M14.out⟩,?_⟩
                   · have h := ST.out
                     rw [if_neg (by rintro ⟨_,_,_,z | z⟩; exact hl0 z; omega)] at h
                     rw [show (((j + 1 : Nat)) : Int) = (j : Int) + 1 by omega]
                     simpa using h
                   · simp [intOf]; omega
             · have f1 : decide (0 < nn) = false := by simp; omega
               go_wp2_with fail
               refine ⟨⟨j + 1,le,true,rfl,rfl,by go_num,by omega,?_,M14.out⟩,?_⟩
               · have h := ST.out
                 rw [if_neg (by rintro ⟨_,_,z,_⟩; omega)] at h
                 rw [show (((j + 1 : Nat)) : Int) = (j : Int) + 1 by omega]
                 simpa using h
               · simp [intOf]; omega
           · have e2 : (va == q + 1) = false := by simpa using hk
             go_wp2_with fail
             refine ⟨⟨j + 1,le,true,rfl,rfl,by go_num,by omega,?_,M13.out⟩,?_⟩
             · have h := ST.out
               rw [if_neg (by rintro ⟨_,z,_⟩; exact hk z)] at h
               rw [show (((j + 1 : Nat)) : Int) = (j : Int) + 1 by omega]
               simpa using h
             · simp [intOf]; omega
         · have e1 : decide (0 < szV q) = false := by simpa using hq0
           go_wp2_with fail
           refine ⟨⟨j + 1,le,true,rfl,rfl,by go_num,by omega,?_,M13.out⟩,?_⟩
           · have h := ST.out
             rw [if_neg (by rintro ⟨z,_⟩; omega)] at h
             rw [show (((j + 1 : Nat)) : Int) = (j : Int) + 1 by omega]
             simpa using h
           · simp [intOf]; omega
       | false =>
         go_wp2_with fail
         refine (g_size q _ SZ12.out).mono ?_
         rintro e w13 ⟨rfl,m13⟩
         have M13 := hQQ (M12.out.trans m13)
         have z3 := m13.cell z3
         have c5 := m13.cell c5
         have SZ13 := hQQ (SZ12.out.more m13)
         have LL := hQQ (m13.block LL.out)
         clear m13
         by_cases hq0 : 0 < szV q
         · have e1 : decide (0 < szV q) = true := by simpa using hq0
           have hqc := slots_cls (sz_pos.1 hq0)
           have q1 : IntKind.i64.wrap (q + 1) = q + 1 := wrap_in (by omega) (by omega)
           by_cases hk : va = q + 1
           · have e2 : (va == q + 1) = true := by simpa using hk
             have HKK := hQQ hk
             clear hk
             have CB := cnt_b vd q
             have SIN := slots_in q
             have SL := hQQ (fun W (hW : More w13 W) => g_slots q W (SZ13.out.more hW))
             have CN := hQQ (fun W => o_count vd (slotsC q) (by omega) (by omega) W)
             have qs : IntKind.i64.wrap (slotsC q - slCountV vd (slotsC q)) = openV q vd := wrap_in (x:=slotsC q - slCountV vd (slotsC q)) (by omega) (by omega)
             clear CB SIN hqc
             go_wp2_with fail
             refine wp_region_more (by kernel_rfl) (by kernel_rfl) ?_
             iterate 1
               with_reducible refine wpQuiet_step (fun K hK => ?_)
               go_simp
               first
               | (refine hK _ ?_; clear hK K)
               | (apply Exists.intro
                  refine ⟨fun W hW => ?_,hK _ ?_⟩
                  first
                  | (have c5' := hW.cell c5; go_simp; try rfl)
                  clear hK K)
             iterate 1
               with_reducible refine wpQuiet_step (fun K hK => ?_)
               go_simp
               first
               | (refine hK _ ?_; clear hK K)
               | (apply Exists.intro
                  refine ⟨fun W hW => ?_,hK _ ?_⟩
                  first
                  | (go_at_call 9; exact Calls.more hW (SL.out W hW))
                  | (go_simp; try rfl)
                  clear hK K)
             iterate 1
               with_reducible refine wpQuiet_step (fun K hK => ?_)
               go_simp
               first
               | (refine hK _ ?_; clear hK K)
               | (apply Exists.intro
                  refine ⟨fun W hW => ?_,hK _ ?_⟩
                  first
                  | (go_simp; try rfl)
                  clear hK K)
             refine wpQuiet_load_row rfl 28 _ rfl _ rfl 28 _ _ _ (fun W hW => hW.block LL.out) Tryz.underlying28 rfl (by kernel_rfl) ?_
             iterate 1
               with_reducible refine wpQuiet_step (fun K hK => ?_)
               go_simp
               first
               | (refine hK _ ?_; clear hK K)
               | (apply Exists.intro
                  refine ⟨fun W hW => ?_,hK _ ?_⟩
                  first
                  | (go_simp; try rfl)
                  clear hK K)
             iterate 1
               with_reducible refine wpQuiet_step (fun K hK => ?_)
               go_simp
               first
               | (refine hK _ ?_; clear hK K)
               | (apply Exists.intro
                  refine ⟨fun W hW => ?_,hK _ ?_⟩
                  first
                  | (go_at_call 11; exact Calls.more hW (YB.out W))
                  | (go_simp; try rfl)
                  clear hK K)
             iterate 2
               with_reducible refine wpQuiet_step (fun K hK => ?_)
               go_simp
               first
               | (refine hK _ ?_; clear hK K)
               | (apply Exists.intro
                  refine ⟨fun W hW => ?_,hK _ ?_⟩
                  first
                  | (have z3' := hW.cell z3; go_simp; try rfl)
                  clear hK K)
             iterate 1
               with_reducible refine wpQuiet_step (fun K hK => ?_)
               go_simp
               first
               | (refine hK _ ?_; clear hK K)
               | (apply Exists.intro
                  refine ⟨fun W hW => ?_,hK _ ?_⟩
                  first
                  | (have c5' := hW.cell c5; go_simp; try rfl)
                  clear hK K)
             iterate 1
               with_reducible refine wpQuiet_step (fun K hK => ?_)
               go_simp
               first
               | (refine hK _ ?_; clear hK K)
               | (apply Exists.intro
                  refine ⟨fun W hW => ?_,hK _ ?_⟩
                  first
                  | (go_at_call 9; exact Calls.more hW (SL.out W hW))
                  | (go_simp; try rfl)
                  clear hK K)
             iterate 1
               with_reducible refine wpQuiet_step (fun K hK => ?_)
               go_simp
               first
               | (refine hK _ ?_; clear hK K)
               | (apply Exists.intro
                  refine ⟨fun W hW => ?_,hK _ ?_⟩
                  first
                  | (go_at_call 10; exact Calls.more hW (CN.out W))
                  | (go_simp; try rfl)
                  clear hK K)
             iterate 2
               with_reducible refine wpQuiet_step (fun K hK => ?_)
               go_simp
               first
               | (refine hK _ ?_; clear hK K)
               | (apply Exists.intro
                  refine ⟨fun W hW => ?_,hK _ ?_⟩
                  first
                  | (go_simp; try rfl)
                  clear hK K)
             refine wpQuiet_nil ?_
             intro w14 m14
             have M14 := hQQ (M13.out.trans m14)
             clear m14 qs q1
             have ST := hQQ ST.out
             generalize openV q vd = nn at ST ⊢
             by_cases hn0 : 0 < nn
             · have f1 : decide (0 < nn) = true := by simpa using hn0
               by_cases hl0 : le = 0
               · have f2 : (le == 0) = true := by simpa using hl0
                 go_wp2_with fail
                 refine ⟨⟨j + 1,nn,(va == 0),rfl,rfl,by go_num,by omega,?_,M14.out⟩,?_⟩
                 · have h := ST.out
                   rw [if_pos ⟨hq0,HKK.out,hn0,.inl hl0⟩] at h
                   rw [show (((j + 1 : Nat)) : Int) = (j : Int) + 1 by omega]
                   simpa using h
                 · simp [intOf]; omega
               · have f2 : (le == 0) = false := by simpa using hl0
                 by_cases hnl : nn < le
                 · have f3 : decide (nn < le) = true := by simpa using hnl
                   go_wp2_with fail
                   refine ⟨⟨j + 1,nn,(va == 0),rfl,rfl,by go_num,by omega,?_,M14.out⟩,?_⟩
                   · have h := ST.out
                     rw [if_pos ⟨hq0,HKK.out,hn0,.inr hnl⟩] at h
                     rw [show (((j + 1 : Nat)) : Int) = (j : Int) + 1 by omega]
                     simpa using h
                   · simp [intOf]; omega
                 · have f3 : decide (nn < le) = false := by simp; omega
                   go_wp2_with fail
                   refine ⟨⟨j + 1,le,(va == 0),rfl,rfl,by go_num,by omega,?_,M14.out⟩,?_⟩
                   · have h := ST.out
                     rw [if_neg (by rintro ⟨_,_,_,z | z⟩; exact hl0 z; omega)] at h
                     rw [show (((j + 1 : Nat)) : Int) = (j : Int) + 1 by omega]
                     simpa using h
                   · simp [intOf]; omega
             · have f1 : decide (0 < nn) = false := by simp; omega
               go_wp2_with fail
               refine ⟨⟨j + 1,le,(va == 0),rfl,rfl,by go_num,by omega,?_,M14.out⟩,?_⟩
               · have h := ST.out
                 rw [if_neg (by rintro ⟨_,_,z,_⟩; omega)] at h
                 rw [show (((j + 1 : Nat)) : Int) = (j : Int) + 1 by omega]
                 simpa using h
               · simp [intOf]; omega
           · have e2 : (va == q + 1) = false := by simpa using hk
             go_wp2_with fail
             refine ⟨⟨j + 1,le,(va == 0),rfl,rfl,by go_num,by omega,?_,M13.out⟩,?_⟩
             · have h := ST.out
               rw [if_neg (by rintro ⟨_,z,_⟩; exact hk z)] at h
               rw [show (((j + 1 : Nat)) : Int) = (j : Int) + 1 by omega]
               simpa using h
             · simp [intOf]; omega
         · have e1 : decide (0 < szV q) = false := by simpa using hq0
           go_wp2_with fail
           refine ⟨⟨j + 1,le,(va == 0),rfl,rfl,by go_num,by omega,?_,M13.out⟩,?_⟩
           · have h := ST.out
             rw [if_neg (by rintro ⟨z,_⟩; omega)] at h
             rw [show (((j + 1 : Nat)) : Int) = (j : Int) + 1 by omega]
             simpa using h
           · simp [intOf]; omega
     · have d1 : decide ((j : Int) < d.pg) = false := by simpa using hlt
       have hjp : (j : Int) = d.pg := by omega
       have I := HI.out
       rw [hjp] at I
       have FU := hQQ (full_ok HH.out d.us q PP.out HLZ.out I)
       have IL := hQQ I.least
       clear I HI
       have LC11 := hQQ (M11.out.block LC.out)
       have QB11 := hQQ (M11.out.block QB.out)
       have WZ11 := hQQ (WZ.out.more M11.out)
       have M711 := hQQ (M7.out.trans M11.out)
       obtain ⟨w12,e12,b1,b2,b3,m12,s12⟩ := entry3 w11 (.cells #[.int .i64 0] 3) (.cells #[.bool false] 4) (.cells #[.bool false] 4)
       have n1 : w12.setCell ⟨w11.heap.size,0,none⟩ (.int .i64 0) = w12 := pg_noop b1
       have n2 : w12.setCell ⟨w11.heap.size + 1,0,none⟩ (.bool false) = w12 := pg_noop b2
       have n3 : w12.setCell ⟨w11.heap.size + 2,0,none⟩ (.bool false) = w12 := pg_noop b3
       obtain ⟨c1,f1,k1⟩ := box_cells b1
       obtain ⟨c2,f2,k2⟩ := box_cells b2
       obtain ⟨c3,f3,k3⟩ := box_cells b3
       have LC12 := hQQ (m12.block LC11.out)
       have QB12 := hQQ (m12.block QB11.out)
       have WZ12 := hQQ (WZ11.out.more m12)
       have M12 := hQQ (M711.out.trans m12)
       have ll := lt_of_heap LC11.out
       have lq := lt_of_heap QB11.out
       have lz := WZ11.out.lt
       have hsz := M711.out.size
       have HDZ : HdIn d.pg d.st zs.length := by rw [HLZ.out]; exact HH.out
       have DO := fu_do SS.out.ok zs HDZ (by rw [HLZ.out]; omega) HZ.out q w12 w5.heap.size (w.heap.size + 1) (w11.heap.size + 2) w11.heap.size (w11.heap.size + 1) bt (some ⟨gz,0,none⟩) cz ⟨⟨LC12.out,QB12.out,HSZ.out.more M12.out⟩,⟨_,b3⟩,⟨_,b1⟩,⟨_,b2⟩⟩ (by rintro b (rfl | rfl | rfl | rfl) <;> (refine ⟨?_,?_,?_⟩ <;> omega)) ⟨by omega,by omega,by omega⟩ WZ12.out.words
       rw [HLZ.out] at DO
       have FU := FU.out
       unfold fuV at DO
       generalize (grabV d.us d.pg d.st q zs).1.2 = gt at FU DO
       generalize (grabV d.us d.pg d.st q zs).1.1 = ad at FU DO
       generalize roomV d.pg d.st q zs = rm at FU DO
       replace FU := hQQ FU
       replace DO := hQQ DO
       clear b1 b2 b3 m12 hjp HDZ
       go_wp2_with fail
       clear c1 f1 k1 c2 f2 k2 c3 f3 k3 n1 n2 n3 e12
       refine DO.out.mono ?_
       rintro e w13 ⟨v1,v2,rfl,⟨x1,x2,x3⟩,t13⟩
       have LC13 := hQQ ((t13.block _ (lt_of_heap LC12.out) (by omega)).trans LC12.out)
       have QB13 := hQQ ((t13.block _ (lt_of_heap QB12.out) (by omega)).trans QB12.out)
       have WZ13 := hQQ (WZ12.out.keep t13 (by omega))
       have M13 : Hid (More w w13) := hQQ (Turned.mono (turned_own (F:=fun _ => False) M12.out t13 (fun b e => .inr (by omega))) (fun _ _ q => q))
       have SZ13 := hQQ (HSZ.out.more M13.out)
       have cr := (box_cells x1).1
       have ca := (box_cells x2).1
       have cg := (box_cells x3).1
       have cq := (box_cells QB13.out).1
       clear x1 x2 x3 t13 DO LC12 QB12 WZ12 M12 LC11 QB11 WZ11
       simp only at cr ca cg
       have ZS := hQQ (fun W (hW : More w13 W) => g_size q W (SZ13.out.more hW))
       go_wp2_with fail
       have F1 := FU.out.1
       have F2 := FU.out.2.1
       have F3 := FU.out.2.2.1
       by_cases hq0 : 0 < szV q
       · have e1 : decide (0 < szV q) = true := by simpa using hq0
         by_cases hle : 0 < le
         · have f1 : decide (0 < le) = true := by simpa using hle
           have f0 : (le == 0) = false := by simp; omega
           obtain rfl : gt = true := F1.2 ⟨hq0,.inl hle⟩
           obtain rfl : rm = true := F2.2 hle
           clear F1 F2 F3
           obtain ⟨y,jj,hy,q0,q4,hjj,had,gg1,gg2⟩ := FU.out.2.2.2.2 rfl
           have hyp := isPage_iff.1 hy
           obtain ⟨kz,kz1,kz2⟩ := key32 (k:=q) ⟨q0,q4⟩ hjj
           have hpl := place_of d.us hy q0 q4 hjj
           rw [← had] at hpl
           obtain ⟨nn,hnn⟩ : ∃ nn : Int,(jj : Int) * szV q = nn := ⟨_,rfl⟩
           rw [hnn] at had kz1 kz2
           have hrem : (ad - d.us) % 32 = nn := by omega
           have PL := hQQ (fun (W : World) => show Calls Tryz.prog 16 #[.agg d.arr,.int .i64 ad] W (Gives W (.tuple #[.int .i64 y,.int .i64 nn,.bool true])) from by
             have := xplace_in SS.out.ok W ad (show d.us ≤ ad by omega) (show ad < d.us + 32 * d.pg by omega)
             rw [← hpl,← hrem]
             exact this)
           have PB := page_b HH.out.toPgIn hy
           have PC := page_c HH.out hy
           have b0 := PB.1
           obtain ⟨_,b3,b4,_⟩ := PC
           have YK : Hid (∀ W,Calls Tryz.prog 7 #[.agg d.arr,.int .i64 y] W (Gives W (.int .i64 (kA d.pg d.st y)))) := hQQ fun W => by rw [← page0 (pg:=d.pg) (st:=d.st) hy]; exact y_kind SS.out.ok W y
           have YB : Hid (∀ W,Calls Tryz.prog 11 #[.agg d.arr,.int .i64 y] W (Gives W (.int .i64 (bA d.pg d.st y)))) := hQQ fun W => by rw [← page2 (pg:=d.pg) (st:=d.st) hy]; exact g_bitsA SS.out.ok W y
           have Z1 : Hid (∀ W,Ws W gz cz zs → W.cell? ⟨gz,(kA d.pg d.st y).toNat,none⟩ = some (.int .i64 (wAt zs (kA d.pg d.st y)))) := hQQ fun W hW => pt_rd hW (i:=kA d.pg d.st y) (by omega) (by rw [HLZ.out]; omega)
           have Z3 : Hid (∀ W,Ws W gz cz zs → W.cell? ⟨gz,(bA d.pg d.st y).toNat,none⟩ = some (.int .i64 (wAt zs (bA d.pg d.st y)))) := hQQ fun W hW => pt_rd hW (i:=bA d.pg d.st y) b3 (by rw [HLZ.out]; exact b4)
           have ek : kindV d.pg d.st zs y = wAt zs (kA d.pg d.st y) := by unfold kindV; rw [if_pos hy]
           have eb : bitV d.pg d.st zs y = wAt zs (bA d.pg d.st y) := rfl
           rw [ek] at gg1 gg2
           rw [eb] at gg2
           obtain ⟨ka,hka⟩ : ∃ ka : Nat,kA d.pg d.st y = (ka : Int) := ⟨(kA d.pg d.st y).toNat,by omega⟩
           obtain ⟨ba,hba⟩ : ∃ ba : Nat,bA d.pg d.st y = (ba : Int) := ⟨(bA d.pg d.st y).toNat,by omega⟩
           have l1 : ka < n := by omega
           have l3 : ba < n := by omega
           rw [hka] at Z1 YK gg1 gg2
           rw [hba] at Z3 YB gg2
           simp only [Int.toNat_natCast] at Z1 Z3
           generalize wAt zs (ka : Int) = va at Z1 gg1 gg2
           generalize wAt zs (ba : Int) = vd at Z3 gg2
           have dl1 : decide ((ka : Int) < (n : Int)) = true := by simp; omega
           have dl3 : decide ((ba : Int) < (n : Int)) = true := by simp; omega
           have GG1 := hQQ gg1
           have GG2 := hQQ gg2
           have HNN := hQQ hnn
           clear had hpl hrem gg1 gg2 hnn hy ek eb PB b0 b3 b4 hka hba hyp
           clear s7 s12 hsz ll lq lz hfl
           refine wp_region_more (by kernel_rfl) (by kernel_rfl) ?_
           iterate 3
             with_reducible refine wpQuiet_step (fun K hK => ?_)
             go_simp
             first
             | (refine hK _ ?_; clear hK K)
             | (apply Exists.intro
                refine ⟨fun W hW => ?_,hK _ ?_⟩
                first
                | (go_simp; try rfl)
                clear hK K)
           iterate 1
             with_reducible refine wpQuiet_step (fun K hK => ?_)
             go_simp
             first
             | (refine hK _ ?_; clear hK K)
             | (apply Exists.intro
                refine ⟨fun W hW => ?_,hK _ ?_⟩
                first
                | (have cg' := hW.cell cg; go_simp; try rfl)
                clear hK K)
           iterate 1
             with_reducible refine wpQuiet_step (fun K hK => ?_)
             go_simp
             first
             | (refine hK _ ?_; clear hK K)
             | (apply Exists.intro
                refine ⟨fun W hW => ?_,hK _ ?_⟩
                first
                | (have cq' := hW.cell cq; go_simp; try rfl)
                clear hK K)
           iterate 1
             with_reducible refine wpQuiet_step (fun K hK => ?_)
             go_simp
             first
             | (refine hK _ ?_; clear hK K)
             | (apply Exists.intro
                refine ⟨fun W hW => ?_,hK _ ?_⟩
                first
                | (go_at_call 8; exact Calls.more hW (ZS.out W hW))
                | (go_simp; try rfl)
                clear hK K)
           iterate 11
             with_reducible refine wpQuiet_step (fun K hK => ?_)
             go_simp
             first
             | (refine hK _ ?_; clear hK K)
             | (apply Exists.intro
                refine ⟨fun W hW => ?_,hK _ ?_⟩
                first
                | (go_simp; try rfl)
                clear hK K)
           iterate 1
             with_reducible refine wpQuiet_step (fun K hK => ?_)
             go_simp
             first
             | (refine hK _ ?_; clear hK K)
             | (apply Exists.intro
                refine ⟨fun W hW => ?_,hK _ ?_⟩
                first
                | (have cr' := hW.cell cr; go_simp; try rfl)
                clear hK K)
           iterate 4
             with_reducible refine wpQuiet_step (fun K hK => ?_)
             go_simp
             first
             | (refine hK _ ?_; clear hK K)
             | (apply Exists.intro
                refine ⟨fun W hW => ?_,hK _ ?_⟩
                first
                | (go_simp; try rfl)
                clear hK K)
           refine wpQuiet_nil ?_
           intro w14 m14
           have M14 := hQQ (M13.out.trans m14)
           have cg := m14.cell cg
           have ca := m14.cell ca
           have cq := m14.cell cq
           have LC14 := hQQ (m14.block LC13.out)
           have WZ14 := hQQ (WZ13.out.more m14)
           clear m14 cr LC13 WZ13
           go_wp2_with (refine wpList_load_rowG rfl 28 _ rfl _ rfl 28 _ _ _ LC14.out Tryz.underlying28 rfl (by kernel_rfl) ?_)
           refine (PL.out _).mono ?_
           rintro e w15 ⟨rfl,m15⟩
           have M15 := hQQ (M14.out.trans m15)
           have cq := m15.cell cq
           have LC15 := hQQ (m15.block LC14.out)
           have WZ15 := hQQ (WZ14.out.more m15)
           have z1 := Z1.out _ WZ15.out
           have z3 := Z3.out _ WZ15.out
           have gg1 := GG1.out
           have gg2 := GG2.out
           clear m15 cg ca PL LC14 WZ14 Z1 Z3 GG1 GG2
           obtain ⟨hv1,ho,hb⟩ := gg2 (by omega)
           have q1 : IntKind.i64.wrap (q + 1) = q + 1 := wrap_in (by omega) (by omega)
           have HV := hQQ hv1
           have ev : (va == q + 1) = true := by simpa using hv1
           have CB := cnt_b vd q
           have SIN := slots_in q
           have SZ15 := hQQ (HSZ.out.more M15.out)
           have SL := hQQ (fun W (hW : More w15 W) => g_slots q W (SZ15.out.more hW))
           have ZL := hQQ (fun W (hW : More w15 W) => g_size q W (SZ15.out.more hW))
           have CN := hQQ (fun W => o_count vd (slotsC q) (by omega) (by omega) W)
           have HS := hQQ (fun W => o_has vd (jj : Int) W)
           have LV := hQQ (fun W (hW : More w15 W) => lives11_ok bt W (SZ15.out.more hW))
           have qs : IntKind.i64.wrap (slotsC q - slCountV vd (slotsC q)) = le := by rw [← ho]; exact wrap_in (x:=slotsC q - slCountV vd (slotsC q)) (by omega) (by omega)
           have qd : nn.tdiv (szV q) = (jj : Int) := by rw [← HNN.out]; exact Int.mul_tdiv_cancel _ (by omega)
           have qw : IntKind.i64.wrap (jj : Int) = (jj : Int) := wrap_in (by omega) (by omega)
           have z0 : (szV q == 0) = false := by simp; omega
           have zz : ¬ szV q = 0 := by omega
           rw [hb] at HS
           have HLE := hQQ hle
           clear hv1 ho hb CB SIN gg1 gg2 kz1 kz2 hle IL
           go_wp2_with fail
           have LL := LC15
           refine wp_region_more (by kernel_rfl) (by kernel_rfl) ?_
           iterate 1
             with_reducible refine wpQuiet_step (fun K hK => ?_)
             go_simp
             first
             | (refine hK _ ?_; clear hK K)
             | (apply Exists.intro
                refine ⟨fun W hW => ?_,hK _ ?_⟩
                first
                | (have c5' := hW.cell cq; go_simp; try rfl)
                clear hK K)
           iterate 1
             with_reducible refine wpQuiet_step (fun K hK => ?_)
             go_simp
             first
             | (refine hK _ ?_; clear hK K)
             | (apply Exists.intro
                refine ⟨fun W hW => ?_,hK _ ?_⟩
                first
                | (go_at_call 9; exact Calls.more hW (SL.out W hW))
                | (go_simp; try rfl)
                clear hK K)
           iterate 1
             with_reducible refine wpQuiet_step (fun K hK => ?_)
             go_simp
             first
             | (refine hK _ ?_; clear hK K)
             | (apply Exists.intro
                refine ⟨fun W hW => ?_,hK _ ?_⟩
                first
                | (go_simp; try rfl)
                clear hK K)
           refine wpQuiet_load_row rfl 28 _ rfl _ rfl 28 _ _ _ (fun W hW => hW.block LL.out) Tryz.underlying28 rfl (by kernel_rfl) ?_
           iterate 1
             with_reducible refine wpQuiet_step (fun K hK => ?_)
             go_simp
             first
             | (refine hK _ ?_; clear hK K)
             | (apply Exists.intro
                refine ⟨fun W hW => ?_,hK _ ?_⟩
                first
                | (go_simp; try rfl)
                clear hK K)
           iterate 1
             with_reducible refine wpQuiet_step (fun K hK => ?_)
             go_simp
             first
             | (refine hK _ ?_; clear hK K)
             | (apply Exists.intro
                refine ⟨fun W hW => ?_,hK _ ?_⟩
                first
                | (go_at_call 11; exact Calls.more hW (YB.out W))
                | (go_simp; try rfl)
                clear hK K)
           iterate 2
             with_reducible refine wpQuiet_step (fun K hK => ?_)
             go_simp
             first
             | (refine hK _ ?_; clear hK K)
             | (apply Exists.intro
                refine ⟨fun W hW => ?_,hK _ ?_⟩
                first
                | (have z3' := hW.cell z3; go_simp; try rfl)
                clear hK K)
           iterate 1
             with_reducible refine wpQuiet_step (fun K hK => ?_)
             go_simp
             first
             | (refine hK _ ?_; clear hK K)
             | (apply Exists.intro
                refine ⟨fun W hW => ?_,hK _ ?_⟩
                first
                | (have c5' := hW.cell cq; go_simp; try rfl)
                clear hK K)
           iterate 1
             with_reducible refine wpQuiet_step (fun K hK => ?_)
             go_simp
             first
             | (refine hK _ ?_; clear hK K)
             | (apply Exists.intro
                refine ⟨fun W hW => ?_,hK _ ?_⟩
                first
                | (go_at_call 9; exact Calls.more hW (SL.out W hW))
                | (go_simp; try rfl)
                clear hK K)
           iterate 1
             with_reducible refine wpQuiet_step (fun K hK => ?_)
             go_simp
             first
             | (refine hK _ ?_; clear hK K)
             | (apply Exists.intro
                refine ⟨fun W hW => ?_,hK _ ?_⟩
                first
                | (go_at_call 10; exact Calls.more hW (CN.out W))
                | (go_simp; try rfl)
                clear hK K)
           iterate 2
             with_reducible refine wpQuiet_step (fun K hK => ?_)
             go_simp
             first
             | (refine hK _ ?_; clear hK K)
             | (apply Exists.intro
                refine ⟨fun W hW => ?_,hK _ ?_⟩
                first
                | (go_simp; try rfl)
                clear hK K)
           refine wpQuiet_nil ?_
           intro w16 m16
           have M16 := hQQ (M15.out.trans m16)
           have LL := hQQ (m16.block LC15.out)
           have z1 := m16.cell z1
           have z3 := m16.cell z3
           have cq := m16.cell cq
           have ZL := hQQ (fun W (hW : More w16 W) => ZL.out W (m16.trans hW))
           have LV := hQQ (fun W (hW : More w16 W) => LV.out W (m16.trans hW))
           clear m16 qs
           go_wp2_with fail
           refine wp_region_more (by kernel_rfl) (by kernel_rfl) ?_
           iterate 1
             with_reducible refine wpQuiet_step (fun K hK => ?_)
             go_simp
             first
             | (refine hK _ ?_; clear hK K)
             | (apply Exists.intro
                refine ⟨fun W hW => ?_,hK _ ?_⟩
                first
                | (go_simp; try rfl)
                clear hK K)
           refine wpQuiet_load_row rfl 28 _ rfl _ rfl 28 _ _ _ (fun W hW => hW.block LL.out) Tryz.underlying28 rfl (by kernel_rfl) ?_
           iterate 1
             with_reducible refine wpQuiet_step (fun K hK => ?_)
             go_simp
             first
             | (refine hK _ ?_; clear hK K)
             | (apply Exists.intro
                refine ⟨fun W hW => ?_,hK _ ?_⟩
                first
                | (go_simp; try rfl)
                clear hK K)
           iterate 1
             with_reducible refine wpQuiet_step (fun K hK => ?_)
             go_simp
             first
             | (refine hK _ ?_; clear hK K)
             | (apply Exists.intro
                refine ⟨fun W hW => ?_,hK _ ?_⟩
                first
                | (go_at_call 7; exact Calls.more hW (YK.out W))
                | (go_simp; try rfl)
                clear hK K)
           iterate 2
             with_reducible refine wpQuiet_step (fun K hK => ?_)
             go_simp
             first
             | (refine hK _ ?_; clear hK K)
             | (apply Exists.intro
                refine ⟨fun W hW => ?_,hK _ ?_⟩
                first
                | (have z1' := hW.cell z1; go_simp; try rfl)
                clear hK K)
           iterate 1
             with_reducible refine wpQuiet_step (fun K hK => ?_)
             go_simp
             first
             | (refine hK _ ?_; clear hK K)
             | (apply Exists.intro
                refine ⟨fun W hW => ?_,hK _ ?_⟩
                first
                | (have c5' := hW.cell cq; go_simp; try rfl)
                clear hK K)
           iterate 9
             with_reducible refine wpQuiet_step (fun K hK => ?_)
             go_simp
             first
             | (refine hK _ ?_; clear hK K)
             | (apply Exists.intro
                refine ⟨fun W hW => ?_,hK _ ?_⟩
                first
                | (go_simp; try rfl)
                clear hK K)
           refine wpQuiet_load_row rfl 28 _ rfl _ rfl 28 _ _ _ (fun W hW => hW.block LL.out) Tryz.underlying28 rfl (by kernel_rfl) ?_
           iterate 1
             with_reducible refine wpQuiet_step (fun K hK => ?_)
             go_simp
             first
             | (refine hK _ ?_; clear hK K)
             | (apply Exists.intro
                refine ⟨fun W hW => ?_,hK _ ?_⟩
                first
                | (go_simp; try rfl)
                clear hK K)
           iterate 1
             with_reducible refine wpQuiet_step (fun K hK => ?_)
             go_simp
             first
             | (refine hK _ ?_; clear hK K)
             | (apply Exists.intro
                refine ⟨fun W hW => ?_,hK _ ?_⟩
                first
                | (go_at_call 11; exact Calls.more hW (YB.out W))
                | (go_simp; try rfl)
                clear hK K)
           iterate 2
             with_reducible refine wpQuiet_step (fun K hK => ?_)
             go_simp
             first
             | (refine hK _ ?_; clear hK K)
             | (apply Exists.intro
                refine ⟨fun W hW => ?_,hK _ ?_⟩
                first
                | (have z3' := hW.cell z3; go_simp; try rfl)
                clear hK K)
           iterate 1
             with_reducible refine wpQuiet_step (fun K hK => ?_)
             go_simp
             first
             | (refine hK _ ?_; clear hK K)
             | (apply Exists.intro
                refine ⟨fun W hW => ?_,hK _ ?_⟩
                first
                | (go_simp; try rfl)
                clear hK K)
           iterate 1
             with_reducible refine wpQuiet_step (fun K hK => ?_)
             go_simp
             first
             | (refine hK _ ?_; clear hK K)
             | (apply Exists.intro
                refine ⟨fun W hW => ?_,hK _ ?_⟩
                first
                | (have c5' := hW.cell cq; go_simp; try rfl)
                clear hK K)
           iterate 1
             with_reducible refine wpQuiet_step (fun K hK => ?_)
             go_simp
             first
             | (refine hK _ ?_; clear hK K)
             | (apply Exists.intro
                refine ⟨fun W hW => ?_,hK _ ?_⟩
                first
                | (go_at_call 8; exact Calls.more hW (ZL.out W hW))
                | (go_simp; try rfl)
                clear hK K)
           iterate 1
             with_reducible refine wpQuiet_step (fun K hK => ?_)
             go_simp
             first
             | (refine hK _ ?_; clear hK K)
             | (apply Exists.intro
                refine ⟨fun W hW => ?_,hK _ ?_⟩
                first
                | (go_simp; try rfl)
                clear hK K)
           iterate 1
             with_reducible refine wpQuiet_step (fun K hK => ?_)
             go_simp
             first
             | (refine hK _ ?_; clear hK K)
             | (apply Exists.intro
                refine ⟨fun W hW => ?_,hK _ ?_⟩
                first
                | (go_at_call 17; exact Calls.more hW ((HS.out W).mono fun e w' z => ⟨z.1,z.2 ▸ More.refl _⟩))
                | (go_simp; try rfl)
                clear hK K)
           iterate 3
             with_reducible refine wpQuiet_step (fun K hK => ?_)
             go_simp
             first
             | (refine hK _ ?_; clear hK K)
             | (apply Exists.intro
                refine ⟨fun W hW => ?_,hK _ ?_⟩
                first
                | (go_simp; try rfl)
                clear hK K)
           iterate 1
             with_reducible refine wpQuiet_step (fun K hK => ?_)
             go_simp
             first
             | (refine hK _ ?_; clear hK K)
             | (apply Exists.intro
                refine ⟨fun W hW => ?_,hK _ ?_⟩
                first
                | (go_at_call 4; exact Calls.more hW (LV.out W hW))
                | (go_simp; try rfl)
                clear hK K)
           iterate 2
             with_reducible refine wpQuiet_step (fun K hK => ?_)
             go_simp
             first
             | (refine hK _ ?_; clear hK K)
             | (apply Exists.intro
                refine ⟨fun W hW => ?_,hK _ ?_⟩
                first
                | (go_simp; try rfl)
                clear hK K)
           refine wpQuiet_nil ?_
           intro w17 m17
           have M17 := hQQ (M16.out.trans m17)
           clear m17
           go_wp2_with fail
           go_ret
           exact ⟨rfl,M17.out⟩
         · have hl0 : le = 0 := by omega
           have f1 : decide (0 < le) = false := by simp; omega
           have f0 : (le == 0) = true := by simpa using hl0
           have HL0 := hQQ hl0
           clear hl0
           obtain rfl : rm = false := by cases rm; rfl; exact absurd (F2.1 rfl) hle
           cases ob with
           | true =>
             obtain rfl : gt = true := F1.2 ⟨hq0,.inr rfl⟩
             clear F1 F2 F3
             obtain ⟨y,jj,hy,q0,q4,hjj,had,gg1,gg2⟩ := FU.out.2.2.2.2 rfl
             have hyp := isPage_iff.1 hy
             obtain ⟨kz,kz1,kz2⟩ := key32 (k:=q) ⟨q0,q4⟩ hjj
             have hpl := place_of d.us hy q0 q4 hjj
             rw [← had] at hpl
             obtain ⟨nn,hnn⟩ : ∃ nn : Int,(jj : Int) * szV q = nn := ⟨_,rfl⟩
             rw [hnn] at had kz1 kz2
             have hrem : (ad - d.us) % 32 = nn := by omega
             have PL := hQQ (fun (W : World) => show Calls Tryz.prog 16 #[.agg d.arr,.int .i64 ad] W (Gives W (.tuple #[.int .i64 y,.int .i64 nn,.bool true])) from by
               have := xplace_in SS.out.ok W ad (show d.us ≤ ad by omega) (show ad < d.us + 32 * d.pg by omega)
               rw [← hpl,← hrem]
               exact this)
             have PB := page_b HH.out.toPgIn hy
             have PC := page_c HH.out hy
             have b0 := PB.1
             obtain ⟨_,b3,b4,_⟩ := PC
             have YK : Hid (∀ W,Calls Tryz.prog 7 #[.agg d.arr,.int .i64 y] W (Gives W (.int .i64 (kA d.pg d.st y)))) := hQQ fun W => by rw [← page0 (pg:=d.pg) (st:=d.st) hy]; exact y_kind SS.out.ok W y
             have YB : Hid (∀ W,Calls Tryz.prog 11 #[.agg d.arr,.int .i64 y] W (Gives W (.int .i64 (bA d.pg d.st y)))) := hQQ fun W => by rw [← page2 (pg:=d.pg) (st:=d.st) hy]; exact g_bitsA SS.out.ok W y
             have Z1 : Hid (∀ W,Ws W gz cz zs → W.cell? ⟨gz,(kA d.pg d.st y).toNat,none⟩ = some (.int .i64 (wAt zs (kA d.pg d.st y)))) := hQQ fun W hW => pt_rd hW (i:=kA d.pg d.st y) (by omega) (by rw [HLZ.out]; omega)
             have Z3 : Hid (∀ W,Ws W gz cz zs → W.cell? ⟨gz,(bA d.pg d.st y).toNat,none⟩ = some (.int .i64 (wAt zs (bA d.pg d.st y)))) := hQQ fun W hW => pt_rd hW (i:=bA d.pg d.st y) b3 (by rw [HLZ.out]; exact b4)
             have ek : kindV d.pg d.st zs y = wAt zs (kA d.pg d.st y) := by unfold kindV; rw [if_pos hy]
             have eb : bitV d.pg d.st zs y = wAt zs (bA d.pg d.st y) := rfl
             rw [ek] at gg1 gg2
             rw [eb] at gg2
             obtain ⟨ka,hka⟩ : ∃ ka : Nat,kA d.pg d.st y = (ka : Int) := ⟨(kA d.pg d.st y).toNat,by omega⟩
             obtain ⟨ba,hba⟩ : ∃ ba : Nat,bA d.pg d.st y = (ba : Int) := ⟨(bA d.pg d.st y).toNat,by omega⟩
             have l1 : ka < n := by omega
             have l3 : ba < n := by omega
             rw [hka] at Z1 YK gg1 gg2
             rw [hba] at Z3 YB gg2
             simp only [Int.toNat_natCast] at Z1 Z3
             generalize wAt zs (ka : Int) = va at Z1 gg1 gg2
             generalize wAt zs (ba : Int) = vd at Z3 gg2
             have dl1 : decide ((ka : Int) < (n : Int)) = true := by simp; omega
             have dl3 : decide ((ba : Int) < (n : Int)) = true := by simp; omega
             have GG1 := hQQ gg1
             have GG2 := hQQ gg2
             have HNN := hQQ hnn
             clear had hpl hrem gg1 gg2 hnn hy ek eb PB b0 b3 b4 hka hba hyp
             clear s7 s12 hsz ll lq lz hfl
             refine wp_region_more (by kernel_rfl) (by kernel_rfl) ?_
             iterate 3
               with_reducible refine wpQuiet_step (fun K hK => ?_)
               go_simp
               first
               | (refine hK _ ?_; clear hK K)
               | (apply Exists.intro
                  refine ⟨fun W hW => ?_,hK _ ?_⟩
                  first
                  | (go_simp; try rfl)
                  clear hK K)
             iterate 1
               with_reducible refine wpQuiet_step (fun K hK => ?_)
               go_simp
               first
               | (refine hK _ ?_; clear hK K)
               | (apply Exists.intro
                  refine ⟨fun W hW => ?_,hK _ ?_⟩
                  first
                  | (have cg' := hW.cell cg; go_simp; try rfl)
                  clear hK K)
             iterate 1
               with_reducible refine wpQuiet_step (fun K hK => ?_)
               go_simp
               first
               | (refine hK _ ?_; clear hK K)
               | (apply Exists.intro
                  refine ⟨fun W hW => ?_,hK _ ?_⟩
                  first
                  | (have cq' := hW.cell cq; go_simp; try rfl)
                  clear hK K)
             iterate 1
               with_reducible refine wpQuiet_step (fun K hK => ?_)
               go_simp
               first
               | (refine hK _ ?_; clear hK K)
               | (apply Exists.intro
                  refine ⟨fun W hW => ?_,hK _ ?_⟩
                  first
                  | (go_at_call 8; exact Calls.more hW (ZS.out W hW))
                  | (go_simp; try rfl)
                  clear hK K)
             iterate 11
               with_reducible refine wpQuiet_step (fun K hK => ?_)
               go_simp
               first
               | (refine hK _ ?_; clear hK K)
               | (apply Exists.intro
                  refine ⟨fun W hW => ?_,hK _ ?_⟩
                  first
                  | (go_simp; try rfl)
                  clear hK K)
             iterate 1
               with_reducible refine wpQuiet_step (fun K hK => ?_)
               go_simp
               first
               | (refine hK _ ?_; clear hK K)
               | (apply Exists.intro
                  refine ⟨fun W hW => ?_,hK _ ?_⟩
                  first
                  | (have cr' := hW.cell cr; go_simp; try rfl)
                  clear hK K)
             iterate 4
               with_reducible refine wpQuiet_step (fun K hK => ?_)
               go_simp
               first
               | (refine hK _ ?_; clear hK K)
               | (apply Exists.intro
                  refine ⟨fun W hW => ?_,hK _ ?_⟩
                  first
                  | (go_simp; try rfl)
                  clear hK K)
             refine wpQuiet_nil ?_
             intro w14 m14
             have M14 := hQQ (M13.out.trans m14)
             have cg := m14.cell cg
             have ca := m14.cell ca
             have cq := m14.cell cq
             have LC14 := hQQ (m14.block LC13.out)
             have WZ14 := hQQ (WZ13.out.more m14)
             clear m14 cr LC13 WZ13
             go_wp2_with (refine wpList_load_rowG rfl 28 _ rfl _ rfl 28 _ _ _ LC14.out Tryz.underlying28 rfl (by kernel_rfl) ?_)
             refine (PL.out _).mono ?_
             rintro e w15 ⟨rfl,m15⟩
             have M15 := hQQ (M14.out.trans m15)
             have cq := m15.cell cq
             have LC15 := hQQ (m15.block LC14.out)
             have WZ15 := hQQ (WZ14.out.more m15)
             have z1 := Z1.out _ WZ15.out
             have z3 := Z3.out _ WZ15.out
             have gg1 := GG1.out
             have gg2 := GG2.out
             clear m15 cg ca PL LC14 WZ14 Z1 Z3 GG1 GG2
             obtain ⟨hv0,hj0⟩ := gg1 HL0.out
             subst hv0
             have hn0 : nn = 0 := by rw [← HNN.out,hj0]; simp
             subst hn0
             clear HNN gg1 gg2 kz1 kz2
             go_wp2_with (refine wpList_load_rowG rfl 28 _ rfl _ rfl 28 _ _ _ LC15.out Tryz.underlying28 rfl (by kernel_rfl) ?_)
             refine (YK.out _).mono ?_
             rintro e w16 ⟨rfl,m16⟩
             have M16 := hQQ (M15.out.trans m16)
             have z1 := m16.cell z1
             clear m16
             go_wp2_with fail
             refine (lives11_ok bt _ (HSZ.out.more M16.out)).mono ?_
             rintro e w17 ⟨rfl,h17⟩
             have M17 := hQQ (M16.out.trans h17)
             clear h17
             go_wp2_with fail
             go_ret
             exact ⟨rfl,M17.out⟩
           | false =>
             obtain rfl : gt = false := by
               cases gt
               · rfl
               · rcases (F1.1 rfl).2 with z | z
                 · exact absurd z hle
                 · simp at z
             clear F1 F2 F3
             have had : ad = 0 := FU.out.2.2.2.1 rfl
             subst had
             clear s7 s12 hsz ll lq lz hfl
             refine wp_region_more (by kernel_rfl) (by kernel_rfl) ?_
             iterate 3
               with_reducible refine wpQuiet_step (fun K hK => ?_)
               go_simp
               first
               | (refine hK _ ?_; clear hK K)
               | (apply Exists.intro
                  refine ⟨fun W hW => ?_,hK _ ?_⟩
                  first
                  | (go_simp; try rfl)
                  clear hK K)
             iterate 1
               with_reducible refine wpQuiet_step (fun K hK => ?_)
               go_simp
               first
               | (refine hK _ ?_; clear hK K)
               | (apply Exists.intro
                  refine ⟨fun W hW => ?_,hK _ ?_⟩
                  first
                  | (have cg' := hW.cell cg; go_simp; try rfl)
                  clear hK K)
             iterate 1
               with_reducible refine wpQuiet_step (fun K hK => ?_)
               go_simp
               first
               | (refine hK _ ?_; clear hK K)
               | (apply Exists.intro
                  refine ⟨fun W hW => ?_,hK _ ?_⟩
                  first
                  | (have cq' := hW.cell cq; go_simp; try rfl)
                  clear hK K)
             iterate 1
               with_reducible refine wpQuiet_step (fun K hK => ?_)
               go_simp
               first
               | (refine hK _ ?_; clear hK K)
               | (apply Exists.intro
                  refine ⟨fun W hW => ?_,hK _ ?_⟩
                  first
                  | (go_at_call 8; exact Calls.more hW (ZS.out W hW))
                  | (go_simp; try rfl)
                  clear hK K)
             iterate 11
               with_reducible refine wpQuiet_step (fun K hK => ?_)
               go_simp
               first
               | (refine hK _ ?_; clear hK K)
               | (apply Exists.intro
                  refine ⟨fun W hW => ?_,hK _ ?_⟩
                  first
                  | (go_simp; try rfl)
                  clear hK K)
             iterate 1
               with_reducible refine wpQuiet_step (fun K hK => ?_)
               go_simp
               first
               | (refine hK _ ?_; clear hK K)
               | (apply Exists.intro
                  refine ⟨fun W hW => ?_,hK _ ?_⟩
                  first
                  | (have cr' := hW.cell cr; go_simp; try rfl)
                  clear hK K)
             iterate 4
               with_reducible refine wpQuiet_step (fun K hK => ?_)
               go_simp
               first
               | (refine hK _ ?_; clear hK K)
               | (apply Exists.intro
                  refine ⟨fun W hW => ?_,hK _ ?_⟩
                  first
                  | (go_simp; try rfl)
                  clear hK K)
             refine wpQuiet_nil ?_
             intro w14 m14
             have M14 := hQQ (M13.out.trans m14)
             have cg := m14.cell cg
             have ca := m14.cell ca
             have cq := m14.cell cq
             have LC14 := hQQ (m14.block LC13.out)
             have WZ14 := hQQ (WZ13.out.more m14)
             clear m14 cr LC13 WZ13
             go_wp2_with fail
             refine (lives11_ok bt _ (HSZ.out.more M14.out)).mono ?_
             rintro e w15 ⟨rfl,h15⟩
             have M15 := hQQ (M14.out.trans h15)
             clear h15
             go_wp2_with fail
             go_ret
             exact ⟨rfl,M15.out⟩
       · have e1 : decide (0 < szV q) = false := by simpa using hq0
         have hl0 : le = 0 := by
           rcases IL.out with ⟨z,_⟩ | ⟨z,_⟩
           · exact z
           · exact absurd z hq0
         have f1 : decide (0 < le) = false := by simp; omega
         obtain rfl : rm = false := by cases rm; rfl; have := F2.1 rfl; omega
         have HL0 := hQQ hl0
         clear hl0
         obtain rfl : gt = false := by
           cases gt
           · rfl
           · exact absurd (F1.1 rfl).1 hq0
         clear F1 F2 F3
         have had : ad = 0 := FU.out.2.2.2.1 rfl
         subst had
         clear s7 s12 hsz ll lq lz hfl
         refine wp_region_more (by kernel_rfl) (by kernel_rfl) ?_
         iterate 3
           with_reducible refine wpQuiet_step (fun K hK => ?_)
           go_simp
           first
           | (refine hK _ ?_; clear hK K)
           | (apply Exists.intro
              refine ⟨fun W hW => ?_,hK _ ?_⟩
              first
              | (go_simp; try rfl)
              clear hK K)
         iterate 1
           with_reducible refine wpQuiet_step (fun K hK => ?_)
           go_simp
           first
           | (refine hK _ ?_; clear hK K)
           | (apply Exists.intro
              refine ⟨fun W hW => ?_,hK _ ?_⟩
              first
              | (have cg' := hW.cell cg; go_simp; try rfl)
              clear hK K)
         iterate 1
           with_reducible refine wpQuiet_step (fun K hK => ?_)
           go_simp
           first
           | (refine hK _ ?_; clear hK K)
           | (apply Exists.intro
              refine ⟨fun W hW => ?_,hK _ ?_⟩
              first
              | (have cq' := hW.cell cq; go_simp; try rfl)
              clear hK K)
         iterate 1
           with_reducible refine wpQuiet_step (fun K hK => ?_)
           go_simp
           first
           | (refine hK _ ?_; clear hK K)
           | (apply Exists.intro
              refine ⟨fun W hW => ?_,hK _ ?_⟩
              first
              | (go_at_call 8; exact Calls.more hW (ZS.out W hW))
              | (go_simp; try rfl)
              clear hK K)
         iterate 11
           with_reducible refine wpQuiet_step (fun K hK => ?_)
           go_simp
           first
           | (refine hK _ ?_; clear hK K)
           | (apply Exists.intro
              refine ⟨fun W hW => ?_,hK _ ?_⟩
              first
              | (go_simp; try rfl)
              clear hK K)
         iterate 1
           with_reducible refine wpQuiet_step (fun K hK => ?_)
           go_simp
           first
           | (refine hK _ ?_; clear hK K)
           | (apply Exists.intro
              refine ⟨fun W hW => ?_,hK _ ?_⟩
              first
              | (have cr' := hW.cell cr; go_simp; try rfl)
              clear hK K)
         iterate 4
           with_reducible refine wpQuiet_step (fun K hK => ?_)
           go_simp
           first
           | (refine hK _ ?_; clear hK K)
           | (apply Exists.intro
              refine ⟨fun W hW => ?_,hK _ ?_⟩
              first
              | (go_simp; try rfl)
              clear hK K)
         refine wpQuiet_nil ?_
         intro w14 m14
         have M14 := hQQ (M13.out.trans m14)
         have cg := m14.cell cg
         have ca := m14.cell ca
         have cq := m14.cell cq
         have LC14 := hQQ (m14.block LC13.out)
         have WZ14 := hQQ (WZ13.out.more m14)
         clear m14 cr LC13 WZ13
         go_wp2_with fail
         refine (lives11_ok bt _ (HSZ.out.more M14.out)).mono ?_
         rintro e w15 ⟨rfl,h15⟩
         have M15 := hQQ (M14.out.trans h15)
         clear h15
         go_wp2_with fail
         go_ret
         exact ⟨rfl,M15.out⟩
end Go.Proofs.YtmafllcmkhgidaaGreatDoor
namespace Go.Proofs.YtmafllcmkhgidaaGreatDoor
open Go.ChangeShapes Go.WideShapes Go.ChangeAt Go.RowKit Go.Deep
section
variable {H : Type} {enc : TypeId × Value → H} {P : Program} {w : World} {base : Nat} {spare : Nat → Bool} {held : Bool}
theorem open_int_struct {r : Reach} {b0 : Nat} {t T : TypeId} {fs : Array Field} {v : Value} {d : DataW H} {p : List MemPlace} (hs : P.underlying t = some (.struct fs)) (hone : oneCellFields P fs = true) (hC : P.cellsOf t = fs.size)
   (hT : (fs.all fun f => f.type == T) = true) (u : P.underlying T = some (.int .i64)) (hv : Value.okWide P w r b0 t v) (h : DataW.Trod enc P w base spare held t v d p) :
   ∃ xs : List Int,xs.length = fs.size ∧ v = .agg (xs.map (Value.int .i64)).toArray ∧ ∀ x ∈ xs,(Lit.int .i64 x).wf = true := by
 obtain ⟨cs,rfl,hsz⟩ := okWide_struct hs hv
 obtain ⟨fuel,hf⟩ := h
 obtain ⟨ys,n,_,_,_,hlen,hg⟩ := DataW.trod_struct hs hf
 have key : ∀ j,j < cs.toList.length → ∃ x : Int,cs.toList[j]? = some (.int .i64 x) ∧ (Lit.int .i64 x).wf = true := by
   intro j hj
   have hj' : j < fs.size := by simp at hj; omega
   have hfj : fs[j]? = some fs[j] := by simp [hj']
   obtain ⟨ho,hk⟩ := hone_of hone j _ hfj
   have ht : fs[j].type = T := by
     have := Array.all_eq_true.1 hT j hj'
     simpa using this
   have h1 := hg j _ hfj
   rw [ho,hk] at h1
   have hys : ys[j]? = some (ys[j]'(by omega)) := List.getElem?_eq_getElem (by omega)
   rw [hys] at h1
   obtain ⟨x,e,_,wx⟩ := DataW.trod_int (by rw [ht]; exact u) h1
   refine ⟨x,?_,wx⟩
   have e' : (cs.toList.drop j).take 1 = [.int .i64 x] := by simpa [Value.cells] using e
   rw [List.drop_eq_getElem_cons hj] at e'
   simp at e'
   rw [List.getElem?_eq_getElem hj]
   simp [e']
 have hall : ∀ l : List Value,(∀ j,j < l.length → ∃ x : Int,l[j]? = some (.int .i64 x) ∧ (Lit.int .i64 x).wf = true) → ∃ xs : List Int,xs.length = l.length ∧ l = xs.map (Value.int .i64) ∧ ∀ x ∈ xs,(Lit.int .i64 x).wf = true := by
   intro l
   induction l with
   | nil => intro _; exact ⟨[],rfl,rfl,by simp⟩
   | cons a l ih =>
     intro hl
     obtain ⟨x,hx,wx⟩ := hl 0 (by simp)
     obtain ⟨xs,h1,h2,h3⟩ := ih (fun j hj => by have := hl (j + 1) (by simp; omega); simpa using this)
     simp at hx
     exact ⟨x :: xs,by simp [h1],by simp [hx,← h2],by intro z hz; rcases List.mem_cons.1 hz with q | q; (rw [q]; exact wx); exact h3 z q⟩
 obtain ⟨xs,h1,h2,h3⟩ := hall cs.toList key
 refine ⟨xs,by simp at h1; omega,?_,h3⟩
 rw [← h2]
end
theorem list11 {l : List Int} (h : l.length = 11) : ∃ x0 x1 x2 x3 x4 x5 x6 x7 x8 x9 x10,l = [x0,x1,x2,x3,x4,x5,x6,x7,x8,x9,x10] := by
 match l,h with
 | [x0,x1,x2,x3,x4,x5,x6,x7,x8,x9,x10],_ => exact ⟨x0,x1,x2,x3,x4,x5,x6,x7,x8,x9,x10,rfl⟩
end Go.Proofs.YtmafllcmkhgidaaGreatDoor
