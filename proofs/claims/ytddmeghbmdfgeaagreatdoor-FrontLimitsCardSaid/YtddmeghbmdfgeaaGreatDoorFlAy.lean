/-
  Layer 14's statement that no purse, no stack and no bin has more than it may.
-/
import Derived.Test.YtddmeghbmdfgeaaGreatDoorFlAx
import Derived.Test.YtddmeghbmdfgeaaGreatDoorFlAp
import Derived.Test.YtddmeghbmdfgeaaGreatDoorFlAa
import Derived.ProofKit
import Derived.Deep.Fields
set_option maxRecDepth 100000
set_option maxHeartbeats 8000000
set_option linter.unusedVariables false
set_option linter.unusedSimpArgs false
set_option linter.unusedSectionVars false
namespace Go.Proofs.YtddmeghbmdfgeaaGreatDoor
open Go.RowKit Go.Sort Go.Maps Go.Shelf
theorem KO (TT:TkT)(y0 y1 y2 y3 y4 y5 y6 y7 y8 y9 y10:Int)(a:Option Addr)(capl:Nat)(l:List fY)(w:World)(hS:pi w)(f0:(Lit.int .i64 y0).wf=true)(f1:(Lit.int .i64 y1).wf=true)(f2:(Lit.int .i64 y2).wf=true)(f3:(Lit.int .i64 y3).wf=true)(f4:(Lit.int .i64 y4).wf=true)(f5:(Lit.int .i64 y5).wf=true)(f6:(Lit.int .i64 y6).wf=true)(f7:(Lit.int .i64 y7).wf=true)(f8:(Lit.int .i64 y8).wf=true)(f9:(Lit.int .i64 y9).wf=true)(f10:(Lit.int .i64 y10).wf=true)(hl:fZ w a l)(ho:Ms l)(hm:l.length≤9223372036854775807):
 Calls Tryz.prog 5 #[.agg #[.int .i64 y0,.int .i64 y1,.int .i64 y2,.int .i64 y3,.int .i64 y4,.int .i64 y5,.int .i64 y6,.int .i64 y7,.int .i64 y8,.int .i64 y9,.int .i64 y10],.slice a l.length capl] w (aU w (.bool true)):=by
 obtain⟨w2,e2,ha2,m2,hs2⟩:=bg w (.cells #[.int .i64 y0,.int .i64 y1,.int .i64 y2,.int .i64 y3,.int .i64 y4,.int .i64 y5,.int .i64 y6,.int .i64 y7,.int .i64 y8,.int .i64 y9,.int .i64 y10] 23)
 obtain⟨bt,hsz⟩:=hS
 have HSZ:Hq (dg bt w):=hQQ hsz
 have sz0:=HSZ.o.lt0
 have szb:=HSZ.o.lt
 have HM:=hQQ m2
 have HA:=hQQ ha2
 have LIV:=hQQ (Cq TT bt)
 clear ha2 hsz
 by_cases hbig:60<l.length
 ·have d0:decide ((60:Int)<(l.length:Int))=true:=by simp;omega
  clear m2 hs2 HA f0 f1 f2 f3 f4 f5 f6 f7 f8 f9 f10 TT
  go_enter Tryz.func5,Tryz.ntmps5
  go_wp2_with fail
  refine(LIV.o _ (HSZ.o.more HM.o)).mono ?_
  rintro e w8 ⟨rfl,h8⟩
  have HM8:=hQQ (HM.o.trans h8)
  clear h8
  go_wp2_with fail
  go_ret
  exact⟨rfl,HM8.o⟩
 ·have d0:decide ((60:Int)<(l.length:Int))=false:=by simp;omega
  obtain⟨d,n,zs,s,S,hn,hlz,hz,Fq9,OKs,AF⟩:=KJ TT y0 y1 y2 y3 y4 y5 y6 y7 y8 y9 y10 f0 f1 f2 f3 f4 f5 f6 f7 f8 f9 f10 l (by omega)
  have wds:=S.words
  have H:=Dw S hn
  have SS:=hQQ S
  have HH:=hQQ H
  have HW:=hQQ hn
  have LM:=hQQ Fq9.lim
  obtain⟨C,hC⟩:=Fq9.fri
  have FRI:=hQQ hC
  have KEPT:=hQQ (I6 S.ok H hn (by omega) hC)
  have HZ:=hQQ hz
  have HLZ:=hQQ hlz
  have AO:=hQQ (AF.out a capl w2 ⟨bt,HSZ.o.more m2⟩ (hl.more m2))
  have hnb:160≤n∧n≤800:=by omega
  clear m2 f0 f1 f2 f3 f4 f5 f6 f7 f8 f9 f10 hl ho hm AF S H hn wds Fq9 OKs hC hz hlz TT
  go_enter Tryz.func5,Tryz.ntmps5
  go_wp2_with (refine wpList_load_row rfl 23 _ rfl w.heap.size rfl 23 _ _ _ HA.o Tryz.underlying23 rfl (by kernel_rfl) ?_)
  clear e2
  refine AO.o.mono ?_
  rintro e w5 ⟨gz,cz,fs,o,rfl,hwz,hp0,hp1,hrb,hgz,m5⟩
  have hz5:=bh w5 (.cells mI 37)
  obtain⟨cur,hcur⟩:∃cur,(stL (d.arr.toList++ [.slice (some ⟨gz,0,none⟩) n cz]) fs o (.bool true)).toArray=cur:=⟨_,rfl⟩
  obtain⟨w7,e7⟩:∃w7,(w5.alloc (.cells mI 37)).setRow w5.heap.size cur=w7:=⟨_,rfl⟩
  have hb7:StB w7 w5.heap.size (d.arr.toList++ [.slice (some ⟨gz,0,none⟩) n cz]) fs o (.bool true):=⟨by rw[List.length_append,ku];rfl,by rw[←e7,←hcur];exact setRow_heap _ _ _ _ _ _ hz5⟩
  have m57:ae w5 w7:=by rw[←e7];exact((ae.refl w5).alloc _).setRow _ _ (Nat.le_refl _)
  have SZ:Hq (cur.size=37):=hQQ (by rw[←hcur,List.size_toArray];exact ny hb7.1 _ _ _)
  have AL:Hq (cur.all (·.oneCell')=true):=hQQ (by rw[←hcur];exact Ck _ (xK d _ rfl) (Pu.all1 hp0) (Pu.all1 hp1) hrb.one rfl)
  have Z5:=hQQ hz5
  have E7:=hQQ e7
  have B7:=hQQ hb7
  have RG:=hQQ hb7.lay
  have M7:Hq (ae w w7):=hQQ (HM.o.trans (m5.trans m57))
  have WZ:=hQQ (hwz.more m57)
  have P0:=hQQ (hp0.more m57)
  have P1:=hQQ (hp1.more m57)
  have h25:=m5.size
  clear e7 hb7 hz5 hwz hp0 hp1 hrb m5 m57 AO HA
  rw[hcur]
  go_wp2_with (first
   |(refine wpList_store_row rfl 37 _ _ rfl w5.heap.size cur rfl rfl 37 mI Z5.o (by rw[SZ.o];kernel_rfl) (by rw[SZ.o];rfl) AL.o ?_;rw[E7.o])
   |(refine wpList_load_mid rfl 28 _ rfl w5.heap.size 0 rfl d.arr.toList _ RG.o Tryz.underlying28 rfl (by kernel_rfl) ?_))
  refine(dx SS.o.ok w7).mono ?_
  rintro e w8 ⟨rfl,m8⟩
  have hz8:=bh w8 (.cells iC 23)
  obtain⟨w9,e9⟩:∃w9,(w8.alloc (.cells iC 23)).setRow w8.heap.size d.cells=w9:=⟨_,rfl⟩
  have cb:=setRow_heap _ _ _ d.cells _ _ hz8
  rw[e9] at cb
  have m89:ae w8 w9:=by rw[←e9];exact((ae.refl w8).alloc _).setRow _ _ (Nat.le_refl _)
  have mm:=m8.trans m89
  have Z8:=hQQ hz8
  have E9:=hQQ e9
  have CB9:=hQQ cb
  have SB9:=hQQ (B7.o.more mm)
  have M9:=hQQ (M7.o.trans mm)
  have WZ9:=hQQ (WZ.o.more mm)
  have P09:=hQQ (P0.o.more mm)
  have P19:=hQQ (P1.o.more mm)
  have l58:w5.heap.size<w8.heap.size:=Nat.lt_of_lt_of_le B7.o.lt m8.size
  clear m8 hz8 e9 cb m89 mm B7 RG WZ P0 P1 M7 Z5 E7 SZ AL hcur
  go_wp2_with (refine wpList_store_row rfl 23 _ _ rfl w8.heap.size d.cells rfl rfl 23 iC Z8.o (by kernel_rfl) rfl (gg d) ?_;rw[E9.o])
  go_loopw [7] (fun i wr=>∃j:Nat,i=.int .i64 (j:Int)∧j≤5∧ae w9 wr) (fun i _=>5-(intOf i).toNat)
  case atStart=>exact⟨0,rfl,by omega,ae.refl _⟩
  case round =>
   obtain⟨j,rfl,hj,mw⟩:=hrel
   have MW:=hQQ mw
   clear mw
   by_cases hj5:j<5
   ·have d1:decide ((j:Int)<5)=true:=by simp;omega
    have LT0:Hq (decide (d.pr<((s.P0 j).length:Int))=false):=hQQ (by have:=LM.o.1 j hj5;simp;omega)
    have LT1:Hq (decide (d.pr<((s.P1 j).length:Int))=false):=hQQ (by have:=LM.o.2 j hj5;simp;omega)
    have SB:=hQQ (SB9.o.more MW.o)
    have CB:=hQQ (MW.o.block CB9.o)
    have PU0:=hQQ (P09.o.more MW.o)
    have PU1:=hQQ (P19.o.more MW.o)
    go_wp2_with fail
    refine aR (ae wr) (by kernel_rfl) ?_
    change dq _ _ _ _ _ _ _ _ (wr.drewN 1)
    have MR:Hq (ae wr (wr.drewN 1)):=hQQ ((ae.refl wr).drewN 1)
    generalize wr.drewN 1=wq at MR⊢
    generalize hA:Act.mk _ _=A
    have HF:AG 74 A [(5,.pointer (some ⟨w5.heap.size,0,none⟩)),(6,.pointer (some ⟨w8.heap.size,0,none⟩)),(7,.int .i64 (j:Int))]:=by
     rw[←hA];try simp only[pts,List.foldl]
     refine⟨⟨Nat.le_of_ble_eq_true rfl,rfl⟩,?_⟩
     intro z hz;simp only[List.mem_cons,List.not_mem_nil,or_false] at hz;rcases hz with rfl|rfl|rfl<;>rfl
    refine bK (fun aa W=>∃(u26 u27 u28 u29 u31 u32 u30 u33 u34 u35 u36 u37 u38 u40 u41 u39 u42:Value),aa=(pts A [(26,u26),(27,u27),(28,u28),(29,u29),(31,u31),(32,u32),(30,u30),(33,u33),(34,u34),(35,u35),(36,u36),(37,u37),(38,u38),(40,u40),(41,u41),(39,u39),(42,u42),(43,.bool false)])∧ae wr W) (fun _=>False) [] (fun a W hd h=>h.elim) (fun _ _ _ _ _ h=>h) ?_ ?_
    ·skip
     rintro a9 wz ⟨u26,u27,u28,u29,u31,u32,u30,u33,u34,u35,u36,u37,u38,u40,u41,u39,u42,rfl,mz⟩
     rw[←hA];try simp only[pts,List.foldl]
     have MZ:=hQQ (MW.o.trans mz)
     clear HF hA MR mz
     go_simp
     go_wp2_with fail
     go_roundw
     case rel=>exact⟨j+1,by go_num,by omega,MZ.o⟩
     case measure=>simp[intOf];omega
    intro QQ FINE FIND FINQ
    clear hA
    refine tqC 0 26 (.pointer (some ⟨w5.heap.size,25,none⟩)) (by kernel_rfl) FINQ MR.o HF (by exact(Or.inl ⟨(ab rfl),fun W hW=>by have h5:=(HF.getD 0 rfl);go_simp⟩)) fun A hB1_26 HF=>?_
    refine tqC 1 27 (.pointer (some ⟨w5.heap.size,25,none⟩)) (by kernel_rfl) FINQ MR.o HF (by exact(Or.inl ⟨(ab rfl),fun W hW=>by have h5:=(HF.getD 0 rfl);go_simp⟩)) fun A hB2_27 HF=>?_
    refine tqC 2 28 (.agg (puA (fs 0)).toList.toArray) (by kernel_rfl) FINQ MR.o HF (by exact mH (ab rfl) 32 _ rfl w5.heap.size 25 (HF.get 0 rfl) (puA (fs 0)).toList _ (fun W hW=>(SB.o.more hW).range (n:=0) (by omega)) Tryz.underlying32 rfl (by kernel_rfl)) fun A hB3_28 HF=>?_
    refine tqM 3 29 5 rfl (.inl rfl) rfl (by kernel_rfl) FINQ MR.o HF fun A hB4_29 HF=>?_
    refine tqC 5 31 (.pointer (some ⟨w8.heap.size,7,none⟩)) (by kernel_rfl) FINQ MR.o HF (by exact(Or.inl ⟨(ab rfl),fun W hW=>by have h5:=(HF.getD 5 rfl);go_simp⟩)) fun A hB5_31 HF=>?_
    refine tqC 6 32 (.int .i64 d.pr) (by kernel_rfl) FINQ MR.o HF (by exact dS (ab rfl) 3 _ rfl (w8.heap.size) 7 (HF.get 0 rfl) (.int .i64 d.pr) _ Tryz.underlying3 rfl (fun W hW=>by simp[World.cell?,hW.block CB.o,Cfg.cells])) fun A hB6_32 HF=>?_
    refine az (i:=4) (some 30) (by kernel_rfl) rfl (ab rfl) rfl (fun K hK=>?_)
    refine bI (v0:=.agg (puA (fs 0)).toList.toArray) (v1:=.int .i64 (j:Int)) rfl (HF.get 3 rfl) (HF.get 2 rfl) (enters_of Tryz.func21 (by kernel_rfl) rfl) ?_
    refine(mt (fs 0) s.P0 j wq (PU0.o.more MR.o)).mono ?_
    rintro e wa ⟨rfl,hl⟩
    rw[dF s.P0 hj5]
    have Ma:=hQQ (MR.o.trans hl)
    clear hl
    refine hK _ _ Ma.o ?_
    clear hK K
    replace HF:=HF.put 30 (.int .i64 ((s.P0 j).length:Int)) (by decide) rfl
    generalize hB7_30:Act.put _ _ _=A at HF⊢
    refine tqC 7 33 (.bool false) (by kernel_rfl) FINQ Ma.o HF (by exact(Or.inl ⟨(ab rfl),fun W hW=>by have h5:=(HF.getD 0 rfl);have h6:=(HF.getD 1 rfl);have h7:=LT0.o;go_simp⟩)) fun A hB8_33 HF=>?_
    refine tqM 8 34 0 rfl (.inl rfl) rfl (by kernel_rfl) FINQ Ma.o HF fun A hB9_34 HF=>?_
    refine tqC 9 35 (.pointer (some ⟨w5.heap.size,25,none⟩)) (by kernel_rfl) FINQ Ma.o HF (by exact(Or.inl ⟨(cL 8 false 34 rfl rfl (HF.at (by decide) 0 rfl)),fun W hW=>by have h5:=(HF.getD 9 rfl);go_simp⟩)) fun A hB10_35 HF=>?_
    refine tqC 10 36 (.pointer (some ⟨w5.heap.size,30,none⟩)) (by kernel_rfl) FINQ Ma.o HF (by exact(Or.inl ⟨(cL 8 false 34 rfl rfl (HF.at (by decide) 1 rfl)),fun W hW=>by have h5:=(HF.getD 0 rfl);go_simp⟩)) fun A hB11_36 HF=>?_
    refine tqC 11 37 (.agg (puA (fs 1)).toList.toArray) (by kernel_rfl) FINQ Ma.o HF (by exact mH (cL 8 false 34 rfl rfl (HF.at (by decide) 2 rfl)) 32 _ rfl w5.heap.size 30 (HF.get 0 rfl) (puA (fs 1)).toList _ (fun W hW=>(SB.o.more hW).range (n:=1) (by omega)) Tryz.underlying32 rfl (by kernel_rfl)) fun A hB12_37 HF=>?_
    refine tqC 12 38 (.int .i64 (j:Int)) (by kernel_rfl) FINQ Ma.o HF (by exact aH (cL 8 false 34 rfl rfl (HF.at (by decide) 3 rfl)) _ rfl (HF.get 14 rfl)) fun A hB13_38 HF=>?_
    refine tqC 14 40 (.pointer (some ⟨w8.heap.size,7,none⟩)) (by kernel_rfl) FINQ Ma.o HF (by exact(Or.inl ⟨(cL 8 false 34 rfl rfl (HF.at (by decide) 4 rfl)),fun W hW=>by have h5:=(HF.getD 14 rfl);go_simp⟩)) fun A hB14_40 HF=>?_
    refine tqC 15 41 (.int .i64 d.pr) (by kernel_rfl) FINQ Ma.o HF (by exact dS (cL 8 false 34 rfl rfl (HF.at (by decide) 5 rfl)) 3 _ rfl (w8.heap.size) 7 (HF.get 0 rfl) (.int .i64 d.pr) _ Tryz.underlying3 rfl (fun W hW=>by simp[World.cell?,hW.block CB.o,Cfg.cells])) fun A hB15_41 HF=>?_
    refine az (i:=13) (some 39) (by kernel_rfl) rfl (cL 8 false 34 rfl rfl (HF.at (by decide) 6 rfl)) rfl (fun K hK=>?_)
    refine bI (v0:=.agg (puA (fs 1)).toList.toArray) (v1:=.int .i64 (j:Int)) rfl (HF.get 3 rfl) (HF.get 2 rfl) (enters_of Tryz.func21 (by kernel_rfl) rfl) ?_
    refine(mt (fs 1) s.P1 j wa (PU1.o.more Ma.o)).mono ?_
    rintro e wb ⟨rfl,hl⟩
    rw[dF s.P1 hj5]
    have Mb:=hQQ (Ma.o.trans hl)
    clear hl
    refine hK _ _ Mb.o ?_
    clear hK K
    replace HF:=HF.put 39 (.int .i64 ((s.P1 j).length:Int)) (by decide) rfl
    generalize hB16_39:Act.put _ _ _=A at HF⊢
    refine tqC 16 42 (.bool false) (by kernel_rfl) FINQ Mb.o HF (by exact(Or.inl ⟨(cL 8 false 34 rfl rfl (HF.at (by decide) 7 rfl)),fun W hW=>by have h5:=(HF.getD 0 rfl);have h6:=(HF.getD 1 rfl);have h7:=LT1.o;go_simp⟩)) fun A hB17_42 HF=>?_
    refine tqC 17 43 (.bool false) (by kernel_rfl) FINQ Mb.o HF (by exact uz (ab rfl) rfl (HF.get 8 rfl) (HF.get 0 rfl)) fun A hB18_43 HF=>?_
    exact bQ (by kernel_rfl) (FINE _ _ ⟨(.pointer (some ⟨w5.heap.size,25,none⟩)),(.pointer (some ⟨w5.heap.size,25,none⟩)),(.agg (puA (fs 0)).toList.toArray),(.int .i64 (j:Int)),(.pointer (some ⟨w8.heap.size,7,none⟩)),(.int .i64 d.pr),(.int .i64 ((s.P0 j).length:Int)),(.bool false),(.bool false),(.pointer (some ⟨w5.heap.size,25,none⟩)),(.pointer (some ⟨w5.heap.size,30,none⟩)),(.agg (puA (fs 1)).toList.toArray),(.int .i64 (j:Int)),(.pointer (some ⟨w8.heap.size,7,none⟩)),(.int .i64 d.pr),(.int .i64 ((s.P1 j).length:Int)),(.bool false),by rw[←hB18_43,←hB17_42,←hB16_39,←hB15_41,←hB14_40,←hB13_38,←hB12_37,←hB11_36,←hB10_35,←hB9_34,←hB8_33,←hB7_30,←hB6_32,←hB5_31,←hB4_29,←hB3_28,←hB2_27,←hB1_26]<;>rfl,Mb.o⟩)
   ·obtain rfl:j=5:=by omega
    have d1:decide (((5:Nat):Int)<5)=false:=by simp
    obtain⟨w10,e10,hb10,m10,s10⟩:=bg wr (.cells #[.int .i64 0] 3)
    have n10:w10.setCell ⟨wr.heap.size,0,none⟩ (.int .i64 0)=w10:=zZ hb10
    obtain⟨c10,f10,_⟩:=aE hb10
    have mm:=MW.o.trans m10
    have SB10:=hQQ (SB9.o.more mm)
    have y24:=SB10.o.at24 (ku d)
    have CB10:=hQQ (mm.block CB9.o)
    have M10:=hQQ (M9.o.trans mm)
    have hwr:=MW.o.size
    have l5:=SB9.o.lt
    have l8:=ac CB9.o
    have hww:=M9.o.size
    have DO:=hQQ (NS SS.o.ok zs HLZ.o HH.o HW.o (by omega) HZ.o FRI.o w10 w5.heap.size wr.heap.size (some ⟨gz,0,none⟩) cz ⟨SB10.o,0,hb10⟩ (by omega) (WZ9.o.more mm).words)
    rw[HLZ.o] at DO
    clear mm hb10 m10 s10
    go_wp2_with fail
    refine DO.o.mono ?_
    rintro e w11 ⟨v1,v2,rfl,hi,t11⟩
    have ht:=t11.size
    have SB11:=SB10.o.keep t11 (by omega)
    have y36:=SB11.end36
    obtain⟨c11,_,_⟩:=aE hi
    have CB11:=(t11.block _ (ac CB10.o) (by omega)).trans CB10.o
    have k1:w11.cell? ⟨w8.heap.size,1,none⟩=some (.int .i64 d.cp):=by simp[World.cell?,CB11,Cfg.cells]
    have k8:w11.cell? ⟨w8.heap.size,8,none⟩=some (.int .i64 d.ca):=by simp[World.cell?,CB11,Cfg.cells]
    have k9:w11.cell? ⟨w8.heap.size,9,none⟩=some (.int .i64 d.bi):=by simp[World.cell?,CB11,Cfg.cells]
    have M11:Hq (ae w w11):=hQQ (Turned.mono (am (F:=fun _=>False) M10.o t11 (fun b e=> .inr (by omega))) (fun _ _ q=>q))
    have cp1:=SS.o.ok.cp1
    have cp2:=SS.o.ok.cp2
    have ca1:=SS.o.ok.ca1
    have ca2:=SS.o.ok.ca2
    have bi1:=SS.o.ok.bi1
    have bi2:=SS.o.ok.bi2
    have pr0:0≤d.cp * d.ca:=Int.mul_nonneg (by omega) ca1
    have pr1:d.cp * d.ca≤8 * 8:=Int.mul_le_mul cp2 ca2 ca1 (by omega)
    have q1:IntKind.i64.wrap (d.cp * d.ca)=d.cp * d.ca:=aB (by omega) (by omega)
    have q2:IntKind.i64.wrap (d.cp * d.ca+d.bi)=d.cp * d.ca+d.bi:=aB (by omega) (by omega)
    have q3:IntKind.i64.wrap (5 * (d.cp * d.ca+d.bi))=5 * (d.cp * d.ca+d.bi):=aB (by omega) (by omega)
    have dK:decide (((gH C (famC d).m).length:Int)≤5 * (d.cp * d.ca+d.bi))=true:=by simpa using KEPT.o
    clear DO hi t11 SB11 CB11 cp1 cp2 ca1 ca2 bi1 bi2 pr0 pr1 c10 f10 y24 n10 e10
    go_wp2_with fail
    refine(LIV.o _ (HSZ.o.more M11.o)).mono ?_
    rintro e w12 ⟨rfl,h12⟩
    have M12:=hQQ (M11.o.trans h12)
    clear h12
    go_wp2_with fail
    go_ret
    exact⟨rfl,M12.o⟩
open Go.ChangeShapes Go.WideShapes Go.ChangeAt Go.Deep
section
variable {H:Type}{enc:TypeId×Value→H}{P:Program}{w:World}{base:Nat}{spare:Nat→Bool}{held:Bool}
theorem rv {r:Reach}{b0:Nat}{t T:TypeId}{fs:Array Field}{v:Value}{d:DataW H}{p:List MemPlace}(hs:P.underlying t=some (.struct fs))(hone:oneCellFields P fs=true)(hC:P.cellsOf t=fs.size)
 (hT:(fs.all fun f=>f.type==T)=true) (u:P.underlying T=some (.int .i64)) (hv:Value.okWide P w r b0 t v) (h:DataW.Trod enc P w base spare held t v d p):
 ∃xs:List Int,xs.length=fs.size∧v=.agg (xs.map (Value.int .i64)).toArray∧∀x∈xs,(Lit.int .i64 x).wf=true:=by
 obtain⟨cs,rfl,hsz⟩:=okWide_struct hs hv
 obtain⟨fuel,hf⟩:=h
 obtain⟨ys,n,_,_,_,hlen,hg⟩:=DataW.trod_struct hs hf
 have key:∀j,j<cs.toList.length→∃x:Int,cs.toList[j]?=some (.int .i64 x)∧(Lit.int .i64 x).wf=true:=by
  intro j hj
  have hj':j<fs.size:=by simp at hj;omega
  have hfj:fs[j]?=some fs[j]:=by simp[hj']
  obtain⟨ho,hk⟩:=hone_of hone j _ hfj
  have ht:fs[j].type=T:=by
   have:=Array.all_eq_true.1 hT j hj'
   simpa using this
  have h1:=hg j _ hfj
  rw[ho,hk] at h1
  have hys:ys[j]?=some (ys[j]'(by omega)):=List.getElem?_eq_getElem (by omega)
  rw[hys] at h1
  obtain⟨x,e,_,wx⟩:=DataW.trod_int (by rw[ht];exact u) h1
  refine⟨x,?_,wx⟩
  have e':(cs.toList.drop j).take 1= [.int .i64 x]:=by simpa [Value.cells] using e
  rw[List.drop_eq_getElem_cons hj] at e'
  simp at e'
  rw[List.getElem?_eq_getElem hj]
  simp[e']
 have hall:∀l:List Value,(∀j,j<l.length→∃x:Int,l[j]?=some (.int .i64 x)∧(Lit.int .i64 x).wf=true)→∃xs:List Int,xs.length=l.length∧l=xs.map (Value.int .i64)∧∀x∈xs,(Lit.int .i64 x).wf=true:=by
  intro l
  induction l with
  |nil=>intro _;exact⟨[],rfl,rfl,by simp⟩
  |cons a l ih =>
   intro hl
   obtain⟨x,hx,wx⟩:=hl 0 (by simp)
   obtain⟨xs,h1,h2,h3⟩:=ih (fun j hj=>by have:=hl (j+1) (by simp;omega);simpa using this)
   simp at hx
   exact⟨x::xs,by simp[h1],by simp[hx,←h2],by intro z hz;rcases List.mem_cons.1 hz with q|q; (rw[q];exact wx);exact h3 z q⟩
 obtain⟨xs,h1,h2,h3⟩:=hall cs.toList key
 refine⟨xs,by simp at h1;omega,?_,h3⟩
 rw[←h2]
end
theorem MP {l:List Int}(h:l.length=11):∃x0 x1 x2 x3 x4 x5 x6 x7 x8 x9 x10,l= [x0,x1,x2,x3,x4,x5,x6,x7,x8,x9,x10]:=by
 match l,h with
 | [x0,x1,x2,x3,x4,x5,x6,x7,x8,x9,x10],_=>exact⟨x0,x1,x2,x3,x4,x5,x6,x7,x8,x9,x10,rfl⟩
end Go.Proofs.YtddmeghbmdfgeaaGreatDoor
