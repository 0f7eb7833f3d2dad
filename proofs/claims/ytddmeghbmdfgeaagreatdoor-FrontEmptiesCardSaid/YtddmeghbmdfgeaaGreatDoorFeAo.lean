/-
  Layer 14's example holds.
-/
import Derived.Test.YtddmeghbmdfgeaaGreatDoorFeAn
import Derived.Test.YtddmeghbmdfgeaaGreatDoorFeAc
import Derived.Test.YtddmeghbmdfgeaaGreatDoorFeAm
import Derived.Test.YtddmeghbmdfgeaaGreatDoorFeAa
import Derived.ProofKit
import Derived.Deep.Fields
set_option maxRecDepth 100000
set_option maxHeartbeats 8000000
set_option linter.all false
namespace Go.Proofs.YtddmeghbmdfgeaaGreatDoor
open Go.RowKit Go.Sort Go.Maps Go.Shelf
theorem AW {w:World}{g:Nat}{v:Value}{t:TypeId}{fr:Nat×Nat}(h:w.heap[g]?=some (.cells #[v] t fr)):w.setCell ⟨g,0,none⟩ v=w:=by
 unfold World.setCell
 have e:(w.heap.modify g fun x=>match x with| .cells c elem frozen=> .cells (if((none:Option Nat)).isSome then c else c.setIfInBounds 0 v) elem frozen|o=>o)=w.heap:=by
  apply Array.ext
  ·simp
  ·intro i h1 h2
   rw[Array.getElem_modify]
   split
   ·rename_i q
    subst q
    have:w.heap[g]=.cells #[v] t fr:=by rw[Array.getElem?_eq_getElem h2] at h;simpa using h
    rw[this]
    simp
   ·rfl
 show World.mk _ _ _ _ _=_
 exact congrArg (fun h=>World.mk h w.tape w.drawn w.os w.output) e
theorem J3 (w:World)(p q:Int):∃w1,w.alloc (.cells #[.int .i64 p,.int .i64 q] 3)=w1∧Rw w.heap.size w1 (.slice (some ⟨w.heap.size,0,none⟩) 2 2) [p,q]∧ae w w1∧w1.heap.size=w.heap.size+1:=by
 refine⟨_,rfl,⟨rfl,.inr ⟨_,2,_,rfl,Nat.le_refl _,bh w _,Nat.le_refl _,by simp[maxLen],rfl,rfl⟩⟩,(ae.refl w).alloc _,by simp⟩
theorem wU {o:Oper}{a:Act}{w:World}{K:Act→World→Prop}{Q:Exit→Act→World→Prop}{x y:Operand}(ho:o.op=.buildSlice 29 2 #[(0,x),(1,y)]){p q:Int}(hx:a.eval x=.int .i64 p)(hy:a.eval y=.int .i64 q)(h:K (a.put o.dst (.slice (some ⟨w.heap.size,0,none⟩) 2 2)) (w.alloc (.cells #[.int .i64 p,.int .i64 q] 3))):Oper.wp Tryz.prog o a w K Q:=by
 unfold Oper.wp Oper.upon execOp
 simp only[ho]
 generalize a.eval=ρ at hx hy⊢
 go_simp
 exact h
def sj:Cfg:=⟨aV 0 1 64,aV 0 1 8,aV 0 1 256,aV 0 1 64,aV 0 0 16,aV 0 0 64,aV 0 1 1099511627776,aV 0 1 8,aV 0 0 8,aV 0 0 16,aV 0 1 8⟩
theorem Dr:sj.Ok:=DI 0 0 0 0 0 0 0 0 0 0 0
def Mn:Cfg:=⟨2,2,2,2,0,0,1,2,0,0,2⟩
theorem Ds:kW sj=Mn:=by rfl
def TkT:Type:=∀(d:Cfg) (n bt:Nat),d.Ok→cF d.pg d.st n→(n:Int)=d.words→n≤10000→qK d n bt
theorem Dt (TT:TkT)(bt:Nat)(w:World)(hs:df bt w):Calls Tryz.prog 7 #[] w (aP w (.bool true)):=by
 have SM:=hQQ (vJ Dr 0 0 0 0 0 0 0 0 0 0 0 _ w (fun W=>ze 0 0 0 0 0 0 0 0 0 0 0 W (by omega) (by omega) (by omega) (by omega) (by omega) (by omega) (by omega) (by omega) (by omega) (by omega) (by omega)) rfl)
 have D0:Hq ((kW sj).cells.setIfInBounds 10 (.int .i64 3)=dA.cells):=hQQ (by rw[Ds];rfl)
 have D9:Hq (dA.cells.setIfInBounds 7 (.int .i64 2)=dA.cells):=hQQ (by rfl)
 generalize kW sj=d at SM D0
 have R5:=hQQ ie
 have hc4:=gW d
 have HS:=hQQ hs
 have l0:=hs.lt0
 have lb:=hs.lt
 have DOA:=hQQ (GI (TT dA 320 bt ie GF (by rw[pU]) (by omega)))
 clear hs TT
 go_enter Tryz.func7,Tryz.ntmps7
 go_wp2_with fail
 refine(SM.o).mono ?_
 rintro e w1 ⟨rfl,m1⟩
 have MA:=hQQ m1
 have hs1:=m1.size
 have C2:=aY w1 #[.int .i64 0,.int .i64 0,.int .i64 0,.int .i64 0,.int .i64 0,.int .i64 0,.int .i64 0,.int .i64 0,.int .i64 0,.int .i64 0,.int .i64 0] 23
 have C3:=setRow_heap _ _ _ d.cells _ _ C2
 have M5:=MA.o.trans (((ae.refl w1).alloc (.cells #[.int .i64 0,.int .i64 0,.int .i64 0,.int .i64 0,.int .i64 0,.int .i64 0,.int .i64 0,.int .i64 0,.int .i64 0,.int .i64 0,.int .i64 0] 23)).setRow w1.heap.size d.cells (Nat.le_refl _))
 obtain⟨w5,e5⟩:∃w5,(w1.alloc (.cells #[.int .i64 0,.int .i64 0,.int .i64 0,.int .i64 0,.int .i64 0,.int .i64 0,.int .i64 0,.int .i64 0,.int .i64 0,.int .i64 0,.int .i64 0] 23)).setRow w1.heap.size d.cells=w5:=⟨_,rfl⟩
 rw[e5] at C3 M5
 have C2:=hQQ C2
 have C3:=hQQ C3
 have M5:=hQQ M5
 have E5:=hQQ e5
 clear m1 SM e5
 go_wp2_with (first
  |(refine wpList_store_row rfl 23 _ _ rfl w1.heap.size d.cells rfl rfl 23 _ C2.o (by kernel_rfl) rfl hc4 ?_;rw[E5.o])
  |(refine gV rfl 3 _ _ rfl rfl w1.heap.size 10 rfl 3 rfl _ _ C3.o (by simp[Cfg.cells]) (by kernel_rfl) ?_;rw[D0.o];intro w6 hb6 ht6;have HB6:=hQQ hb6;have HM6:Hq (ae w w6):=hQQ (Turned.mono (am (F:=fun _=>False) M5.o ht6 (fun k q=> .inr (by omega))) (fun _ _ q=>q));clear hb6 ht6)
  |(refine gV rfl 3 _ _ rfl rfl w1.heap.size 7 rfl 2 rfl _ _ HB6.o (by simp[Cfg.cells]) (by kernel_rfl) ?_;rw[D9.o];intro w66 hb6 ht6;have HB:=hQQ hb6;have HM:Hq (ae w w66):=hQQ (Turned.mono (am (F:=fun _=>False) HM6.o ht6 (fun k q=> .inr (by omega))) (fun _ _ q=>q));clear hb6 ht6)
  |(refine sw rfl rfl rfl HB.o (by kernel_rfl) ?_))
 refine(Pb R5.o _).mono ?_
 rintro e w7 ⟨rfl,m7⟩
 have D1:=aY w7 gd 28
 have D2:=setRow_heap (w7.alloc (.cells gd 28)) w7.heap.size _ dA.arr _ _ D1
 have M7:=HM.o.trans m7
 have M8:ae w ((w7.alloc (.cells gd 28)).setRow w7.heap.size dA.arr):=(M7.alloc _).setRow _ _ M7.size
 have s8:((w7.alloc (.cells gd 28)).setRow w7.heap.size dA.arr).heap.size=w7.heap.size+1:=by simp
 have hs7:=M7.size
 have D1:=hQQ D1
 obtain⟨w8,e8⟩:∃w8,(w7.alloc (.cells gd 28)).setRow w7.heap.size dA.arr=w8:=⟨_,rfl⟩
 rw[e8] at D2 M8 s8
 obtain⟨w9,e9,ha,m9,s9⟩:=aZ w8 (.cells #[.int .i64 0] 3)
 have n9:w9.setCell ⟨w8.heap.size,0,none⟩ (.int .i64 0)=w9:=AW ha
 obtain⟨c9,f9,k9⟩:=aC ha
 obtain⟨w10,e10,hp,m10,s10⟩:=aZ w9 (.cells #[.slice none 0 0,.slice none 0 0,.slice none 0 0,.slice none 0 0,.slice none 0 0] 32)
 have M13:=hQQ ((M8.trans m9).trans m10)
 have HD:=hQQ (m10.block (m9.block D2))
 have HA:=hQQ (m10.block ha)
 rw[s9] at hp
 have HP:=hQQ hp
 have l7:w7.heap.size<w8.heap.size:=by omega
 have l9:w8.heap.size<w9.heap.size:=by omega
 clear m7 HM HB C3 M5 M7 M8 ha m9 hc4 D2 s8 hp m10 HB6 HM6
 go_wp2_with (first
  |(refine wpList_store_row rfl 28 _ _ rfl w7.heap.size dA.arr rfl rfl 28 _ D1.o (by kernel_rfl) rfl (na dA) ?_)
  |(refine aI rfl rfl rfl HD.o (by kernel_rfl) ?_))
 refine(xA R5.o _).mono ?_
 rw[pU]
 rintro e w14 ⟨rfl,m14⟩
 obtain⟨w15,hmk,N1,m15,s15⟩:∃w15,(Instr.makeSlice 29 (.int .i64 320) (.int .i64 320)).run Tryz.prog w14=.ok (.slice (some ⟨w14.heap.size,0,none⟩) 320 320) w15∧w15.heap[w14.heap.size]?=some (.cells (oT (cL 320)) 3 (0,0))∧ae w14 w15∧w15.heap.size=w14.heap.size+1 :=
  ⟨_,sX 320 (by omega) w14,aY w14 _ _,(ae.refl _).alloc _,by simp⟩
 have mm:=m14.trans m15
 have M15:=hQQ (M13.o.trans mm)
 have DO:=hQQ (DOA.o w15 w7.heap.size w8.heap.size (w8.heap.size+1) (some ⟨w14.heap.size,0,none⟩) 320 ⟨mm.block HD.o,⟨_,mm.block HA.o⟩,⟨fun _=> .slice none 0 0,mm.block HP.o⟩,HS.o.more M15.o⟩ ⟨by omega,by omega,by omega,by omega,by omega,by omega,by omega⟩ (Fa _ _ _ N1))
 have hw8:w.heap.size≤w8.heap.size:=by omega
 clear m14 m15 mm N1 s15 HD HA HP M13 e8 e9 e10 n9 c9 f9 D1 s9 s10 DOA
 go_wp2_with fail
 refine DO.o.mono ?_
 rintro e w16 ⟨v1,v2,rfl,h1,⟨hx1,f,P,hx2,hx3,hx4,hx5,hx6⟩,ht⟩
 have LB:=hQQ h1
 have IB:=hQQ hx1
 have PB:=hQQ hx2
 have PU:=hQQ hx3
 have PQ:Hq (uR P 0= [257,258]):=hQQ (by rw[←hx5];unfold uR;rw[if_pos (by decide)];rfl)
 have PL:=hQQ hx6
 have FIN:=hQQ (Turned.mono (am (F:=fun _=>False) M15.o ht (fun k q=> .inr (by omega))) (fun _ _ q=>q))
 have US:Hq (∀W,Calls Tryz.prog 14 #[.agg dA.arr] W (aP W (.int .i64 256))):=hQQ fun W=>by rw[←GB];exact Ms R5.o W
 clear h1 hx1 hx2 hx3 hx4 hx5 hx6 ht DO M15
 go_wp2_with fail
 refine aO (ae w16) (by kernel_rfl) ?_
 change dh _ _ _ _ _ _ _ _ (w16.drewN 1)
 have MR:Hq (ae w16 (w16.drewN 1)):=hQQ ((ae.refl w16).drewN 1)
 generalize w16.drewN 1=wq at MR⊢
 generalize hA:Act.mk _ _=A
 have HF:AG 49 A [(2,.pointer (some ⟨w7.heap.size,0,none⟩)),(3,.int .i64 0),(4,.pointer (some ⟨w8.heap.size,0,none⟩)),(5,.pointer (some ⟨w8.heap.size+1,0,none⟩)),(8,.int .i64 0)]:=by
  rw[←hA];try simp only[pts,List.foldl]
  refine⟨⟨Nat.le_of_ble_eq_true rfl,rfl⟩,?_⟩
  intro z hz;simp only[List.mem_cons,List.not_mem_nil,or_false] at hz;rcases hz with rfl|rfl|rfl|rfl|rfl<;>rfl
 refine bJ (fun aa W=>∃(u27 u28 u29 u30 u31 u32 u33 u34 u35 u36 u37 u38 u39 u40 u42 u43 u44 u45 u41 u46 u47 u48:Value),(aa=(pts A [(27,u27),(28,u28),(29,u29),(30,u30),(31,u31),(32,u32),(33,u33),(34,u34),(35,u35),(36,u36),(37,u37),(38,u38),(39,u39),(40,u40),(42,u42),(43,u43),(44,u44),(45,u45),(41,u41),(46,u46),(47,u47),(48,u48),(0,.bool true)])∨aa=(pts A [(27,u27),(28,u28),(29,u29),(30,u30),(31,u31),(32,u32),(33,u33),(34,u34),(35,u35),(36,u36),(37,u37),(38,u38),(39,u39),(40,u40),(42,u42),(43,u43),(44,u44),(45,u45),(46,u46),(41,u41),(47,u47),(48,u48),(0,.bool true)]))∧ae w16 W) (fun _=>False) [] (fun a W hd h=>h.elim) (fun _ _ _ _ _ h=>h) ?_ ?_
 ·skip
  rintro a9 wz ⟨u27,u28,u29,u30,u31,u32,u33,u34,u35,u36,u37,u38,u39,u40,u42,u43,u44,u45,u41,u46,u47,u48,hn,mz⟩
  have E:(pts A [(27,u27),(28,u28),(29,u29),(30,u30),(31,u31),(32,u32),(33,u33),(34,u34),(35,u35),(36,u36),(37,u37),(38,u38),(39,u39),(40,u40),(42,u42),(43,u43),(44,u44),(45,u45),(46,u46),(41,u41),(47,u47),(48,u48),(0,.bool true)])=(pts A [(27,u27),(28,u28),(29,u29),(30,u30),(31,u31),(32,u32),(33,u33),(34,u34),(35,u35),(36,u36),(37,u37),(38,u38),(39,u39),(40,u40),(42,u42),(43,u43),(44,u44),(45,u45),(41,u41),(46,u46),(47,u47),(48,u48),(0,.bool true)]):=by rw[←hA];kernel_rfl
  have hn:a9=(pts A [(27,u27),(28,u28),(29,u29),(30,u30),(31,u31),(32,u32),(33,u33),(34,u34),(35,u35),(36,u36),(37,u37),(38,u38),(39,u39),(40,u40),(42,u42),(43,u43),(44,u44),(45,u45),(41,u41),(46,u46),(47,u47),(48,u48),(0,.bool true)]):=by
   rcases hn with q|q
   ·exact q
   ·exact q.trans E
  subst hn
  rw[←hA];try simp only[pts,List.foldl]
  have F17:=hQQ (FIN.o.trans mz)
  clear HF hA MR E hn mz
  go_simp
  go_wp2_with fail
  go_ret
  exact⟨rfl,F17.o⟩
 intro QQ FINE FIND FINQ
 clear hA
 refine tqM 0 27 1 rfl (.inl rfl) rfl (by kernel_rfl) FINQ MR.o HF fun A β1 HF=>?_
 refine tqC 1 28 (.bool true) (by kernel_rfl) FINQ MR.o HF (by exact(Or.inl ⟨(ab rfl),fun W hW=>by have h5:=(HF.getD 0 rfl);go_simp⟩)) fun A β2 HF=>?_
 refine tqM 2 29 0 rfl (.inl rfl) rfl (by kernel_rfl) FINQ MR.o HF fun A β3 HF=>?_
 refine tqC 3 30 (.int .i64 0) (by kernel_rfl) FINQ MR.o HF (by exact cx (dD 2 true 29 rfl rfl (HF.at (by decide) 0 rfl)) _ rfl (HF.get 7 rfl)) fun A β4 HF=>?_
 refine tqC 4 31 (.bool true) (by kernel_rfl) FINQ MR.o HF (by exact(Or.inl ⟨(dD 2 true 29 rfl rfl (HF.at (by decide) 1 rfl)),fun W hW=>by have h5:=(HF.getD 0 rfl);go_simp⟩)) fun A β5 HF=>?_
 refine tqC 5 32 (.bool true) (by kernel_rfl) FINQ MR.o HF (by exact ik (ab rfl) rfl (HF.get 2 rfl) (HF.get 0 rfl)) fun A β6 HF=>?_
 refine tqM 6 33 0 rfl (.inl rfl) rfl (by kernel_rfl) FINQ MR.o HF fun A β7 HF=>?_
 refine tqC 7 34 (.int .i64 256) (by kernel_rfl) FINQ MR.o HF (by exact jM (dD 6 true 33 rfl rfl (HF.at (by decide) 0 rfl)) _ rfl (w8.heap.size) (HF.get 9 rfl) _ (fun W hW=>hW.block IB.o)) fun A β8 HF=>?_
 refine tqC 8 35 (.agg dA.arr) (by kernel_rfl) FINQ MR.o HF (by exact aD (dD 6 true 33 rfl rfl (HF.at (by decide) 1 rfl)) 28 _ rfl (w7.heap.size) (HF.get 8 rfl) 28 _ _ _ (fun W hW=>hW.block LB.o) Tryz.underlying28 rfl (by kernel_rfl)) fun A β9 HF=>?_
 refine bF (i:=9) (some 36) (by kernel_rfl) rfl (dD 6 true 33 rfl rfl (HF.at (by decide) 2 rfl)) rfl (fun K hK=>?_)
 refine i6 (v0:=.agg dA.arr) rfl (HF.get 0 rfl) (enters_of Tryz.func14 (by kernel_rfl) rfl) ?_
 refine(US.o wq).mono ?_
 rintro e wa ⟨rfl,hl⟩
 have Na:=hQQ hl
 have Ma:=hQQ (MR.o.trans hl)
 clear hl
 refine hK _ _ Ma.o ?_
 clear hK K
 replace HF:=HF.put 36 (.int .i64 256) (by decide) rfl
 generalize β10:Act.put _ _ _=A at HF⊢
 refine tqC 10 37 (.bool true) (by kernel_rfl) FINQ Ma.o HF (by exact qZ (dD 6 true 33 rfl rfl (HF.at (by decide) 3 rfl)) rfl (HF.get 2 rfl) (HF.get 0 rfl) true (by simp)) fun A β11 HF=>?_
 refine tqC 11 38 (.bool true) (by kernel_rfl) FINQ Ma.o HF (by exact ik (ab rfl) rfl (HF.get 4 rfl) (HF.get 0 rfl)) fun A β12 HF=>?_
 refine tqM 12 39 0 rfl (.inl rfl) rfl (by kernel_rfl) FINQ Ma.o HF fun A β13 HF=>?_
 refine tqC 13 40 (.agg (puA f)) (by kernel_rfl) FINQ Ma.o HF (by exact aD (dD 12 true 39 rfl rfl (HF.at (by decide) 0 rfl)) 32 _ rfl (w8.heap.size+1) (HF.get 16 rfl) 32 _ _ _ (fun W hW=>hW.block PB.o) Tryz.underlying32 rfl (by kernel_rfl)) fun A β14 HF=>?_
 refine tqC 15 42 (.int .i64 256) (by kernel_rfl) FINQ Ma.o HF (by exact jM (dD 12 true 39 rfl rfl (HF.at (by decide) 1 rfl)) _ rfl (w8.heap.size) (HF.get 16 rfl) _ (fun W hW=>hW.block IB.o)) fun A β15 HF=>?_
 refine tqC 16 43 (.int .i64 257) (by kernel_rfl) FINQ Ma.o HF (by exact eV (dD 12 true 39 rfl rfl (HF.at (by decide) 2 rfl)) rfl (HF.get 0 rfl) rfl _ (by decide)) fun A β16 HF=>?_
 refine tqC 17 44 (.int .i64 256) (by kernel_rfl) FINQ Ma.o HF (by exact jM (dD 12 true 39 rfl rfl (HF.at (by decide) 3 rfl)) _ rfl (w8.heap.size) (HF.get 18 rfl) _ (fun W hW=>hW.block IB.o)) fun A β17 HF=>?_
 refine tqC 18 45 (.int .i64 258) (by kernel_rfl) FINQ Ma.o HF (by exact eV (dD 12 true 39 rfl rfl (HF.at (by decide) 4 rfl)) rfl (HF.get 0 rfl) rfl _ (by decide)) fun A β18 HF=>?_
 -- the list,and the row
 refine kl (i:=14) (j:=19) (some 41) (some 46) (by kernel_rfl) rfl rfl (dD 12 true 39 rfl rfl (HF.at (by decide) 5 rfl)) (dD 12 true 39 rfl rfl (HF.at (by decide) 5 rfl)) rfl rfl (fun K hK=>?_) (fun K hK=>?_)
 ·refine bH (v0:=.agg (puA f)) (v1:=(.int .i64 0)) rfl (HF.get 4 rfl) rfl (enters_of Tryz.func34 (by kernel_rfl) rfl) ?_
  refine(J1 f P 0 wa (PU.o.more Ma.o) PL.o).mono ?_
  rintro e wb ⟨vl,rfl,rl,hl⟩
  rw[PQ.o] at rl
  obtain⟨al,cl,rfl,_⟩:=rl.reads
  have RL:=hQQ rl
  have Nb:=hQQ hl
  have Mb:=hQQ (Ma.o.trans hl)
  clear rl hl
  refine hK _ _ Mb.o ?_
  clear hK K
  replace HF:=HF.put 41 (.slice al 2 cl) (by decide) rfl
  generalize β19:Act.put _ _ _=A at HF⊢
  refine bF (i:=19) (some 46) (by kernel_rfl) rfl (dD 12 true 39 rfl rfl (HF.at (by decide) 6 rfl)) rfl (fun K hK=>?_)
  refine wU rfl (HF.get 3 rfl) (HF.get 1 rfl) ?_
  obtain⟨wc,ewc,rwwc,mwc,swc⟩:=J3 wb 257 258
  rw[ewc]
  have RB:=hQQ rwwc
  have Nc:=hQQ mwc
  have Mc:=hQQ (Mb.o.trans mwc)
  clear rwwc mwc ewc swc
  refine hK _ _ Mc.o ?_
  clear hK K
  replace HF:=HF.put 46 (.slice (some ⟨wb.heap.size,0,none⟩) 2 2) (by decide) rfl
  generalize β20:Act.put _ _ _=A at HF⊢
  refine bF (i:=20) (some 47) (by kernel_rfl) rfl (dD 12 true 39 rfl rfl (HF.at (by decide) 7 rfl)) rfl (fun K hK=>?_)
  refine bH (v0:=.slice al 2 cl) (v1:=.slice (some ⟨wb.heap.size,0,none⟩) 2 2) rfl (HF.get 1 rfl) (HF.get 0 rfl) (enters_of Tryz.func35 (by kernel_rfl) rfl) ?_
  refine(vG [257,258] _ _ _ _ wc (by simp) (RL.o.more Nc.o) (RB.o)).mono ?_
  rintro e wz ⟨rfl,hl⟩
  have Nz:=hQQ hl
  have Mz:=hQQ (Mc.o.trans hl)
  clear hl
  refine hK _ _ Mz.o ?_
  clear hK K
  replace HF:=HF.put 47 (.bool true) (by decide) rfl
  generalize β21:Act.put _ _ _=A at HF⊢
  refine tqC 21 48 (.bool true) (by kernel_rfl) FINQ Mz.o HF (by exact ik (ab rfl) rfl (HF.get 8 rfl) (HF.get 0 rfl)) fun A β22 HF=>?_
  refine tqM 22 0 0 rfl (.inr rfl) rfl (by kernel_rfl) FINQ Mz.o HF fun A β23 HF=>?_
  exact bR (by kernel_rfl) (FINE _ _ ⟨(.int .i64 0),(.bool true),(.bool true),(.int .i64 0),(.bool true),(.bool true),(.bool true),(.int .i64 256),(.agg dA.arr),(.int .i64 256),(.bool true),(.bool true),(.bool true),(.agg (puA f)),(.int .i64 256),(.int .i64 257),(.int .i64 256),(.int .i64 258),(.slice al 2 cl),(.slice (some ⟨wb.heap.size,0,none⟩) 2 2),(.bool true),(.bool true),Or.inl (by rw[← β23,← β22,← β21,← β20,← β19,← β18,← β17,← β16,← β15,← β14,← β13,← β12,← β11,← β10,← β9,← β8,← β7,← β6,← β5,← β4,← β3,← β2,← β1]<;>rfl),Mz.o⟩)
 ·refine wU rfl (HF.get 2 rfl) (HF.get 0 rfl) ?_
  obtain⟨wb,ewb,rwwb,mwb,swb⟩:=J3 wa 257 258
  rw[ewb]
  have RB:=hQQ rwwb
  have Nb:=hQQ mwb
  have Mb:=hQQ (Ma.o.trans mwb)
  clear rwwb mwb ewb swb
  refine hK _ _ Mb.o ?_
  clear hK K
  replace HF:=HF.put 46 (.slice (some ⟨wa.heap.size,0,none⟩) 2 2) (by decide) rfl
  generalize β19:Act.put _ _ _=A at HF⊢
  refine bF (i:=14) (some 41) (by kernel_rfl) rfl (dD 12 true 39 rfl rfl (HF.at (by decide) 6 rfl)) rfl (fun K hK=>?_)
  refine bH (v0:=.agg (puA f)) (v1:=(.int .i64 0)) rfl (HF.get 5 rfl) rfl (enters_of Tryz.func34 (by kernel_rfl) rfl) ?_
  refine(J1 f P 0 wb (PU.o.more Mb.o) PL.o).mono ?_
  rintro e wc ⟨vl,rfl,rl,hl⟩
  rw[PQ.o] at rl
  obtain⟨al,cl,rfl,_⟩:=rl.reads
  have RL:=hQQ rl
  have Nc:=hQQ hl
  have Mc:=hQQ (Mb.o.trans hl)
  clear rl hl
  refine hK _ _ Mc.o ?_
  clear hK K
  replace HF:=HF.put 41 (.slice al 2 cl) (by decide) rfl
  generalize β20:Act.put _ _ _=A at HF⊢
  refine bF (i:=20) (some 47) (by kernel_rfl) rfl (dD 12 true 39 rfl rfl (HF.at (by decide) 7 rfl)) rfl (fun K hK=>?_)
  refine bH (v0:=.slice al 2 cl) (v1:=.slice (some ⟨wa.heap.size,0,none⟩) 2 2) rfl (HF.get 0 rfl) (HF.get 1 rfl) (enters_of Tryz.func35 (by kernel_rfl) rfl) ?_
  refine(vG [257,258] _ _ _ _ wc (by simp) (RL.o) (RB.o.more Nc.o)).mono ?_
  rintro e wz ⟨rfl,hl⟩
  have Nz:=hQQ hl
  have Mz:=hQQ (Mc.o.trans hl)
  clear hl
  refine hK _ _ Mz.o ?_
  clear hK K
  replace HF:=HF.put 47 (.bool true) (by decide) rfl
  generalize β21:Act.put _ _ _=A at HF⊢
  refine tqC 21 48 (.bool true) (by kernel_rfl) FINQ Mz.o HF (by exact ik (ab rfl) rfl (HF.get 8 rfl) (HF.get 0 rfl)) fun A β22 HF=>?_
  refine tqM 22 0 0 rfl (.inr rfl) rfl (by kernel_rfl) FINQ Mz.o HF fun A β23 HF=>?_
  exact bR (by kernel_rfl) (FINE _ _ ⟨(.int .i64 0),(.bool true),(.bool true),(.int .i64 0),(.bool true),(.bool true),(.bool true),(.int .i64 256),(.agg dA.arr),(.int .i64 256),(.bool true),(.bool true),(.bool true),(.agg (puA f)),(.int .i64 256),(.int .i64 257),(.int .i64 256),(.int .i64 258),(.slice al 2 cl),(.slice (some ⟨wa.heap.size,0,none⟩) 2 2),(.bool true),(.bool true),Or.inr (by rw[← β23,← β22,← β21,← β20,← β19,← β18,← β17,← β16,← β15,← β14,← β13,← β12,← β11,← β10,← β9,← β8,← β7,← β6,← β5,← β4,← β3,← β2,← β1]<;>rfl),Mz.o⟩)
def tkT:TkT:=fun d n bt R H hw hn=>PA R H hw hn
def AX (us pg st:Int):Nat→Int→Int→Prg Int
 | 0,_,t=>ay t
 |m+1,a,t=>aq (tE us pg st a) fun x=>AX us pg st m (a+1) (if x.2 then t+1 else t)
def GJ (us pg st:Int)(ws:List Int):Nat→Int→Int→Int
 | 0,_,t=>t
 |m+1,a,t=>GJ us pg st ws m (a+1) (if(wl us pg st a ws).2 then t+1 else t)
theorem wV (us pg st:Int):∀m a t,bg (AX us pg st m a t)
 | 0,_,t=>ah t
 |m+1,a,t=>ak (Cl _ _ _ _) fun x=>wV us pg st m _ _
section
variable {pg st:Int}{n:Nat}(H:cF pg st n)
include H
theorem AY (us:Int):∀(m:Nat) (a t:Int),0≤t→bK n (fun x:Int=>0≤x∧x≤t+m) (AX us pg st m a t)
 | 0,_,t,ht=>ai n ⟨ht,by omega⟩
 |m+1,a,t,ht=>ar (vV H us a) fun x _=>cW (AY us m (a+1) (if x.2 then t+1 else t) (by split<;>omega)) fun y hy=>⟨hy.1,by have:=hy.2;split at this<;>omega⟩
theorem A0 (us:Int):∀m a t,bG n (AX us pg st m a t) (fun ws=>(GJ us pg st ws m a t,ws))
 | 0,_,t=>au n t
 |m+1,a,t=>aU (aA (FQ H us a) fun x=>A0 us m (a+1) (if x.2 then t+1 else t)) fun ws _=>rfl
end
theorem wW (us pg st:Int)(ws:List Int):∀(m k:Nat) (t:Int),GJ us pg st ws m (us+k) (t+fJ us pg st ws k)=t+fJ us pg st ws (k+m)
 | 0,k,t=>rfl
 |m+1,k,t=>by
  unfold GJ
  have e:=wW us pg st ws m (k+1) t
  rw[show k+(m+1)=k+1+m by omega,←e,show us+((k+1:Nat):Int)=us+k+1 by omega]
  congr 1
  rw[xU]
  rw[show fJ us pg st ws (k+1)=fJ us pg st ws k+(if(tkC us pg st ws (us+k)).isSome then 1 else 0) from rfl]
  cases tkC us pg st ws (us+k) with
  |none=>simp
  |some q=>simp;omega
theorem Mo (us pg st:Int)(ws:List Int)(m:Nat):GJ us pg st ws m us 0=fJ us pg st ws m:=by
 have:=wW us pg st ws m 0 0
 simpa [fJ] using this
theorem GL {pg st:Int}{ws:List Int}(hk:∀p,af pg p=true→aX pg st ws p=0):zM pg st ws=0:=by
 have:∀(m:Nat) (q s:Int),0≤q→q+m≤pg→tI pg st m q s ws=s:=by
  intro m
  induction m with
  |zero=>intro q s _ _;rfl
  |succ m ih =>
   intro q s h0 h1
   unfold tI
   rw[if_pos (hk q (by simp[af];omega)),Int.add_zero]
   exact ih (q+1) s (by omega) (by omega)
 by_cases h:0≤pg
 ·exact this pg.toNat 0 0 (by omega) (by omega)
 ·unfold zM
  rw[show pg.toNat=0 by omega];rfl
def qO (pg st:Int)(o:Nat)(r:Bool):Prg Bool:=if r then(if 0<o then ay true else aq (lY pg st) fun u=>ay (u==0)) else ay false
def Du (d:Cfg)(o:Nat)(x y ks:List Int):Prg Bool:=aq (AX d.us d.pg d.st (32 * d.pg).toNat d.us 0) fun t=>qO d.pg d.st o ((x.length+y.length+ks.length==0) && t==o)
section
variable {d:Cfg}{n bt:Nat}(T:qK d n bt)
def emP (s:FSt):Prg Bool:=aq (T.flP s.P0) fun x=>aq (T.flP s.P1) fun y=>aq T.drP fun _=>aq (mU (famL (famC d) (famC d).m) []) fun ks=>Du d s.O.length (iC x.2 5) (iC y.2 5) ks
theorem GM (pg st:Int)(o:Nat)(r:Bool):bg (qO pg st o r):=by
 unfold qO
 split
 ·split
  ·exact ah _
  ·exact ak (BJ _ _) fun _=>ah _
 ·exact ah _
theorem GN (d:Cfg)(o:Nat)(x y ks:List Int):bg (Du d o x y ks):=ak (wV _ _ _ _ _ _) fun t=>GM _ _ _ _
theorem J4 (s:FSt):bg (emP T s):=ak (T.flS _) fun x=>ak (T.flS _) fun y=>ak T.drS fun _=>ak (uP _ _) fun ks=>GN d _ _ _ _
variable (R:d.Ok)(H:cF d.pg d.st n)(hw:(n:Int)=d.words)(hn:n≤10000)
include R H hw hn
theorem J5 (o:Nat)(r:Bool):bK n (fun _=>True) (qO d.pg d.st o r):=by
 unfold qO
 split
 ·split
  ·exact ai n trivial
  ·exact ar (vN H.toPgIn) fun _ _=>ai n trivial
 ·exact ai n trivial
theorem J6 (o:Nat)(x y ks:List Int):bK n (fun _=>True) (Du d o x y ks):=ar (AY H _ _ _ _ (by omega)) fun t _=>J5 R H hw hn _ _
theorem Ew {s:FSt}(h:OkS d s):bK n (fun _=>True) (emP T s):=ar (T.flG _ h.l0) fun x _=>ar (T.flG _ h.l1) fun y _=>ar T.drG fun _ _=>ar (qN hn _ _ (oK R H hw hn)) fun ks _=>J6 R H hw hn _ _ _ _
theorem J7 (o:Nat)(r:Bool):bG n (qO d.pg d.st o r) (fun ws=>((r && (decide (0<o) ||zM d.pg d.st ws==0)),ws)):=by
 unfold qO
 cases r with
 |false=>exact au n false
 |true =>
  by_cases h:0<o
  ·rw[if_pos rfl,if_pos h]
   exact aU (au n true) fun ws _=>by simp[h]
  ·rw[if_pos rfl,if_neg h]
   exact aU (aA (Fx H.toPgIn) fun u=>au n (u==0)) fun ws _=>by simp[h]
theorem Mp {s:FSt}(h:OkS d s):bG n (emP T s) (fun ws=>((((lL (famL (famC d) (famC d).m) (gh d.us d.pg d.st (famC d) (famC d).m (ed d.us d.pg d.st s.P1 (ed d.us d.pg d.st s.P0 ws)))).length==0) && GJ d.us d.pg d.st (gh d.us d.pg d.st (famC d) (famC d).m (ed d.us d.pg d.st s.P1 (ed d.us d.pg d.st s.P0 ws))) (32 * d.pg).toNat d.us 0==(s.O.length:Int)) && (decide (0<s.O.length) ||zM d.pg d.st (gh d.us d.pg d.st (famC d) (famC d).m (ed d.us d.pg d.st s.P1 (ed d.us d.pg d.st s.P0 ws)))==0),gh d.us d.pg d.st (famC d) (famC d).m (ed d.us d.pg d.st s.P1 (ed d.us d.pg d.st s.P0 ws)))):=by
 refine aU (aA (T.flF _ h.l0) fun x=>aA (T.flF _ h.l1) fun y=>aA T.drF fun _=>aA (wQ (famL (famC d) (famC d).m) [] (oK R H hw hn)) fun ks=>aA (A0 H d.us (32 * d.pg).toNat d.us 0) fun t=>J7 R H hw hn s.O.length (((iC x.2 5).length+(iC y.2 5).length+ks.length==0) && t==s.O.length)) fun ws _=>?_
 have e:(iC (fun _=>([]:List Int)) 5).length=0:=rfl
 simp only[e,List.nil_append,Nat.zero_add]
theorem Po {s:FSt}(h:OkS d s){zs:List Int}(hlz:zs.length=n)(hz:OkW zs)(Fq9:FrS d n s zs):∃xs K,doP (fun K=>fd (emP T s (look K) [])) zs (zs.length+1) []=some (xs,K)∧∀K,jE zs K→∀y D,emP T s (look K) []=.ok y D→y=true:=by
 subst hlz
 obtain⟨K,hK,_,hans⟩:=DE (J4 T s) (Ew T R H hw hn h) hz (Mp T R H hw hn h)
 refine⟨_,K,hK,fun K hK y D e=>?_⟩
 rw[hans K hK y D e]
 obtain⟨C2,h3,e3,e4,e5⟩:=GA R H hw hn Fq9
 have k0:=wT h3.keeps (famC d).m (Nat.le_refl _)
 rw[e3] at k0
 have c0:=Mo d.us d.pg d.st (gh d.us d.pg d.st (famC d) (famC d).m (ed d.us d.pg d.st s.P1 (ed d.us d.pg d.st s.P0 zs))) (32 * d.pg).toNat
 rw[e4] at c0
 simp only[k0,c0]
 by_cases ho:0<s.O.length
 ·simp[ho]
 ·have hO:s.O= []:=List.length_eq_zero_iff.1 (by omega)
  have u0:=GL (e5 hO)
  simp[u0]
end
structure EmY (c:Cfg)(v:Value)(fs:Nat→Nat→Value)(o ok:Value)(s:FSt)(g1 g2 bt:Nat)(w:World):Prop where
 st:StB w g1 (c.arr.toList++ [v]) fs o ok
 p0:Pu w (fs 0) s.P0
 p1:Pu w (fs 1) s.P1
 n0:PuN (fun q=>q<g2) (fs 0)
 n1:PuN (fun q=>q<g2) (fs 1)
 bx:∃b,j0 g2 w b
 sz:df bt w
 lt:g1<g2∧0<g2∧bt<g2
structure EmK (c:Cfg)(g1 g4 g5:Nat)(v:Value)(fs:Nat→Nat→Value)(o:Value)(f4 f5:Nat→Value)(w:World):Prop where
 st:w.rangeAt g1 0 c.arr.toList
 h4:w.heap[g4]?=some (.cells (puA f4) 32 (0,0))
 h5:w.heap[g5]?=some (.cells (puA f5) 32 (0,0))
structure EmZ (c:Cfg)(v:Value)(fs:Nat→Nat→Value)(o ok:Value)(s:FSt)(g1 g2 g4 g5:Nat)(f4 f5:Nat→Value)(bt:Nat)(b:Bool)(F:Nat→Prop)(w:World):Prop where
 y:EmY c v fs o ok s g1 g2 bt w
 bx:j0 g2 w b
 h4:w.heap[g4]?=some (.cells (puA f4) 32 (0,0))
 h5:w.heap[g5]?=some (.cells (puA f5) 32 (0,0))
 q4:cN (fun q=>False∨F q) w f4 (fun _=> [])
 q5:cN (fun q=>False∨F q) w f5 (fun _=> [])
 nf:¬F g4∧¬F g5
 lt:g2<g4∧g2<g5
section
variable {c:Cfg}{v:Value}{fs:Nat→Nat→Value}{o ok:Value}{s:FSt}{g1 g2 g4 g5 bt:Nat}{f4 f5:Nat→Value}{b:Bool}{F F1 S:Nat→Prop}{w w':World}
theorem EmY.keep (h:EmY c v fs o ok s g1 g2 bt w)(t:Turned S w w')(n:∀k,S k→g2≤k)(b:∃b,j0 g2 w' b):EmY c v fs o ok s g1 g2 bt w' :=
 ⟨h.st.keep t (fun q=>by have:=n _ q;have:=h.lt.1;omega),h.p0.off (fun c hc q e z=>by have:q<g2:=h.n0 c hc q e;have:=n q z;omega) t,h.p1.off (fun c hc q e z=>by have:q<g2:=h.n1 c hc q e;have:=n q z;omega) t,h.n0,h.n1,b,h.sz.keep t (fun q=>by have:=n _ q;have:=h.lt.2.1;omega) (fun q=>by have:=n _ q;have:=h.lt.2.2;omega),h.lt⟩
theorem EmY.more (h:EmY c v fs o ok s g1 g2 bt w)(m:ae w w'):EmY c v fs o ok s g1 g2 bt w':=h.keep m (fun _ q=>q.elim) (by obtain⟨b,q⟩:=h.bx;exact⟨b,m.block q⟩)
theorem EmZ.more (h:EmZ c v fs o ok s g1 g2 g4 g5 f4 f5 bt b F w)(m:ae w w'):EmZ c v fs o ok s g1 g2 g4 g5 f4 f5 bt b F w':=⟨h.y.more m,m.block h.bx,m.block h.h4,m.block h.h5,h.q4.more m,h.q5.more m,h.nf,h.lt⟩
theorem EmZ.stay (h:EmZ c v fs o ok s g1 g2 g4 g5 f4 f5 bt b F w)(ng:∀q,F q→g2<q)(k:∀g o,¬F g→w.heap[g]?=some o→w'.heap[g]?=some o)(n:∀g,F1 g→F g∨w.heap.size≤g)(y:EmY c v fs o ok s g1 g2 bt w'):EmZ c v fs o ok s g1 g2 g4 g5 f4 f5 bt b F1 w' :=
 ⟨y,k _ _ (fun q=>by have:=ng _ q;omega) h.bx,k _ _ h.nf.1 h.h4,k _ _ h.nf.2 h.h5,h.q4.stayN k n,h.q5.stayN k n,⟨fun q=>by rcases n _ q with r|r;exact h.nf.1 r;have:=ac h.h4;omega,fun q=>by rcases n _ q with r|r;exact h.nf.2 r;have:=ac h.h5;omega⟩,h.lt⟩
theorem EmZ.setB (h:EmZ c v fs o ok s g1 g2 g4 g5 f4 f5 bt b F w)(x:Bool):EmZ c v fs o ok s g1 g2 g4 g5 f4 f5 bt x F (w.setCell ⟨g2,0,none⟩ (.bool x)):=by
 have t:Turned (fun k=>k=g2) w (w.setCell ⟨g2,0,none⟩ (.bool x)):=Turned.setCell (Turned.refl _ w) _ _ (fun _=>rfl)
 have hb:=sQ h.bx x
 have ty:∀k,k=g2→∃cs T fr,w.heap[k]?=some (.cells cs T fr)∧T≠3:=fun k q=>by subst q;exact⟨_,_,_,h.bx,by decide⟩
 exact⟨h.y.keep t (fun k q=>by omega) ⟨_,hb⟩,hb,(t.block _ (ac h.h4) (by have:=h.lt;omega)).trans h.h4,(t.block _ (ac h.h5) (by have:=h.lt;omega)).trans h.h5,h.q4.keep t ty,h.q5.keep t ty,h.nf,h.lt⟩
end
theorem Ex (w:World){f:Nat→Value}{P:Nat→List Int}(h:Pu w f P):∃w',(w.alloc (.cells #[.slice none 0 0,.slice none 0 0,.slice none 0 0,.slice none 0 0,.slice none 0 0] 32)).setRow w.heap.size (puA f)=w'∧(w.alloc (.cells #[.slice none 0 0,.slice none 0 0,.slice none 0 0,.slice none 0 0,.slice none 0 0] 32)).heap[w.heap.size]?=some (.cells #[.slice none 0 0,.slice none 0 0,.slice none 0 0,.slice none 0 0,.slice none 0 0] 32 (0,0))∧w'.heap[w.heap.size]?=some (.cells (puA f) 32 (0,0))∧ae w w'∧(puA f).all (·.oneCell')=true :=
 ⟨_,rfl,aY w _ _,setRow_heap _ _ _ _ _ _ (aY w _ _),((ae.refl w).alloc _).setRow _ _ (Nat.le_refl _),h.all1⟩
theorem qP {P:Program}{ops:Array Oper}{rest:List Oper}{op:Oper}{a:Act}{w:World}{Q:Exit→Act→World→Prop}(hw:Region.wanted op (yielded ops a.tmps)=true)(ty:TypeId)(x:Operand)(ho:op.op=.load ty x)
 (b o:Nat) (hx:a.eval x=.pointer (some ⟨b,o,none⟩)) (cs:List Value) (d:TypeDesc) (hc:w.rangeAt b o cs)
 (hu:P.underlying ty=some d) (hd:d.isRow=true) (hi:(P.info? ty).map (·.size)=some cs.length)
 (h:wpList P ops Q rest (a.put op.dst (.agg cs.toArray)) w):wpList P ops Q (op::rest) a w :=
 dR hw fun _ hK=>wp_load_mid ty x ho b o hx cs d hc hu hd hi (hK _ _ h)
theorem StB.pur {w:World}{g:Nat}{pre:List Value}{fs:Nat→Nat→Value}{o ok:Value}(h:StB w g pre fs o ok):w.rangeAt g 25 (puA (fs 0)).toList∧w.rangeAt g 30 (puA (fs 1)).toList:=⟨h.range (n:=0) (by omega),h.range (n:=1) (by omega)⟩
theorem OA {c:Cfg}(R:c.Ok){n bt:Nat}(T:qK c n bt)(H:cF c.pg c.st n)(hw:(n:Int)=c.words)(hn:n≤10000)(F:Nat→Prop)(p g1 g2:Nat)(kn:Int→Option Int)(W0:World)(s:FSt)(oks:OkS c s)(v:Value)(fs:Nat→Nat→Value)(o2 ok:Value)(ho:∃ao co,o2=.slice ao s.O.length co)(hv:aE W0 F p kn [])(hk:OkK kn)(hY:EmY c v fs o2 ok s g1 g2 bt W0)(hF:∀q,F q→g2<q)
 (ht:∀z D,emP T s kn []=.ok z D→z=true):
 Calls Tryz.prog 16 #[.pointer (some ⟨p,0,none⟩),.pointer (some ⟨g1,0,none⟩),.pointer (some ⟨g2,0,none⟩)] W0 (gy W0 F (fun b=>b=g2) (fun w'=>EmY c v fs o2 ok s g1 g2 bt w') (fun w'=>j0 g2 w' true) p kn (fd (emP T s kn []))):=by
 obtain⟨Rr,hR⟩:∃Rr,emP T s kn []=Rr:=⟨_,rfl⟩
 rw[hR] at ht⊢
 obtain⟨b0,hb0⟩:=hY.bx
 have l2:=ac hb0
 have HO:=hQQ ho
 have HT:=hQQ ht
 have HK:=hQQ hk
 have HR:=hQQ R
 have HH:=hQQ H
 have HW:=hQQ hw
 have HN:=hQQ hn
 have OKS:=hQQ oks
 have KT:Hq (∀wr,Turned (fun b=>F b∨b=g2) W0 wr→(∃b,j0 g2 wr b)→EmY c v fs o2 ok s g1 g2 bt wr):=hQQ fun wr t b=>hY.keep t (by rintro k (z|z);have:=hF k z;omega;omega) b
 have FG:Hq (∀wr D' F',MidV W0 wr F (fun b=>b=g2) p kn n D' F'→∀q,F' q→g2<q):=hQQ fun wr D' F' h q hq=>by rcases h.from' q hq with r|r;exact hF q r;omega
 have N2:Hq (∀wr D' F',MidV W0 wr F (fun b=>b=g2) p kn n D' F'→¬F' g2):=hQQ fun wr D' F' h q=>by have:=FG.o _ _ _ h _ q;omega
 have NZ:Hq (∀wr D' F',MidV W0 wr F (fun b=>b=g2) p kn n D' F'→¬F' 0∧¬F' bt):=hQQ fun wr D' F' h=>⟨fun q=>by have:=FG.o _ _ _ h _ q;omega,fun q=>by have:=FG.o _ _ _ h _ q;have:=hY.lt;omega⟩
 have NEED:Hq (∀x w2 b,Rr=.need x→aN w2 p x→Turned (fun b=>F b∨b=g2) W0 w2→j0 g2 w2 b→gy W0 F (fun b=>b=g2) (fun w'=>EmY c v fs o2 ok s g1 g2 bt w') (fun w'=>j0 g2 w' true) p kn (fd Rr) (.panicked (aR p)) w2):=hQQ fun x w2 b e hd' ht' q =>
  xt (ol e) hd' ht' (KT.o _ ht' ⟨_,q⟩)
 have DONE:Hq (∀w2 D F' b,Rr=.ok true D→MidV W0 w2 F (fun b=>b=g2) p kn n D F'→j0 g2 w2 b→gy W0 F (fun b=>b=g2) (fun w'=>EmY c v fs o2 ok s g1 g2 bt w') (fun w'=>j0 g2 w' true) p kn (fd Rr) (.returned (.tuple #[])) (w2.setCell ⟨g2,0,none⟩ (.bool true))):=hQQ fun w2 D F' b e h hb=>by
  have hm:=h.setI (fun _=>rfl) (N2.o _ _ _ h) hb (.bool true)
  exact xu hm (sR e) (KT.o _ hm.turn ⟨_,sQ hb true⟩) (sQ hb true)
 have M0:Hq (MidV W0 W0 F (fun b=>b=g2) p kn n [] F):=hQQ (MidV.begin hv (dZ n))
 have GK:=hQQ (qN (n:=n) hn (famL (famC c) (famC c).m) [] (oK R H hw hn))
 have FL:Hq ((famL (famC c) (famC c).m).length≤45):=hQQ (by
  rw[jD]
  have e:(famC c).m=5 * c.cp.toNat+5:=rfl
  have:=R.cp2
  omega)
 have US:Hq (0≤c.us∧c.us+32 * c.pg≤1000000):=hQQ (AB R H hw hn)
 have WD:Hq (c.words=c.us+32 * c.pg):=hQQ rfl
 have R0:=hQQ (show aq (T.flP s.P0) (fun x=>aq (T.flP s.P1) fun y=>aq T.drP fun _=>aq (mU (famL (famC c) (famC c).m) []) fun ks=>Du c s.O.length (iC x.2 5) (iC y.2 5) ks) kn []=Rr from hR)
 have B0:=hQQ hb0
 have Y0:=hQQ hY
 have RG0:=hQQ hY.st.lay
 have RP0:=hQQ hY.st.pur.1
 have CF0:=T.flC F (fun _=>False) p kn [] W0 (fs 0) s.P0 hv hk (dZ n) hY.sz (NZ.o _ _ _ M0.o).1 (NZ.o _ _ _ M0.o).2 (fun q z=>z.elim) ⟨hY.p0,fun c hc q e z=>by have:q<g2:=hY.n0 c hc q e;rcases z with z|z;exact z;have:=hF q z;omega⟩ oks.l0
 have CF0:=hQQ CF0
 clear hv hk R H hw hn hR ht ho hb0 hY oks
 go_enter Tryz.func16,Tryz.ntmps16
 go_wp2_with (first|(refine wpList_load_mid rfl 28 _ rfl g1 0 rfl c.arr.toList _ RG0.o Tryz.underlying28 rfl (by kernel_rfl) ?_)|(refine wpList_load_mid rfl 32 _ rfl g1 25 rfl (puA (fs 0)).toList _ RP0.o Tryz.underlying32 rfl (by kernel_rfl) ?_))
 refine CF0.o.mono ?_
 intro e w1 he
 rcases M0.o.stepP (ae.refl _) HK.o (T.flG _ OKS.o.l0) he with⟨a',hE,rfl,hd',ht',hk'⟩|⟨x1,f4,D1,F1,hE,rfl,M1',hp1,hq1,hk1,hn1⟩
 ·exact⟨rfl,NEED.o a' w1 _ (R0.o.symm.trans (ag hE)) hd' ht' (hk' _ _ (N2.o _ _ _ M0.o) B0.o)⟩
 have R1:=hQQ ((aj hE).symm.trans R0.o)
 have hb1:=hk1 _ _ (N2.o _ _ _ M0.o) B0.o
 rw[hq1] at hp1 R1
 obtain⟨w2,e2,z2,h2,m2,o2'⟩:=Ex w1 hp1.1
 have M2:=hQQ (M1'.more m2)
 have Y2:=hQQ (KT.o _ M2.o.turn ⟨_,m2.block hb1⟩)
 have B2:Hq (j0 g2 w2 b0):=hQQ (m2.block hb1)
 have P2:=hQQ (hp1.more m2)
 have H2:=hQQ h2
 have Z2:=hQQ z2
 have E2:=hQQ e2
 have A2:=hQQ o2'
 have RG2:=hQQ Y2.o.st.lay
 have RP2:=hQQ Y2.o.st.pur.2
 have L4:Hq (g2<w1.heap.size∧¬F1 w1.heap.size):=hQQ ⟨ac hb1,fun q=>by have:=M1'.view.lt _ q;omega⟩
 have CF2:=hQQ (T.flC F1 (fun _=>False) p kn D1 w2 (fs 1) s.P1 M2.o.view HK.o M2.o.inv Y2.o.sz (NZ.o _ _ _ M2.o).1 (NZ.o _ _ _ M2.o).2 (fun q z=>z.elim) ⟨Y2.o.p1,fun c hc q e z=>by have:q<g2:=Y2.o.n1 c hc q e;rcases z with z|z;exact z;have:=FG.o _ _ _ M2.o q z;omega⟩ OKS.o.l1)
 clear he hE hk1 hn1 hp1 hq1 M1' hb1 z2 h2 m2 o2' e2 CF0 R0 RG0 RP0 B0 Y0
 go_wp2_with (first
  |(refine wpList_store_row rfl 32 _ _ rfl w1.heap.size (puA f4) rfl rfl 32 _ Z2.o (by kernel_rfl) rfl A2.o ?_;rw[E2.o])
  |(first|(refine wpList_load_mid rfl 28 _ rfl g1 0 rfl c.arr.toList _ RG2.o Tryz.underlying28 rfl (by kernel_rfl) ?_)|(refine wpList_load_mid rfl 32 _ rfl g1 30 rfl (puA (fs 1)).toList _ RP2.o Tryz.underlying32 rfl (by kernel_rfl) ?_)))
 refine CF2.o.mono ?_
 intro e w3 he
 rcases M2.o.stepP (ae.refl _) HK.o (T.flG _ OKS.o.l1) he with⟨a',hE,rfl,hd',ht',hk'⟩|⟨x3,f5,D3,F3,hE,rfl,M3',hp3,hq3,hk3,hn3⟩
 ·exact⟨rfl,NEED.o a' w3 _ (R1.o.symm.trans (ag hE)) hd' ht' (hk' _ _ (N2.o _ _ _ M2.o) B2.o)⟩
 have R2:=hQQ ((aj hE).symm.trans R1.o)
 have hb3:=hk3 _ _ (N2.o _ _ _ M2.o) B2.o
 rw[hq3] at hp3 R2
 obtain⟨w4,e4,z4,h4,m4,o4⟩:=Ex w3 hp3.1
 have M4:=hQQ (M3'.more m4)
 have Z4:Hq (EmZ c v fs o2 ok s g1 g2 w1.heap.size w3.heap.size f4 f5 bt b0 F3 w4):=hQQ ⟨KT.o _ M4.o.turn ⟨_,m4.block hb3⟩,m4.block hb3,m4.block (hk3 _ _ L4.o.2 H2.o),h4,(P2.o.stayN hk3 hn3).more m4,hp3.more m4,⟨fun q=>by rcases hn3 _ q with r|r;exact L4.o.2 r;have:=ac H2.o;omega,fun q=>by have:=M3'.view.lt _ q;omega⟩,⟨L4.o.1,ac hb3⟩⟩
 have ZZ:=hQQ z4
 have E4:=hQQ e4
 have A4:=hQQ o4
 have RG4:=hQQ Z4.o.y.st.lay
 have CD:=hQQ (T.drC F3 p kn D3 w4 M4.o.view HK.o M4.o.inv Z4.o.y.sz (NZ.o _ _ _ M4.o).1 (NZ.o _ _ _ M4.o).2)
 generalize w1.heap.size=g4 at *
 clear he hE hk3 hn3 hp3 hq3 M3' hb3 z4 h4 m4 o4 e4 CF2 R1 RG2 RP2 B2 Y2 Z2 E2 A2 H2 P2 M2 L4
 go_wp2_with (first
  |(refine wpList_store_row rfl 32 _ _ rfl w3.heap.size (puA f5) rfl rfl 32 _ ZZ.o (by kernel_rfl) rfl A4.o ?_;rw[E4.o])
  |(refine wpList_load_mid rfl 28 _ rfl g1 0 rfl c.arr.toList _ RG4.o Tryz.underlying28 rfl (by kernel_rfl) ?_))
 generalize w3.heap.size=g5 at *
 refine CD.o.mono ?_
 intro e w7 he
 rcases M4.o.step (ae.refl _) HK.o T.drG he with⟨a',hE,rfl,hd',ht',hk'⟩|⟨x7,D7,F7,hE,rfl,M7',hq7,hk7,hn7⟩
 ·exact⟨rfl,NEED.o a' w7 _ (R2.o.symm.trans (ag hE)) hd' ht' (hk' _ _ (N2.o _ _ _ M4.o) Z4.o.bx)⟩
 have R3:=hQQ (show aq (mU (famL (famC c) (famC c).m) []) (fun ks=>Du c s.O.length [] [] ks) kn D7=Rr from(aj hE).symm.trans R2.o)
 have M7:Hq (MidV W0 w7 F (fun b=>b=g2) p kn n D7 F7∧EmZ c v fs o2 ok s g1 g2 g4 g5 f4 f5 bt b0 F7 w7):=hQQ ⟨M7',Z4.o.stay (FG.o _ _ _ M4.o) hk7 hn7 (KT.o _ M7'.turn ⟨_,hk7 _ _ (N2.o _ _ _ M4.o) Z4.o.bx⟩)⟩
 have KC:Hq (∀W D' F',(MidV W0 W F (fun b=>b=g2) p kn n D' F'∧EmZ c v fs o2 ok s g1 g2 g4 g5 f4 f5 bt b0 F' W)→EmK c g1 g4 g5 v fs o2 f4 f5 W):=hQQ fun W D' F' h=>⟨h.2.y.st.lay,h.2.h4,h.2.h5⟩
 have KC2:Hq (∀b W D' F',(MidV W0 W F (fun b=>b=g2) p kn n D' F'∧EmZ c v fs o2 ok s g1 g2 g4 g5 f4 f5 bt b F' W)→EmK c g1 g4 g5 v fs o2 f4 f5 W):=hQQ fun b W D' F' h=>⟨h.2.y.st.lay,h.2.h4,h.2.h5⟩
 clear he hE hk7 hn7 hq7 M7' CD R2 RG4 Z4 ZZ E4 A4 M4 M0
 go_wp2_with fail
 refine aO (fun W=>EmK c g1 g4 g5 v fs o2 f4 f5 W) (by kernel_rfl) ?_
 have MR:Hq (MidV W0 (w7.drewN 1) F (fun b=>b=g2) p kn n D7 F7∧EmZ c v fs o2 ok s g1 g2 g4 g5 f4 f5 bt b0 (F7) (w7.drewN 1)):=hQQ ⟨M7.o.1.more ((ae.refl w7).drewN 1),M7.o.2.more ((ae.refl w7).drewN 1)⟩
 change dh _ _ _ _ _ _ _ _ (w7.drewN 1)
 generalize w7.drewN 1=wq at MR⊢
 generalize hA:Act.mk _ _=A
 have HF:AG 84 A [(0,.pointer (some ⟨p,0,none⟩)),(1,.pointer (some ⟨g1,0,none⟩)),(2,.pointer (some ⟨g2,0,none⟩)),(4,.pointer (some ⟨g4,0,none⟩)),(5,.pointer (some ⟨g5,0,none⟩))]:=by
  rw[←hA];try simp only[pts,List.foldl]
  refine⟨⟨Nat.le_of_ble_eq_true rfl,rfl⟩,?_⟩
  intro z hz;simp only[List.mem_cons,List.not_mem_nil,or_false] at hz;rcases hz with rfl|rfl|rfl|rfl|rfl<;>rfl
 refine bJ (fun aa W=>∃(u28 u29 u30 u31 u32 u33 u34 u35 u36 u37 u38 u39 u40 u41:Value) (ks:List Int) (D9:List KV) (F9:Nat→Prop),(aa=(Act.put (pts A [(28,u28),(31,u31),(35,u35),(36,u36),(37,u37),(29,u29),(30,u30),(32,u32),(33,u33),(34,u34),(38,u38),(39,u39),(40,u40),(41,u41)]) none undef))∧(MidV W0 W F (fun b=>b=g2) p kn n D9 F9∧EmZ c v fs o2 ok s g1 g2 g4 g5 f4 f5 bt (ks.length==0) (F9) W)∧Du c s.O.length [] [] ks kn D9=Rr) (fun W=>gy W0 F (fun b=>b=g2) (fun w'=>EmY c v fs o2 ok s g1 g2 bt w') (fun w'=>j0 g2 w' true) p kn (fd Rr) (.panicked (aR p)) W) (aR p) (fun a W hd h=>⟨hd,h⟩) (fun _ _ _ _ _ h=>h) ?_ ?_
 ·skip
  rintro a9 w9 ⟨u28,u29,u30,u31,u32,u33,u34,u35,u36,u37,u38,u39,u40,u41,ks,D9,F9,hn,⟨M9',Z9'⟩,R9'⟩
  subst hn
  rw[←hA];try simp only[pts,List.foldl]
  have M9:=hQQ M9'
  have Z9:=hQQ Z9'
  have R9:=hQQ (show aq (AX c.us c.pg c.st (32 * c.pg).toNat c.us 0) (fun t=>qO c.pg c.st s.O.length ((ks.length==0) && t==(s.O.length:Int))) kn D9=Rr from by
   rw[←R9'];unfold Du;simp only[List.length_nil,Nat.zero_add])
  generalize (ks.length==0)=r3 at Z9' Z9 R9 R9'
  have RG9:=hQQ Z9'.y.st.lay
  clear HF hA MR M9' Z9' R9' KC KC2 R3
  go_simp
  go_wp2_with (refine wpList_load_mid rfl 28 _ rfl g1 0 rfl c.arr.toList _ RG9.o Tryz.underlying28 rfl (by kernel_rfl) ?_)
  refine(Ms HR.o w9).mono ?_
  rintro e w10 ⟨rfl,m10⟩
  have M10:Hq (MidV W0 w10 F (fun b=>b=g2) p kn n D9 F9):=hQQ (M9.o.more m10)
  have Z10:Hq (EmY c v fs o2 ok s g1 g2 bt w10∧j0 g2 w10 r3):=hQQ ⟨Z9.o.y.more m10,m10.block Z9.o.bx⟩
  clear m10 M9 Z9 RG9
  go_wp2_with fail
  go_loopw [6,7] (fun tv iv wr=>∃(j:Nat) (t:Int) (D':List KV) (F':Nat→Prop),tv=.int .i64 t∧iv=.int .i64 (c.us+j)∧(j:Int)≤32 * c.pg∧0≤t∧t≤j∧MidV W0 wr F (fun b=>b=g2) p kn n D' F'∧(EmY c v fs o2 ok s g1 g2 bt wr∧j0 g2 wr r3)∧aq (AX c.us c.pg c.st ((32 * c.pg).toNat-j) (c.us+j) t) (fun t=>qO c.pg c.st s.O.length (r3 && t==(s.O.length:Int))) kn D'=Rr) (fun _ iv _=>((c.us+32 * c.pg)-intOf iv).toNat)
  case atStart=>exact⟨0,0,D9,F9,rfl,by simp[Cfg.us],by have:=HR.o.pg1;omega,by omega,by omega,M10.o,Z10.o,by simpa using R9.o⟩
  case round =>
   obtain⟨j,t,D1,F1,rfl,rfl,hj,ht0,htj,M1',Z1',R1'⟩:=hrel
   have M1:=hQQ M1'
   have Z1:=hQQ Z1'
   have RG1:=hQQ Z1'.1.st.lay
   clear M1' Z1' M10 Z10 R9
   have ub:=US.o
   by_cases hlt:(j:Int)<32 * c.pg
   ·have d1:decide (c.us+(j:Int)<c.words)=true:=by have:=WD.o;simp;omega
    have q7:IntKind.i64.wrap (c.us+(j:Int)+1)=c.us+(j:Int)+1:=az (by omega) (by omega)
    have q6:IntKind.i64.wrap (t+1)=t+1:=az (by omega) (by omega)
    obtain⟨m,hm⟩:∃m,(32 * c.pg).toNat-j=m+1:=⟨(32 * c.pg).toNat-j-1,by omega⟩
    have hm2:(32 * c.pg).toNat-(j+1)=m:=by omega
    rw[hm] at R1'
    have R1:=hQQ (show aq (tE c.us c.pg c.st (c.us+j)) (fun x=>aq (AX c.us c.pg c.st m (c.us+j+1) (if x.2 then t+1 else t)) (fun t=>qO c.pg c.st s.O.length (r3 && t==(s.O.length:Int)))) kn D1=Rr from by rw[←c7];exact R1')
    clear R1'
    go_wp2_with (refine wpList_load_mid rfl 28 _ rfl g1 0 rfl c.arr.toList _ RG1.o Tryz.underlying28 rfl (by kernel_rfl) ?_)
    refine(xA HR.o wr).mono ?_
    rintro e w2 ⟨rfl,m2⟩
    have M2:=hQQ (M1.o.more m2)
    have Z2:Hq (EmY c v fs o2 ok s g1 g2 bt w2∧j0 g2 w2 r3):=hQQ ⟨Z1.o.1.more m2,m2.block Z1.o.2⟩
    have RG2:=hQQ Z2.o.1.st.lay
    clear m2 M1 Z1 RG1
    go_wp2_with (refine wpList_load_mid rfl 28 _ rfl g1 0 rfl c.arr.toList _ RG2.o Tryz.underlying28 rfl (by kernel_rfl) ?_)
    refine(Ll HR.o HH.o HN.o F1 p kn D1 (c.us+j) w2 M2.o.view HK.o M2.o.inv bt Z2.o.1.sz (NZ.o _ _ _ M2.o).1 (NZ.o _ _ _ M2.o).2).mono ?_
    intro e w3 he
    rcases M2.o.step (ae.refl _) HK.o (vV HH.o _ _) he with⟨a',hE,rfl,hd',ht',hk'⟩|⟨⟨xk,xb⟩,D3,F3,hE,rfl,M3',hq3,hk',hf'⟩
    ·exact⟨rfl,NEED.o a' w3 _ (R1.o.symm.trans (ag hE)) hd' ht' (hk' _ _ (N2.o _ _ _ M2.o) Z2.o.2)⟩
    have R3:=hQQ ((aj hE).symm.trans R1.o)
    have M3:=hQQ M3'
    have Z3:Hq (EmY c v fs o2 ok s g1 g2 bt w3∧j0 g2 w3 r3):=hQQ (by
     have hb:=hk' _ _ (N2.o _ _ _ M2.o) Z2.o.2
     exact⟨KT.o _ M3'.turn ⟨_,hb⟩,hb⟩)
    clear he hE hk' hf' M3' hq3 M2 Z2 RG2
    cases xb with
    |false =>
     go_wp2_with fail
     go_roundw
     case rel=>exact⟨j+1,t,D3,F3,rfl,by go_num,by omega,by omega,by omega,M3.o,Z3.o,by have h:=R3.o;simp only[Bool.false_eq_true,if_false] at h;rw[hm2,show c.us+((j+1:Nat):Int)=c.us+j+1 by omega];exact h⟩
     case measure=>simp[intOf];omega
    |true =>
     go_wp2_with fail
     go_roundw
     case rel=>exact⟨j+1,t+1,D3,F3,rfl,by go_num,by omega,by omega,by omega,M3.o,Z3.o,by have h:=R3.o;simp only[if_true] at h;rw[hm2,show c.us+((j+1:Nat):Int)=c.us+j+1 by omega];exact h⟩
     case measure=>simp[intOf];omega
   ·have d1:decide (c.us+(j:Int)<c.words)=false:=by have:=WD.o;simp;omega
    rw[show(32 * c.pg).toNat-j=0 by omega] at R1'
    have R1:qO c.pg c.st s.O.length (r3 && t==(s.O.length:Int)) kn D1=Rr:=R1'
    clear R1'
    go_wp2_with (refine wpList_load_mid rfl 28 _ rfl g1 0 rfl c.arr.toList _ RG1.o Tryz.underlying28 rfl (by kernel_rfl) ?_)
    refine(xA HR.o wr).mono ?_
    rintro e w2 ⟨rfl,m2⟩
    have M2:=hQQ (M1.o.more m2)
    have Z2:Hq (EmY c v fs o2 ok s g1 g2 bt w2∧j0 g2 w2 r3):=hQQ ⟨Z1.o.1.more m2,m2.block Z1.o.2⟩
    clear m2 M1 Z1 RG1
    cases hr:(r3 && t==(s.O.length:Int)) with
    |false =>
     rw[hr] at R1
     exact absurd (HT.o false D1 R1.symm) (by simp)
    |true =>
     rw[hr] at R1
     obtain⟨hr1,hr2⟩:=Bool.and_eq_true_iff.1 hr
     subst hr1
     have e1:(t==(s.O.length:Int))=true:=hr2
     have y35:=Z2.o.1.st.row
     obtain⟨yb,fb,_⟩:=aC Z2.o.2
     obtain⟨ao,co,hO⟩:=HO.o
     rw[hO] at y35
     have HE1:=hQQ Z2.o.1.st.lay
     by_cases hpos:0<s.O.length
     ·have d2:decide ((0:Int)<(s.O.length:Int))=true:=by simp;omega
      have R2:Rr=.ok true D1:=by rw[←R1];unfold qO;rw[if_pos rfl,if_pos hpos];rfl
      have FIN:=hQQ (DONE.o w2 D1 F1 _ R2 M2.o Z2.o.2)
      clear R1 R2
      go_wp2_with fail
      go_end0
      exact FIN.o
     ·have d2:decide ((0:Int)<(s.O.length:Int))=false:=decide_eq_false (by omega)
      have R2:=hQQ (show aq (lY c.pg c.st) (fun u=>ay (u==0)) kn D1=Rr from by rw[←R1];unfold qO;rw[if_pos rfl,if_neg hpos])
      clear R1
      go_wp2_with (refine qP rfl 28 _ rfl g1 0 rfl c.arr.toList _ HE1.o Tryz.underlying28 rfl (by kernel_rfl) ?_)
      refine(Nt HR.o HH.o.toPgIn F1 p kn D1 w2 M2.o.view HK.o M2.o.inv).mono ?_
      intro e w3 he
      rcases M2.o.step (ae.refl _) HK.o (vN HH.o.toPgIn) he with⟨a',hE,rfl,hd',ht',hk'⟩|⟨x3,D3,F3,hE,rfl,M3',hq3,hk',hf'⟩
      ·exact⟨rfl,NEED.o a' w3 _ (R2.o.symm.trans (ag hE)) hd' ht' (hk' _ _ (N2.o _ _ _ M2.o) Z2.o.2)⟩
      have R3:=(aj hE).symm.trans R2.o
      have hx:(x3==0)=true:=HT.o _ _ R3.symm
      have hb3:=hk' _ _ (N2.o _ _ _ M2.o) Z2.o.2
      obtain⟨yb3,fb3,_⟩:=aC hb3
      have FIN:=hQQ (DONE.o w3 D3 F3 _ (by rw[←R3,hx];rfl) M3' hb3)
      clear he hE hk' hf' M3' hq3 R3 hb3
      go_wp2_with fail
      go_end0
      exact FIN.o
 intro QQ FINE FIND FINQ
 clear hA
 refine tqC 0 28 (.agg (puA f4)) (by kernel_rfl) FINQ (KC.o _ _ _ MR.o) HF (by exact aD (ab rfl) 32 _ rfl g4 (HF.get 3 rfl) 32 _ _ _ (fun W hW=>hW.h4) Tryz.underlying32 rfl (by kernel_rfl)) fun A β1 HF=>?_
 refine tqC 3 31 (.agg (puA f5)) (by kernel_rfl) FINQ (KC.o _ _ _ MR.o) HF (by exact aD (ab rfl) 32 _ rfl g5 (HF.get 5 rfl) 32 _ _ _ (fun W hW=>hW.h5) Tryz.underlying32 rfl (by kernel_rfl)) fun A β2 HF=>?_
 refine tqM 7 35 2 rfl (.inl rfl) rfl (by kernel_rfl) FINQ (KC.o _ _ _ MR.o) HF fun A β3 HF=>?_
 refine tqC 8 36 (.pointer (some ⟨g1,0,none⟩)) (by kernel_rfl) FINQ (KC.o _ _ _ MR.o) HF (by exact(Or.inl ⟨(ab rfl),fun W hW=>by have h5:=(HF.getD 4 rfl);go_simp⟩)) fun A β4 HF=>?_
 refine tqC 9 37 (.agg c.arr.toList.toArray) (by kernel_rfl) FINQ (KC.o _ _ _ MR.o) HF (by exact rJ (ab rfl) 28 _ rfl g1 0 (HF.get 0 rfl) c.arr.toList _ (fun W hW=>hW.st) Tryz.underlying28 rfl (by kernel_rfl)) fun A β5 HF=>?_
 refine tqO 1 29 (by kernel_rfl) HF fun K hK=>?_
 refine i6 (v0:=.agg (puA f4)) rfl (HF.get 4 rfl) (enters_of Tryz.func12 (by kernel_rfl) rfl) ?_
 refine(MH f4 (fun _=> []) wq MR.o.2.q4.1 (fun k _=>by simp)).mono ?_
 rintro e wa1 ⟨vl,rfl,rl,hl⟩
 obtain⟨ala1,cla1,hvl,_⟩:=(show Rw _ _ vl ([]:List Int) from rl).reads
 obtain rfl:vl=.slice ala1 0 cla1:=hvl
 have Ma1:Hq (MidV W0 wa1 F (fun b=>b=g2) p kn n D7 F7∧EmZ c v fs o2 ok s g1 g2 g4 g5 f4 f5 bt b0 (F7) wa1):=hQQ ⟨MR.o.1.more hl,MR.o.2.more hl⟩
 clear rl hl
 refine hK _ _ (KC.o _ _ _ Ma1.o) fun A β6 HF=>?_
 clear hK K
 refine tqC 2 30 (.int .i64 0) (by kernel_rfl) FINQ (KC.o _ _ _ Ma1.o) HF (by exact(Or.inl ⟨(ab rfl),fun W hW=>by have h5:=(HF.getD 0 rfl);go_simp⟩)) fun A β7 HF=>?_
 refine tqO 4 32 (by kernel_rfl) HF fun K hK=>?_
 refine i6 (v0:=.agg (puA f5)) rfl (HF.get 5 rfl) (enters_of Tryz.func12 (by kernel_rfl) rfl) ?_
 refine(MH f5 (fun _=> []) wa1 Ma1.o.2.q5.1 (fun k _=>by simp)).mono ?_
 rintro e wb2 ⟨vl,rfl,rl,hl⟩
 obtain⟨alb2,clb2,hvl,_⟩:=(show Rw _ _ vl ([]:List Int) from rl).reads
 obtain rfl:vl=.slice alb2 0 clb2:=hvl
 have Mb2:Hq (MidV W0 wb2 F (fun b=>b=g2) p kn n D7 F7∧EmZ c v fs o2 ok s g1 g2 g4 g5 f4 f5 bt b0 (F7) wb2):=hQQ ⟨Ma1.o.1.more hl,Ma1.o.2.more hl⟩
 clear rl hl
 refine hK _ _ (KC.o _ _ _ Mb2.o) fun A β8 HF=>?_
 clear hK K
 refine tqC 5 33 (.int .i64 0) (by kernel_rfl) FINQ (KC.o _ _ _ Mb2.o) HF (by exact(Or.inl ⟨(ab rfl),fun W hW=>by have h5:=(HF.getD 0 rfl);go_simp⟩)) fun A β9 HF=>?_
 refine tqC 6 34 (.int .i64 0) (by kernel_rfl) FINQ (KC.o _ _ _ Mb2.o) HF (by exact eV (ab rfl) rfl (HF.get 2 rfl) (HF.get 0 rfl) _ (by decide)) fun A β10 HF=>?_
 refine tqO 10 38 (by kernel_rfl) HF fun K hK=>?_
 refine bH (v0:=.pointer (some ⟨p,0,none⟩)) (v1:=.agg c.arr.toList.toArray) rfl (HF.get 7 rfl) (HF.get 5 rfl) (enters_of Tryz.func13 (by kernel_rfl) rfl) ?_
 refine(Oz HR.o HH.o HW.o HN.o F7 p kn D7 wb2 Mb2.o.1.view HK.o Mb2.o.1.inv).mono ?_
 intro e wk3 he
 rcases Mb2.o.1.stepR (ae.refl _) HK.o GK.o he with⟨a',hE,rfl,hd',ht',hk4⟩|⟨ks,D9,F9,v9,hE,rfl,hp9,M9',hq9,hk9,hn9⟩
 ·exact FIND _ _ HF.1.2 (NEED.o a' wk3 _ (R3.o.symm.trans (ag hE)) hd' ht' (hk4 _ _ (N2.o _ _ _ Mb2.o.1) Mb2.o.2.bx))
 have R9:=hQQ ((aj hE).symm.trans R3.o)
 obtain⟨a9,c9,rfl,_⟩:=hp9.1.reads
 have Mk3:Hq (MidV W0 wk3 F (fun b=>b=g2) p kn n D9 F9∧EmZ c v fs o2 ok s g1 g2 g4 g5 f4 f5 bt b0 (F9) wk3):=hQQ ⟨M9',Mb2.o.2.stay (FG.o _ _ _ Mb2.o.1) hk9 hn9 (KT.o _ M9'.turn ⟨_,hk9 _ _ (N2.o _ _ _ Mb2.o.1) Mb2.o.2.bx⟩)⟩
 have KW:Hq (IntKind.i64.wrap (ks.length:Int)=(ks.length:Int)):=hQQ (az (by omega) (by have:=hq9;have:=FL.o;simp only[List.length_nil] at *;omega))
 have KB:Hq (((ks.length:Int)==0)=(ks.length==0)):=hQQ (by cases ks<;>simp<;>omega)
 clear he hE hk9 hn9 hp9 hq9
 refine hK _ _ (KC.o _ _ _ Mk3.o) fun A β11 HF=>?_
 clear hK K
 refine tqC 11 39 (.int .i64 (ks.length:Int)) (by kernel_rfl) FINQ (KC.o _ _ _ Mk3.o) HF (by exact(Or.inl ⟨(ab rfl),fun W hW=>by have h5:=(HF.getD 0 rfl);go_simp⟩)) fun A β12 HF=>?_
 refine tqC 12 40 (.int .i64 (ks.length:Int)) (by kernel_rfl) FINQ (KC.o _ _ _ Mk3.o) HF (by exact eV (ab rfl) rfl (HF.get 2 rfl) (HF.get 0 rfl) _ (by rw[Int.zero_add];exact KW.o)) fun A β13 HF=>?_
 refine tqC 13 41 (.bool (ks.length==0)) (by kernel_rfl) FINQ (KC.o _ _ _ Mk3.o) HF (by exact qZ (ab rfl) rfl (HF.get 0 rfl) rfl _ KB.o) fun A β14 HF=>?_
 refine ki (i:=14) (by kernel_rfl) (by kernel_rfl) rfl (ab rfl) (fun K hK=>?_)
 refine uX rfl g2 (HF.get 16 rfl) (ks.length==0) (HF.get 0 rfl) _ Mk3.o.2.bx ?_
 have MZ:MidV W0 (wk3.setCell ⟨g2,0,none⟩ (.bool (ks.length==0))) F (fun b=>b=g2) p kn n D9 F9∧EmZ c v fs o2 ok s g1 g2 g4 g5 f4 f5 bt (ks.length==0) (F9) (wk3.setCell ⟨g2,0,none⟩ (.bool (ks.length==0))):=⟨Mk3.o.1.setI (fun _=>rfl) (N2.o _ _ _ Mk3.o.1) Mk3.o.2.bx _,Mk3.o.2.setB (ks.length==0)⟩
 exact hK _ _ (KC2.o _ _ _ _ MZ) (FINE _ _ ⟨(.agg (puA f4)),(.slice ala1 0 cla1),(.int .i64 0),(.agg (puA f5)),(.slice alb2 0 clb2),(.int .i64 0),(.int .i64 0),(.pointer (some ⟨p,0,none⟩)),(.pointer (some ⟨g1,0,none⟩)),(.agg c.arr.toList.toArray),(.slice a9 ks.length c9),(.int .i64 (ks.length:Int)),(.int .i64 (ks.length:Int)),(.bool (ks.length==0)),ks,D9,F9,(by rw[← β14,← β13,← β12,← β11,← β10,← β9,← β8,← β7,← β6,← β5,← β4,← β3,← β2,← β1];rfl),MZ,R9.o⟩)
theorem Pp {c:Cfg}(R:c.Ok){n bt:Nat}(T:qK c n bt)(zs:List Int)(hlz:zs.length=n)(H:cF c.pg c.st n)(hw:(n:Int)=c.words)(hlen:n≤1000)(hz:OkW zs){s:FSt}(Fq9:FrS c n s zs)(oks:OkS c s){v:Value}{fs:Nat→Nat→Value}{o2 ok:Value}(ho:∃ao co,o2=.slice ao s.O.length co)(w:World)(g1 g2:Nat)(a:Option Addr)(cap:Nat)(hY:EmY c v fs o2 ok s g1 g2 bt w)(ha:jH w a zs):
 Calls Tryz.prog 9 #[.slice a zs.length cap,.func (.func 16) #[] #[.pointer (some ⟨g1,0,none⟩),.pointer (some ⟨g2,0,none⟩)]] w (fun e w'=>∃v1 v2,e=.returned (.tuple #[v1,v2,.int .i64 0])∧j0 g2 w' true∧Turned (fun b=>b=g2) w w'):=by
 obtain⟨xs,K',hK',hans⟩:=Po T R H hw (by omega) oks hlz hz Fq9
 subst hlz
 have l2:g2<w.heap.size:=by obtain⟨x,h⟩:=hY.bx;exact ac h
 have G:=Ew T R H hw (by omega) oks
 have M:=Ni a cap zs (fun K=>fd (emP T s (look K) [])) (some (xs,K')) zs.length w ha (by omega) hz (xr G hz (by omega)) (by omega) hK' 16 #[.pointer (some ⟨g1,0,none⟩),.pointer (some ⟨g2,0,none⟩)] (fun b=>b=g2)
  (fun w'=>EmY c v fs o2 ok s g1 g2 bt w') (fun w'=>j0 g2 w' true)
  (fun b q=>by subst q;exact l2)
  (fun w' w'' y t=>y.keep t (fun k q=>by omega) (by obtain⟨x,y2⟩:=y.bx;exact⟨x,(t.block g2 (ac y2) (by omega)).trans y2⟩))
  (fun w' w'' y t=>(t.block g2 (ac y) (by omega)).trans y) hY (enters_of Tryz.func16 (by kernel_rfl) rfl)
  (fun K hK W F p t yy hv hF=>OA R T H hw (by omega) F p g1 g2 (look K) W s oks v fs o2 ok ho hv (sO hK hz) yy (fun q z=>by have:=hF _ z;omega)
   (fun z D e=>hans K hK z D e))
 refine M.mono ?_
 rintro e w' ⟨v1,v2,rfl,r1,_,t,_,x⟩
 exact⟨v1,v2,rfl,x,t⟩
theorem Mq (TT:TkT)(y0 y1 y2 y3 y4 y5 y6 y7 y8 y9 y10:Int)(a:Option Addr)(capl:Nat)(l:List gi)(w:World)(hS:pw w)(f0:(Lit.int .i64 y0).wf=true)(f1:(Lit.int .i64 y1).wf=true)(f2:(Lit.int .i64 y2).wf=true)(f3:(Lit.int .i64 y3).wf=true)(f4:(Lit.int .i64 y4).wf=true)(f5:(Lit.int .i64 y5).wf=true)(f6:(Lit.int .i64 y6).wf=true)(f7:(Lit.int .i64 y7).wf=true)(f8:(Lit.int .i64 y8).wf=true)(f9:(Lit.int .i64 y9).wf=true)(f10:(Lit.int .i64 y10).wf=true)(hl:gj w a l)(ho:Oi l)(hm:l.length≤9223372036854775807):
 Calls Tryz.prog 4 #[.agg #[.int .i64 y0,.int .i64 y1,.int .i64 y2,.int .i64 y3,.int .i64 y4,.int .i64 y5,.int .i64 y6,.int .i64 y7,.int .i64 y8,.int .i64 y9,.int .i64 y10],.slice a l.length capl] w (aP w (.bool true)):=by
 obtain⟨w2,e2,ha2,m2,hs2⟩:=aZ w (.cells #[.int .i64 y0,.int .i64 y1,.int .i64 y2,.int .i64 y3,.int .i64 y4,.int .i64 y5,.int .i64 y6,.int .i64 y7,.int .i64 y8,.int .i64 y9,.int .i64 y10] 23)
 obtain⟨bt,hsz⟩:=hS
 have HSZ:Hq (df bt w):=hQQ hsz
 have sz0:=HSZ.o.lt0
 have szb:=HSZ.o.lt
 have HM:=hQQ m2
 have HA:=hQQ ha2
 have LIV:=hQQ (Dt TT bt)
 clear ha2 hsz
 by_cases hbig:60<l.length
 ·have d0:decide ((60:Int)<(l.length:Int))=true:=by simp;omega
  clear m2 hs2 HA f0 f1 f2 f3 f4 f5 f6 f7 f8 f9 f10 TT
  go_enter Tryz.func4,Tryz.ntmps4
  go_wp2_with fail
  refine(LIV.o _ (HSZ.o.more HM.o)).mono ?_
  rintro e w8 ⟨rfl,h8⟩
  have HM8:=hQQ (HM.o.trans h8)
  clear h8
  go_wp2_with fail
  go_ret
  exact⟨rfl,HM8.o⟩
 ·have d0:decide ((60:Int)<(l.length:Int))=false:=by simp;omega
  obtain⟨d,n,zs,s,S,hn,hlz,hz,Fq9,OKs,AF⟩:=Mm TT y0 y1 y2 y3 y4 y5 y6 y7 y8 y9 y10 f0 f1 f2 f3 f4 f5 f6 f7 f8 f9 f10 l (by omega)
  have wds:=S.words
  have H:=Eu S hn
  have hnb:160≤n∧n≤800:=by omega
  have DO0:=hQQ (fun v fs o2 ok=>Pp S.ok (TT d n bt S.ok H hn (by omega)) zs hlz H hn (by omega) hz Fq9 OKs (v:=v) (fs:=fs) (o2:=o2) (ok:=ok))
  have HLZ:=hQQ hlz
  have AO:=hQQ (AF.out a capl w2 ⟨bt,HSZ.o.more m2⟩ (hl.more m2))
  clear m2 f0 f1 f2 f3 f4 f5 f6 f7 f8 f9 f10 hl ho hm AF S H hn wds Fq9 OKs hz hlz TT
  go_enter Tryz.func4,Tryz.ntmps4
  go_wp2_with (refine sw rfl rfl rfl HA.o (by kernel_rfl) ?_)
  clear e2
  refine AO.o.mono ?_
  rintro e w5 ⟨gz,cz,fs,o,rfl,hwz,hp0,hp1,hrb,hgz,m5⟩
  obtain⟨ao,co,rfl,_⟩:=hrb.reads
  have hz5:=bh w5 (.cells mT 37)
  obtain⟨cur,hcur⟩:∃cur,(stL (d.arr.toList++ [.slice (some ⟨gz,0,none⟩) n cz]) fs (.slice ao s.O.length co) (.bool true)).toArray=cur:=⟨_,rfl⟩
  obtain⟨w7,e7⟩:∃w7,(w5.alloc (.cells mT 37)).setRow w5.heap.size cur=w7:=⟨_,rfl⟩
  have hb7:StB w7 w5.heap.size (d.arr.toList++ [.slice (some ⟨gz,0,none⟩) n cz]) fs (.slice ao s.O.length co) (.bool true):=⟨by rw[List.length_append,kL];rfl,by rw[←e7,←hcur];exact setRow_heap _ _ _ _ _ _ hz5⟩
  have m57:ae w5 w7:=by rw[←e7];exact((ae.refl w5).alloc _).setRow _ _ (Nat.le_refl _)
  have SZ:Hq (cur.size=37):=hQQ (by rw[←hcur,List.size_toArray];exact nK hb7.1 _ _ _)
  have AL:Hq (cur.all (·.oneCell')=true):=hQQ (by rw[←hcur];exact Dm _ (yw d _ rfl) (Pu.all1 hp0) (Pu.all1 hp1) hrb.one rfl)
  obtain⟨w8,e8,hr8,m8,s8⟩:=aZ w7 (.cells #[.bool false] 4)
  have n8:w8.setCell ⟨w7.heap.size,0,none⟩ (.bool false)=w8:=AW hr8
  obtain⟨c8,f8,_⟩:=aC hr8
  have m58:=m57.trans m8
  have h25:=m5.size
  have h57:=hb7.lt
  have hM7:=HM.o.size
  have SB8:=hb7.more m8
  have y36:=hb7.end36
  have y24:=SB8.at24 (kL d)
  have M8:Hq (ae w w8):=hQQ (HM.o.trans (m5.trans m58))
  have p07:=hp0.more m57
  have p17:=hp1.more m57
  have DO:=hQQ (DO0.o _ fs _ (.bool true) ⟨ao,co,rfl⟩ w8 w5.heap.size w7.heap.size (some ⟨gz,0,none⟩) cz ⟨SB8,p07.more m8,p17.more m8,fun c hc q e=>p07.lt c hc q e,fun c hc q e=>p17.lt c hc q e,⟨false,hr8⟩,HSZ.o.more M8.o,⟨h57,by omega,by omega⟩⟩ (hwz.more m58).words)
  rw[HLZ.o] at DO
  have Z5:=hQQ hz5
  have E7:=hQQ e7
  have l57:=m57.size
  clear e7 hb7 hz5 hwz hp0 hp1 hrb m5 m57 m58 m8 AO HA hr8 DO0 p07 p17 SB8
  rw[hcur]
  go_wp2_with (refine wpList_store_row rfl 37 _ _ rfl w5.heap.size cur rfl rfl 37 mT Z5.o (by rw[SZ.o];kernel_rfl) (by rw[SZ.o];rfl) AL.o ?_;rw[E7.o])
  refine DO.o.mono ?_
  rintro e w10 ⟨v1,v2,rfl,hx,t10⟩
  obtain⟨c10,_,_⟩:=aC hx
  have M10:Hq (ae w w10):=hQQ (Turned.mono (am (F:=fun _=>False) M8.o t10 (fun b e=> .inr (by omega))) (fun _ _ q=>q))
  clear hx t10 DO y24 c8 f8 n8 e8
  go_wp2_with fail
  refine(LIV.o _ (HSZ.o.more M10.o)).mono ?_
  rintro e w12 ⟨rfl,h12⟩
  have M12:=hQQ (M10.o.trans h12)
  clear h12
  go_wp2_with fail
  go_ret
  exact⟨rfl,M12.o⟩
open Go.ChangeShapes Go.WideShapes Go.ChangeAt Go.Deep
section
variable {H:Type}{enc:TypeId×Value→H}{P:Program}{w:World}{base:Nat}{spare:Nat→Bool}{held:Bool}
theorem rN {r:Reach}{b0:Nat}{t T:TypeId}{fs:Array Field}{v:Value}{d:DataW H}{p:List MemPlace}(hs:P.underlying t=some (.struct fs))(hone:oneCellFields P fs=true)(hC:P.cellsOf t=fs.size)
 (hT:(fs.all fun f=>f.type==T)=true) (u:P.underlying T=some (.int .i64)) (hv:Value.okWide P w r b0 t v) (h:DataW.Trod enc P w base spare held t v d p):
 ∃xs:List Int,xs.length=fs.size∧v=.agg (xs.map (Value.int .i64)).toArray∧∀x∈xs,(Lit.int .i64 x).wf=true:=by
 obtain⟨cs,rfl,hsz⟩:=okWide_struct hs hv
 obtain⟨fuel,hf⟩:=h
 obtain⟨ys,n,_,_,_,hlen,hg⟩:=DataW.trod_struct hs hf
 have key:∀j,j<cs.toList.length→∃x:Int,cs.toList[j]?=some (.int .i64 x)∧(Lit.int .i64 x).wf=true:=by
  intro j hj
  have hj':j<fs.size:=by simp at hj;omega
  have hfj:fs[j]?=some fs[j]:=by simp[hj']
  obtain⟨ho,hk⟩:=hone_of hone j _ hfj
  have ht:fs[j].type=T:=by
   have:=Array.all_eq_true.1 hT j hj'
   simpa using this
  have h1:=hg j _ hfj
  rw[ho,hk] at h1
  have hys:ys[j]?=some (ys[j]'(by omega)):=List.getElem?_eq_getElem (by omega)
  rw[hys] at h1
  obtain⟨x,e,_,wx⟩:=DataW.trod_int (by rw[ht];exact u) h1
  refine⟨x,?_,wx⟩
  have e':(cs.toList.drop j).take 1= [.int .i64 x]:=by simpa [Value.cells] using e
  rw[List.drop_eq_getElem_cons hj] at e'
  simp at e'
  rw[List.getElem?_eq_getElem hj]
  simp[e']
 have hall:∀l:List Value,(∀j,j<l.length→∃x:Int,l[j]?=some (.int .i64 x)∧(Lit.int .i64 x).wf=true)→∃xs:List Int,xs.length=l.length∧l=xs.map (Value.int .i64)∧∀x∈xs,(Lit.int .i64 x).wf=true:=by
  intro l
  induction l with
  |nil=>intro _;exact⟨[],rfl,rfl,by simp⟩
  |cons a l ih =>
   intro hl
   obtain⟨x,hx,wx⟩:=hl 0 (by simp)
   obtain⟨xs,h1,h2,h3⟩:=ih (fun j hj=>by have:=hl (j+1) (by simp;omega);simpa using this)
   simp at hx
   exact⟨x::xs,by simp[h1],by simp[hx,←h2],by intro z hz;rcases List.mem_cons.1 hz with q|q; (rw[q];exact wx);exact h3 z q⟩
 obtain⟨xs,h1,h2,h3⟩:=hall cs.toList key
 refine⟨xs,by simp at h1;omega,?_,h3⟩
 rw[←h2]
end
theorem OC {l:List Int}(h:l.length=11):∃x0 x1 x2 x3 x4 x5 x6 x7 x8 x9 x10,l= [x0,x1,x2,x3,x4,x5,x6,x7,x8,x9,x10]:=by
 match l,h with
 | [x0,x1,x2,x3,x4,x5,x6,x7,x8,x9,x10],_=>exact⟨x0,x1,x2,x3,x4,x5,x6,x7,x8,x9,x10,rfl⟩
end Go.Proofs.YtddmeghbmdfgeaaGreatDoor
