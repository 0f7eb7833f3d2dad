/-
  The landed package front: fetched: the blocks that come at once where a purse has none.
-/
import Derived.Test.YtddmeghbmdfgeaaGreatDoorFlAs
import Derived.Test.YtddmeghbmdfgeaaGreatDoorFlAl
import Derived.Test.YtddmeghbmdfgeaaGreatDoorFlAh
import Derived.Test.YtddmeghbmdfgeaaGreatDoorFlAr
set_option maxRecDepth 100000
set_option maxHeartbeats 8000000
set_option linter.unusedVariables false
set_option linter.unusedSimpArgs false
set_option linter.unusedSectionVars false
namespace Go.Proofs.YtddmeghbmdfgeaaGreatDoor
open Go.RowKit Go.Sort Go.Maps Go.Shelf
theorem um {o:Oper}{a:Act}{w:World}{K:Act→World→Prop}{Q:Exit→Act→World→Prop}{x:Operand}(ho:o.op=.buildSlice 93 1 #[(0,x)]){b l:Int}(hx:a.eval x=.agg #[.int .i64 b,.int .i64 l])(h:K (a.put o.dst (.slice (some ⟨w.heap.size,0,none⟩) 1 1)) (w.alloc (.cells #[.int .i64 b,.int .i64 l] 96))):Oper.wp Tryz.prog o a w K Q:=by
 unfold Oper.wp Oper.upon execOp
 simp only[ho]
 generalize a.eval=ρ at hx⊢
 go_simp
 exact h
theorem Cc {o:Oper}{a:Act}{w:World}{K:Act→World→Prop}{Q:Exit→Act→World→Prop}{x y z:Operand}(ho:o.op=.buildSlice 145 3 #[(0,x),(1,y),(2,z)]){fu fv ft:Fn}{lu lv lt:Array Value}(hx:a.eval x=.func fu #[] lu)(hy:a.eval y=.func fv #[] lv)(hz:a.eval z=.func ft #[] lt)(h:K (a.put o.dst (.slice (some ⟨w.heap.size,0,none⟩) 3 3)) (w.alloc (.cells #[.func fu #[] lu,.func fv #[] lv,.func ft #[] lt] 100))):Oper.wp Tryz.prog o a w K Q:=by
 unfold Oper.wp Oper.upon execOp
 simp only[ho]
 generalize a.eval=ρ at hx hy hz⊢
 go_simp
 exact h
structure FeB (d:Cfg)(u k:Int)(p v1 f1 s1 v2 f2 s2 v3 l3 cb rb:Nat)(F:Nat→Prop)(W:World):Prop where
 a1:W.heap[v1]?=some (.cells #[.pointer (some ⟨p,0,none⟩)] 43 (0,0))
 a2:W.heap[f1]?=some (.cells #[.slice (some ⟨s1,0,none⟩) 1 1] 93 (0,0))
 a3:W.heap[s1]?=some (.cells #[.int .i64 (caV d u k),.int .i64 d.ca] 96 (0,0))
 b1:W.heap[v2]?=some (.cells #[.pointer (some ⟨p,0,none⟩)] 43 (0,0))
 b2:W.heap[f2]?=some (.cells #[.slice (some ⟨s2,0,none⟩) 1 1] 93 (0,0))
 b3:W.heap[s2]?=some (.cells #[.int .i64 (biV d k),.int .i64 d.bi] 96 (0,0))
 c1:W.heap[v3]?=some (.cells #[.pointer (some ⟨p,0,none⟩)] 43 (0,0))
 c2:W.heap[l3]?=some (.cells d.arr 28 (0,0))
 c3:W.heap[cb]?=some (.cells #[.int .i64 k] 3 (0,0))
 r:W.heap[rb]?=some (.cells #[.func (.func 88) #[] #[.pointer (some ⟨f1,0,none⟩),.pointer (some ⟨v1,0,none⟩)],.func (.func 88) #[] #[.pointer (some ⟨f2,0,none⟩),.pointer (some ⟨v2,0,none⟩)],.func (.func 122) #[] #[.pointer (some ⟨v3,0,none⟩),.pointer (some ⟨l3,0,none⟩),.pointer (some ⟨cb,0,none⟩)]] 100 (0,0))
 n1:¬F v1∧¬F f1∧¬F s1
 n2:¬F v2∧¬F f2∧¬F s2
 n3:¬F v3∧¬F l3∧¬F cb
 n4:¬F rb
theorem FeB.went {d:Cfg}{u k:Int}{p v1 f1 s1 v2 f2 s2 v3 l3 cb rb:Nat}{F F':Nat→Prop}{w w':World}(h:FeB d u k p v1 f1 s1 v2 f2 s2 v3 l3 cb rb F w)(hk:∀b o,¬F b→w.heap[b]?=some o→w'.heap[b]?=some o)(hf:∀b,F' b→F b∨w.heap.size≤b):FeB d u k p v1 f1 s1 v2 f2 s2 v3 l3 cb rb F' w':=by
 have nf:∀b o,¬F b→w.heap[b]?=some o→¬F' b:=fun b o nb ho q=>by
  rcases hf b q with r|r
  ·exact nb r
  ·have:=ac ho;omega
 exact⟨hk _ _ h.n1.1 h.a1,hk _ _ h.n1.2.1 h.a2,hk _ _ h.n1.2.2 h.a3,hk _ _ h.n2.1 h.b1,hk _ _ h.n2.2.1 h.b2,hk _ _ h.n2.2.2 h.b3,hk _ _ h.n3.1 h.c1,hk _ _ h.n3.2.1 h.c2,hk _ _ h.n3.2.2 h.c3,hk _ _ h.n4 h.r,
  ⟨nf _ _ h.n1.1 h.a1,nf _ _ h.n1.2.1 h.a2,nf _ _ h.n1.2.2 h.a3⟩,⟨nf _ _ h.n2.1 h.b1,nf _ _ h.n2.2.1 h.b2,nf _ _ h.n2.2.2 h.b3⟩,⟨nf _ _ h.n3.1 h.c1,nf _ _ h.n3.2.1 h.c2,nf _ _ h.n3.2.2 h.c3⟩,nf _ _ h.n4 h.r⟩
def Ky (d:Cfg)(u k:Int):Nat→Prg (List Int)
 | 0=>ar (gJ (caV d u k) d.ca (mostV d) []) fun L=>if 0<L.length then aA L else
    ar (gJ (biV d k) d.bi (mostV d) []) fun L=>if 0<L.length then aA L else
    ar (jr d.us d.pg d.st k (mostV d) []) fun L=>if 0<L.length then aA L else aA []
 | 1=>ar (gJ (biV d k) d.bi (mostV d) []) fun L=>if 0<L.length then aA L else
    ar (jr d.us d.pg d.st k (mostV d) []) fun L=>if 0<L.length then aA L else aA []
 | 2=>ar (jr d.us d.pg d.st k (mostV d) []) fun L=>if 0<L.length then aA L else aA []
 | _=>aA []
theorem Fm {d:Cfg}(R:d.Ok){n:Nat}(H:cH d.pg d.st n)(hw:(n:Int)=d.words)(hn:n≤10000){bt:Nat}(F:Nat→Prop)(p:Nat)(kn:Int→Option Int)(D:List KV)(w:World)(u k:Int)
 (hv:aK w F p kn D) (hk:OkK kn) (hD:cF n D) (hs:dg bt w) (nF0:¬F 0) (nFb:¬F bt) (hq:oC d u k):
 Calls Tryz.prog 66 #[.pointer (some ⟨p,0,none⟩),.agg d.arr,.int .i64 u,.int .i64 k] w (fj w F p kn (eJ w.heap.size) (xD d u k kn D)):=by
 obtain⟨Rr,hRr⟩:∃Rr,xD d u k kn D=Rr:=⟨_,rfl⟩
 rw[hRr]
 obtain⟨w1,e1,b0,m1,s1⟩:=bg w (.cells d.arr 28)
 have L0:=hQQ b0
 have HM:=hQQ m1
 have HR:=hQQ R
 have HH:=hQQ H
 have HK:=hQQ hk
 have HRr:=hQQ hRr
 have hST:=IJ R H hw hn hq
 have HST:=hQQ hST
 have h1:=R.ba1;have h2:=R.ba2;have h3:=R.pr1;have h4:=R.pr2
 have HMV:Hq ((mostV d:Int)=min d.ba (1+d.pr)):=hQQ (by unfold mostV;omega)
 have hmo:1≤mostV d∧mostV d≤1000000:=by unfold mostV;omega
 have qw:IntKind.i64.wrap (1+d.pr)=1+d.pr:=aB (by omega) (by omega)
 have HMO:=hQQ hmo
 have HUS:=hQQ (Ds R H hw hn)
 clear b0 m1 R H hk hRr hST hmo
 go_enter Tryz.func66,Tryz.ntmps66
 go_wp2_with fail
 have hf:=Iy d
 have hf2:=BH d
 refine bU (by kernel_rfl) (by kernel_rfl) ?_
 refine aP rfl 28 _ rfl _ rfl 28 _ _ _ (fun W hW=>hW.block L0.o) Tryz.underlying28 rfl (by kernel_rfl) ?_
 iterate 1
  with_reducible refine wpQuiet_step (fun K hK=>?_)
  go_simp
  first
  |(refine hK _ ?_;clear hK K)
  |(apply Exists.intro
    refine⟨fun W hW=>?_,hK _ ?_⟩
    first
    |(go_at_call 20;exact Calls.more hW (dx HR.o W))
    clear hK K)
 iterate 1
  with_reducible refine wpQuiet_step (fun K hK=>?_)
  go_simp
  first
  |(refine hK _ ?_;clear hK K)
  |(apply Exists.intro
    refine⟨fun W hW=>?_,hK _ ?_⟩
    first
    |(go_simp;try rfl)
    clear hK K)
 refine aP rfl 28 _ rfl _ rfl 28 _ _ _ (fun W hW=>hW.block L0.o) Tryz.underlying28 rfl (by kernel_rfl) ?_
 iterate 1
  with_reducible refine wpQuiet_step (fun K hK=>?_)
  go_simp
  first
  |(refine hK _ ?_;clear hK K)
  |(apply Exists.intro
    refine⟨fun W hW=>?_,hK _ ?_⟩
    first
    |(go_at_call 20;exact Calls.more hW (dx HR.o W))
    clear hK K)
 iterate 1
  with_reducible refine wpQuiet_step (fun K hK=>?_)
  go_simp
  first
  |(refine hK _ ?_;clear hK K)
  |(apply Exists.intro
    refine⟨fun W hW=>?_,hK _ ?_⟩
    first
    |(go_simp;try rfl)
    clear hK K)
 iterate 1
  with_reducible refine wpQuiet_step (fun K hK=>?_)
  go_simp
  first
  |(refine hK _ ?_;clear hK K)
  |(apply Exists.intro
    refine⟨fun W hW=>?_,hK _ ?_⟩
    first
    |(go_simp;try rfl)
    clear hK K)
 with_reducible refine wpQuiet_step (fun K hK=>?_)
 go_simp
 apply Exists.intro
 refine⟨fun W hW=>by rw[←HMV.o],hK _ ?_⟩
 clear hK K
 iterate 1
  with_reducible refine wpQuiet_step (fun K hK=>?_)
  go_simp
  first
  |(refine hK _ ?_;clear hK K)
  |(apply Exists.intro
    refine⟨fun W hW=>?_,hK _ ?_⟩
    first
    |(go_simp;try rfl)
    clear hK K)
 refine wpQuiet_nil ?_
 intro wr mr
 have KC:Hq (∀W,ae wr W→W.heap[w.heap.size]?=some (.cells d.arr 28 (0,0))):=hQQ fun W hW=>hW.block (mr.block L0.o)
 have HM2:=hQQ (HM.o.trans mr)
 have Fq9:Hq (∀x,F x→x<wr.heap.size):=hQQ fun x q=>Nat.lt_of_lt_of_le (hv.lt x q) HM2.o.size
 clear mr hf hf2 qw e1 s1 h1 h2 h3 h4
 go_wp2_with fail
 refine aR (fun W=>W.heap[w.heap.size]?=some (.cells d.arr 28 (0,0))) (by kernel_rfl) ?_
 change dq _ _ _ _ _ _ _ _ (wr.drewN 1)
 have MR:Hq (ae wr (wr.drewN 1)):=hQQ ((ae.refl wr).drewN 1)
 generalize wr.drewN 1=wq at MR⊢
 generalize hA:Act.mk _ _=A
 have HF:AG 52 A [(0,.pointer (some ⟨p,0,none⟩)),(2,.int .i64 u),(3,.int .i64 k),(5,.pointer (some ⟨w.heap.size,0,none⟩))]:=by
  rw[←hA];try simp only[pts,List.foldl]
  refine⟨⟨Nat.le_of_ble_eq_true rfl,rfl⟩,?_⟩
  intro z hz;simp only[List.mem_cons,List.not_mem_nil,or_false] at hz;rcases hz with rfl|rfl|rfl|rfl<;>rfl
 refine bK (fun a W=>∃(u21 u22 u23 u24 u28 u29 u30 u34 u35 u36 u25 u26 u27 u31 u32 u33 u37:Value) (v1 f1 s1 v2 f2 s2 v3 l3 cb rb:Nat),a=(pts A [(21,u21),(22,u22),(23,u23),(24,u24),(28,u28),(29,u29),(30,u30),(34,u34),(35,u35),(36,u36),(40,.int .i64 0),(25,u25),(26,u26),(27,u27),(31,u31),(32,u32),(33,u33),(37,u37),(38,.slice (some ⟨rb,0,none⟩) 3 3),(39,.int .i64 3)])∧ae wr W∧FeB d u k p v1 f1 s1 v2 f2 s2 v3 l3 cb rb F W) (fun _=>False) [] (fun a W hd h=>h.elim) (fun _ _ _ _ _ h=>h) ?_ ?_
 ·skip
  rintro a9 wa ⟨u21,u22,u23,u24,u28,u29,u30,u34,u35,u36,u25,u26,u27,u31,u32,u33,u37,v1,f1,s1',v2,f2,s2',v3,l3,cb,rb,rfl,m9,hfe⟩
  rw[←hA];try simp only[pts,List.foldl]
  have MM:=hQQ (HM2.o.trans m9)
  have FE:=hQQ hfe
  have M0:Hq (MidV wa wa F (fun _=>False) p kn n D F):=hQQ (MidV.begin (hv.more MM.o) hD)
  have KS:Hq (∀W D' F',MidV wa W F (fun _=>False) p kn n D' F'→dg bt W∧¬F' 0∧¬F' bt):=hQQ fun W D' F' h=>⟨(hs.more MM.o).keep h.turn (by rintro(q|q);exact nF0 q;exact q) (by rintro(q|q);exact nFb q;exact q),fun q=>by rcases h.from' 0 q with r|r;exact nF0 r;have:=hs.lt0;have:=MM.o.size;omega,fun q=>by rcases h.from' bt q with r|r;exact nFb r;have:=hs.lt;have:=MM.o.size;omega⟩
  have NEED:Hq (∀a wz,Rr=.need a→aQ wz p a→Turned (fun b=>F b∨False) wa wz→fj w F p kn (eJ w.heap.size) Rr (.panicked (aY p)) wz):=hQQ fun a wz e hd ht=>j5 MM.o (fun _ q=>q.elim) e hd ht
  have DONE:Hq (∀x v wz D' F',Rr=.ok x D'→MidV wa wz F (fun _=>False) p kn n D' F'→(eJ w.heap.size) x v wz F'→fj w F p kn (eJ w.heap.size) Rr (.returned v) wz):=hQQ fun x v wz D' F' e h hp=>j6 MM.o (fun _ q=>q.elim) h e hp
  clear HF hA MR KC Fq9 m9 hfe hv hD hs
  go_simp
  go_wp2_with fail
  go_loopw [40] (fun i wr=>∃(j:Nat) (D':List KV) (F':Nat→Prop),j≤3∧i=.int .i64 (j:Int)∧MidV wa wr F (fun _=>False) p kn n D' F'∧FeB d u k p v1 f1 s1' v2 f2 s2' v3 l3 cb rb F' wr∧Ky d u k j kn D'=Rr) (fun i _=>3-(intOf i).toNat)
  case atStart=>exact⟨0,D,F,by omega,rfl,M0.o,FE.o,HRr.o⟩
  case round =>
   obtain⟨j,D',F',hj,rfl,hm,hb,he⟩:=hrel
   have MW:=hQQ hm
   have HB:=hQQ hb
   have HE:=hQQ he
   have hv5:=hm.view
   obtain⟨hs5,hs6,hs7⟩:=KS.o _ _ _ hm
   clear hm hb he
   rcases (show j=0∨j=1∨j=2∨j=3 by omega) with rfl|rfl|rfl|rfl
   ·have cl:wr.cell? ⟨rb,0,none⟩=some (.func (.func 88) #[] #[.pointer (some ⟨f1,0,none⟩),.pointer (some ⟨v1,0,none⟩)]):=by simp[World.cell?,HB.o.r]
    have WR5:=hQQ (IT F' p kn D' wr hv5 HK.o MW.o.inv hs5 hs6 hs7 HMO.o.1 HMO.o.2 HST.o.1 v1 f1 s1' 1 (0,0) (by omega) HB.o.a1 HB.o.a2 HB.o.a3 HB.o.n1)
    clear hv5 hs5
    go_wp2_with fail
    refine WR5.o.mono ?_
    intro e w5 he
    rcases MW.o.stepR (ae.refl _) HK.o (js HST.o.1 _ _ kr.nil) he with⟨a',hE,rfl,hd',ht',_⟩|⟨L5,D5,F5,v5,hE,rfl,hp5,M5,hq5,hk5,hf5⟩
    ·exact⟨rfl,NEED.o a' w5 (HE.o.symm.trans (ah hE)) hd' ht'⟩
    have E5:=hQQ ((ak hE).symm.trans HE.o)
    have M5:=hQQ M5
    obtain⟨a5,c5,hv5,hrd5⟩:=hp5.1.reads
    subst hv5
    have P5:=hQQ (hp5.mono (b':=w.heap.size) (Nat.le_trans MM.o.size MW.o.turn.size))
    have HB5:=hQQ (HB.o.went hk5 hf5)
    clear he hE hp5 hrd5 WR5 hk5 hf5 hq5 cl
    by_cases hl:0<L5.length
    ·have E6:Hq (Rr=.ok L5 D5):=hQQ (by
      have:=E5.o
      rw[if_pos hl] at this
      exact this.symm)
     have FIN:=hQQ (DONE.o _ _ _ _ _ E6.o M5.o P5.o)
     clear E5
     go_wp2_with fail
     go_ret
     exact FIN.o
    ·have E6:Hq (Ky d u k 1 kn D5=Rr):=hQQ (by
      have:=E5.o
      rw[if_neg hl] at this
      exact this)
     clear E5
     go_wp2_with fail
     go_roundw
     case rel=>exact⟨1,D5,F5,by omega,by go_num,M5.o,HB5.o,E6.o⟩
     case measure=>simp[intOf]
   ·have cl:wr.cell? ⟨rb,1,none⟩=some (.func (.func 88) #[] #[.pointer (some ⟨f2,0,none⟩),.pointer (some ⟨v2,0,none⟩)]):=by simp[World.cell?,HB.o.r]
    have WR5:=hQQ (IT F' p kn D' wr hv5 HK.o MW.o.inv hs5 hs6 hs7 HMO.o.1 HMO.o.2 HST.o.2 v2 f2 s2' 1 (0,0) (by omega) HB.o.b1 HB.o.b2 HB.o.b3 HB.o.n2)
    clear hv5 hs5
    go_wp2_with fail
    refine WR5.o.mono ?_
    intro e w5 he
    rcases MW.o.stepR (ae.refl _) HK.o (js HST.o.2 _ _ kr.nil) he with⟨a',hE,rfl,hd',ht',_⟩|⟨L5,D5,F5,v5,hE,rfl,hp5,M5,hq5,hk5,hf5⟩
    ·exact⟨rfl,NEED.o a' w5 (HE.o.symm.trans (ah hE)) hd' ht'⟩
    have E5:=hQQ ((ak hE).symm.trans HE.o)
    have M5:=hQQ M5
    obtain⟨a5,c5,hv5,hrd5⟩:=hp5.1.reads
    subst hv5
    have P5:=hQQ (hp5.mono (b':=w.heap.size) (Nat.le_trans MM.o.size MW.o.turn.size))
    have HB5:=hQQ (HB.o.went hk5 hf5)
    clear he hE hp5 hrd5 WR5 hk5 hf5 hq5 cl
    by_cases hl:0<L5.length
    ·have E6:Hq (Rr=.ok L5 D5):=hQQ (by
      have:=E5.o
      rw[if_pos hl] at this
      exact this.symm)
     have FIN:=hQQ (DONE.o _ _ _ _ _ E6.o M5.o P5.o)
     clear E5
     go_wp2_with fail
     go_ret
     exact FIN.o
    ·have E6:Hq (Ky d u k 2 kn D5=Rr):=hQQ (by
      have:=E5.o
      rw[if_neg hl] at this
      exact this)
     clear E5
     go_wp2_with fail
     go_roundw
     case rel=>exact⟨2,D5,F5,by omega,by go_num,M5.o,HB5.o,E6.o⟩
     case measure=>simp[intOf]
   ·have cl:wr.cell? ⟨rb,2,none⟩=some (.func (.func 122) #[] #[.pointer (some ⟨v3,0,none⟩),.pointer (some ⟨l3,0,none⟩),.pointer (some ⟨cb,0,none⟩)]):=by simp[World.cell?,HB.o.r]
    have WR5:=hQQ (Kx F' p kn D' wr hv5 HK.o MW.o.inv hs5 hs6 hs7 HMO.o.1 HMO.o.2 HR.o HH.o hn k v3 l3 cb HB.o.c1 HB.o.c2 HB.o.c3 HB.o.n3)
    clear hv5 hs5
    go_wp2_with fail
    refine WR5.o.mono ?_
    intro e w5 he
    rcases MW.o.stepR (ae.refl _) HK.o (uf HH.o HUS.o k _ [] kr.nil HMO.o.1) he with⟨a',hE,rfl,hd',ht',_⟩|⟨L5,D5,F5,v5,hE,rfl,hp5,M5,hq5,hk5,hf5⟩
    ·exact⟨rfl,NEED.o a' w5 (HE.o.symm.trans (ah hE)) hd' ht'⟩
    have E5:=hQQ ((ak hE).symm.trans HE.o)
    have M5:=hQQ M5
    obtain⟨a5,c5,hv5,hrd5⟩:=hp5.1.reads
    subst hv5
    have P5:=hQQ (hp5.mono (b':=w.heap.size) (Nat.le_trans MM.o.size MW.o.turn.size))
    have HB5:=hQQ (HB.o.went hk5 hf5)
    clear he hE hp5 hrd5 WR5 hk5 hf5 hq5 cl
    by_cases hl:0<L5.length
    ·have E6:Hq (Rr=.ok L5 D5):=hQQ (by
      have:=E5.o
      rw[if_pos hl] at this
      exact this.symm)
     have FIN:=hQQ (DONE.o _ _ _ _ _ E6.o M5.o P5.o)
     clear E5
     go_wp2_with fail
     go_ret
     exact FIN.o
    ·have E6:Hq (Ky d u k 3 kn D5=Rr):=hQQ (by
      have:=E5.o
      rw[if_neg hl] at this
      exact this)
     clear E5
     go_wp2_with fail
     go_roundw
     case rel=>exact⟨3,D5,F5,by omega,by go_num,M5.o,HB5.o,E6.o⟩
     case measure=>simp[intOf]
   ·have FIN:=hQQ (DONE.o [] (.slice none 0 0) _ _ _ HE.o.symm MW.o (gp.nil _ _ _))
    clear hv5 hs5
    go_wp2_with fail
    go_ret
    exact FIN.o
 intro QQ FINE FIND FINQ
 clear hA
 refine tqM 0 21 0 rfl (.inl rfl) rfl (by kernel_rfl) FINQ (KC.o _ MR.o) HF fun A hB1_21 HF=>?_
 refine tqC 1 22 (.agg d.arr) (by kernel_rfl) FINQ (KC.o _ MR.o) HF (by exact aF (ab rfl) 28 _ rfl w.heap.size (HF.get 4 rfl) 28 _ _ _ (fun W hW=>hW) Tryz.underlying28 rfl (by kernel_rfl)) fun A hB2_22 HF=>?_
 refine tqM 2 23 3 rfl (.inl rfl) rfl (by kernel_rfl) FINQ (KC.o _ MR.o) HF fun A hB3_23 HF=>?_
 refine tqM 3 24 5 rfl (.inl rfl) rfl (by kernel_rfl) FINQ (KC.o _ MR.o) HF fun A hB4_24 HF=>?_
 refine tqM 7 28 4 rfl (.inl rfl) rfl (by kernel_rfl) FINQ (KC.o _ MR.o) HF fun A hB5_28 HF=>?_
 refine tqC 8 29 (.agg d.arr) (by kernel_rfl) FINQ (KC.o _ MR.o) HF (by exact aF (ab rfl) 28 _ rfl w.heap.size (HF.get 8 rfl) 28 _ _ _ (fun W hW=>hW) Tryz.underlying28 rfl (by kernel_rfl)) fun A hB6_29 HF=>?_
 refine tqM 9 30 8 rfl (.inl rfl) rfl (by kernel_rfl) FINQ (KC.o _ MR.o) HF fun A hB7_30 HF=>?_
 refine tqM 13 34 7 rfl (.inl rfl) rfl (by kernel_rfl) FINQ (KC.o _ MR.o) HF fun A hB8_34 HF=>?_
 refine tqC 14 35 (.agg d.arr) (by kernel_rfl) FINQ (KC.o _ MR.o) HF (by exact aF (ab rfl) 28 _ rfl w.heap.size (HF.get 11 rfl) 28 _ _ _ (fun W hW=>hW) Tryz.underlying28 rfl (by kernel_rfl)) fun A hB9_35 HF=>?_
 refine tqM 15 36 11 rfl (.inl rfl) rfl (by kernel_rfl) FINQ (KC.o _ MR.o) HF fun A hB10_36 HF=>?_
 refine tqC 19 40 ((.int .i64 0)) (by kernel_rfl) FINQ (KC.o _ MR.o) HF (by exact aH (ab rfl) _ rfl rfl) fun A hB11_40 HF=>?_
 refine az (i:=4) (some 25) (by kernel_rfl) rfl (ab rfl) rfl (fun K hK=>?_)
 refine dP (v0:=.agg d.arr) (v1:=.int .i64 u) (v2:=.int .i64 k) rfl (HF.get 9 rfl) (HF.get 8 rfl) (HF.get 7 rfl) (enters_of Tryz.func74 (by kernel_rfl) rfl) ?_
 refine(xu HR.o u k wq).mono ?_
 rintro e w3 ⟨rfl,h9⟩
 have N3:=hQQ h9
 have M3:=hQQ (MR.o.trans h9)
 clear h9
 refine hK _ _ (KC.o _ M3.o) ?_
 clear hK K
 replace HF:=HF.put 25 (.agg #[.int .i64 (caV d u k),.int .i64 d.ca]) (by decide) rfl
 generalize hB12_25:Act.put _ _ _=A at HF⊢
 refine az (i:=5) (some 26) (by kernel_rfl) rfl (ab rfl) rfl (fun K hK=>?_)
 refine um rfl (b:=caV d u k) (l:=d.ca) (HF.get 0 rfl) ?_
 obtain⟨w4,e1,b0,h1,s1⟩:=bg w3 (.cells #[.int .i64 (caV d u k),.int .i64 (d.ca)] 96)
 rw[e1]
 have S4:=hQQ b0
 have N4:=hQQ h1
 have M4:=hQQ (M3.o.trans h1)
 have Z4:=hQQ s1
 clear h1 b0 e1 s1
 refine hK _ _ (KC.o _ M4.o) ?_
 clear hK K
 replace HF:=HF.put 26 (.slice (some ⟨w3.heap.size,0,none⟩) 1 1) (by decide) rfl
 generalize hB13_26:Act.put _ _ _=A at HF⊢
 refine az (i:=6) (some 27) (by kernel_rfl) rfl (ab rfl) rfl (fun K hK=>?_)
 refine bI (v0:=.pointer (some ⟨p,0,none⟩)) (v1:=.slice (some ⟨w3.heap.size,0,none⟩) 1 1) rfl (HF.get 12 rfl) (HF.get 0 rfl) (enters_of Tryz.func50 (by kernel_rfl) rfl) ?_
 refine(tV p (some ⟨w3.heap.size,0,none⟩) 1 1 w4).mono ?_
 rintro e w5 ⟨rfl,rfl⟩
 obtain⟨w5,e1,b0,b1,h1,s1⟩:=gS w4 (.cells #[.pointer (some ⟨p,0,none⟩)] 43) (.cells #[.slice (some ⟨w3.heap.size,0,none⟩) 1 1] 93)
 rw[e1]
 have V5:=hQQ b0
 have F5:=hQQ b1
 have N5:=hQQ h1
 have M5:=hQQ (M4.o.trans h1)
 have Z5:=hQQ s1
 clear h1 b0 b1 e1 s1
 refine hK _ _ (KC.o _ M5.o) ?_
 clear hK K
 replace HF:=HF.put 27 (.func (.func 88) #[] #[.pointer (some ⟨w4.heap.size+1,0,none⟩),.pointer (some ⟨w4.heap.size,0,none⟩)]) (by decide) rfl
 generalize hB14_27:Act.put _ _ _=A at HF⊢
 refine az (i:=10) (some 31) (by kernel_rfl) rfl (ab rfl) rfl (fun K hK=>?_)
 refine bI (v0:=.agg d.arr) (v1:=.int .i64 k) rfl (HF.get 8 rfl) (HF.get 7 rfl) (enters_of Tryz.func75 (by kernel_rfl) rfl) ?_
 refine(Iz HR.o k w5).mono ?_
 rintro e w6 ⟨rfl,h9⟩
 have N6:=hQQ h9
 have M6:=hQQ (M5.o.trans h9)
 clear h9
 refine hK _ _ (KC.o _ M6.o) ?_
 clear hK K
 replace HF:=HF.put 31 (.agg #[.int .i64 (biV d k),.int .i64 d.bi]) (by decide) rfl
 generalize hB15_31:Act.put _ _ _=A at HF⊢
 refine az (i:=11) (some 32) (by kernel_rfl) rfl (ab rfl) rfl (fun K hK=>?_)
 refine um rfl (b:=biV d k) (l:=d.bi) (HF.get 0 rfl) ?_
 obtain⟨w7,e1,b0,h1,s1⟩:=bg w6 (.cells #[.int .i64 (biV d k),.int .i64 (d.bi)] 96)
 rw[e1]
 have S7:=hQQ b0
 have N7:=hQQ h1
 have M7:=hQQ (M6.o.trans h1)
 have Z7:=hQQ s1
 clear h1 b0 e1 s1
 refine hK _ _ (KC.o _ M7.o) ?_
 clear hK K
 replace HF:=HF.put 32 (.slice (some ⟨w6.heap.size,0,none⟩) 1 1) (by decide) rfl
 generalize hB16_32:Act.put _ _ _=A at HF⊢
 refine az (i:=12) (some 33) (by kernel_rfl) rfl (ab rfl) rfl (fun K hK=>?_)
 refine bI (v0:=.pointer (some ⟨p,0,none⟩)) (v1:=.slice (some ⟨w6.heap.size,0,none⟩) 1 1) rfl (HF.get 11 rfl) (HF.get 0 rfl) (enters_of Tryz.func50 (by kernel_rfl) rfl) ?_
 refine(tV p (some ⟨w6.heap.size,0,none⟩) 1 1 w7).mono ?_
 rintro e w8 ⟨rfl,rfl⟩
 obtain⟨w8,e1,b0,b1,h1,s1⟩:=gS w7 (.cells #[.pointer (some ⟨p,0,none⟩)] 43) (.cells #[.slice (some ⟨w6.heap.size,0,none⟩) 1 1] 93)
 rw[e1]
 have V8:=hQQ b0
 have F8:=hQQ b1
 have N8:=hQQ h1
 have M8:=hQQ (M7.o.trans h1)
 have Z8:=hQQ s1
 clear h1 b0 b1 e1 s1
 refine hK _ _ (KC.o _ M8.o) ?_
 clear hK K
 replace HF:=HF.put 33 (.func (.func 88) #[] #[.pointer (some ⟨w7.heap.size+1,0,none⟩),.pointer (some ⟨w7.heap.size,0,none⟩)]) (by decide) rfl
 generalize hB17_33:Act.put _ _ _=A at HF⊢
 refine az (i:=16) (some 37) (by kernel_rfl) rfl (ab rfl) rfl (fun K hK=>?_)
 refine dP (v0:=.pointer (some ⟨p,0,none⟩)) (v1:=.agg d.arr) (v2:=.int .i64 k) rfl (HF.get 9 rfl) (HF.get 8 rfl) (HF.get 7 rfl) (enters_of Tryz.func97 (by kernel_rfl) rfl) ?_
 refine(E8 p d k w8).mono ?_
 rintro e w9 ⟨rfl,rfl⟩
 obtain⟨w9,e1,b0,b1,b2,h1,s1⟩:=kG w8 (.cells #[.pointer (some ⟨p,0,none⟩)] 43) (.cells d.arr 28) (.cells #[.int .i64 k] 3)
 rw[e1]
 have V9:=hQQ b0
 have L9:=hQQ b1
 have C9:=hQQ b2
 have N9:=hQQ h1
 have M9:=hQQ (M8.o.trans h1)
 have Z9:=hQQ s1
 clear h1 b0 b1 b2 e1 s1
 refine hK _ _ (KC.o _ M9.o) ?_
 clear hK K
 replace HF:=HF.put 37 (.func (.func 122) #[] #[.pointer (some ⟨w8.heap.size,0,none⟩),.pointer (some ⟨w8.heap.size+1,0,none⟩),.pointer (some ⟨w8.heap.size+2,0,none⟩)]) (by decide) rfl
 generalize hB18_37:Act.put _ _ _=A at HF⊢
 refine az (i:=17) (some 38) (by kernel_rfl) rfl (ab rfl) rfl (fun K hK=>?_)
 refine Cc rfl (HF.get 4 rfl) (HF.get 1 rfl) (HF.get 0 rfl) ?_
 obtain⟨w10,e1,b0,h1,s1⟩:=bg w9 (.cells #[.func (.func 88) #[] #[.pointer (some ⟨w4.heap.size+1,0,none⟩),.pointer (some ⟨w4.heap.size,0,none⟩)],.func (.func 88) #[] #[.pointer (some ⟨w7.heap.size+1,0,none⟩),.pointer (some ⟨w7.heap.size,0,none⟩)],.func (.func 122) #[] #[.pointer (some ⟨w8.heap.size,0,none⟩),.pointer (some ⟨w8.heap.size+1,0,none⟩),.pointer (some ⟨w8.heap.size+2,0,none⟩)]] 100)
 rw[e1]
 have B10:=hQQ b0
 have N10:=hQQ h1
 have M10:=hQQ (M9.o.trans h1)
 have Z10:=hQQ s1
 clear h1 b0 e1 s1
 refine hK _ _ (KC.o _ M10.o) ?_
 clear hK K
 replace HF:=HF.put 38 (.slice (some ⟨w9.heap.size,0,none⟩) 3 3) (by decide) rfl
 generalize hB19_38:Act.put _ _ _=A at HF⊢
 refine tqC 18 39 (.int .i64 3) (by kernel_rfl) FINQ (KC.o _ M10.o) HF (by exact(Or.inl ⟨(ab rfl),fun W hW=>by have h5:=(HF.getD 0 rfl);go_simp;try rfl⟩)) fun A hB20_39 HF=>?_
 have FE:=(by
  have n5:ae w5 w10:=(((N6.o.trans N7.o).trans N8.o).trans N9.o).trans N10.o
  have n4:ae w4 w10:=N5.o.trans n5
  have n8:ae w8 w10:=N9.o.trans N10.o
  have n7:ae w7 w10:=N8.o.trans n8
  have z3:=M3.o.size;have z4:=Z4.o;have z5:=Z5.o;have z6:=N6.o.size;have z7:=Z7.o;have z8:=Z8.o;have z9:=Z9.o
  have nF:∀x,wr.heap.size≤x→¬F x:=fun x hx q=>by have:=Fq9.o x q;omega
  exact(⟨n5.block V5.o,n5.block F5.o,n4.block S4.o,n8.block V8.o,n8.block F8.o,n7.block S7.o,N10.o.block V9.o,N10.o.block L9.o,N10.o.block C9.o,B10.o,⟨nF _ (by omega),nF _ (by omega),nF _ (by omega)⟩,⟨nF _ (by omega),nF _ (by omega),nF _ (by omega)⟩,⟨nF _ (by omega),nF _ (by omega),nF _ (by omega)⟩,nF _ (by omega)⟩:FeB d u k p (w4.heap.size) (w4.heap.size+1) (w3.heap.size) (w7.heap.size) (w7.heap.size+1) (w6.heap.size) (w8.heap.size) (w8.heap.size+1) (w8.heap.size+2) (w9.heap.size) F w10))
 exact bQ (by kernel_rfl) (FINE _ _ ⟨(.pointer (some ⟨p,0,none⟩)),(.agg d.arr),(.int .i64 u),(.int .i64 k),(.pointer (some ⟨p,0,none⟩)),(.agg d.arr),(.int .i64 k),(.pointer (some ⟨p,0,none⟩)),(.agg d.arr),(.int .i64 k),(.agg #[.int .i64 (caV d u k),.int .i64 d.ca]),(.slice (some ⟨w3.heap.size,0,none⟩) 1 1),(.func (.func 88) #[] #[.pointer (some ⟨w4.heap.size+1,0,none⟩),.pointer (some ⟨w4.heap.size,0,none⟩)]),(.agg #[.int .i64 (biV d k),.int .i64 d.bi]),(.slice (some ⟨w6.heap.size,0,none⟩) 1 1),(.func (.func 88) #[] #[.pointer (some ⟨w7.heap.size+1,0,none⟩),.pointer (some ⟨w7.heap.size,0,none⟩)]),(.func (.func 122) #[] #[.pointer (some ⟨w8.heap.size,0,none⟩),.pointer (some ⟨w8.heap.size+1,0,none⟩),.pointer (some ⟨w8.heap.size+2,0,none⟩)]),w4.heap.size,w4.heap.size+1,w3.heap.size,w7.heap.size,w7.heap.size+1,w6.heap.size,w8.heap.size,w8.heap.size+1,w8.heap.size+2,w9.heap.size,by rw[←hB20_39,←hB19_38,←hB18_37,←hB17_33,←hB16_32,←hB15_31,←hB14_27,←hB13_26,←hB12_25,←hB11_40,←hB10_36,←hB9_35,←hB8_34,←hB7_30,←hB6_29,←hB5_28,←hB4_24,←hB3_23,←hB2_22,←hB1_21]<;>rfl,M10.o,FE⟩)
section
variable {P:Program}{ops:Array Oper}{md:Region.Mode}{C:World→Prop}{L:Nat}{Q:Exit→Act→World→Prop}
def lq (P:Program)(md:Region.Mode)(ops:Array Oper)(C:World→Prop)(L:Nat)(Q:Exit→Act→World→Prop):Nat→Array Bool→Act→World→Prop
 | 0,d,a,w=>Region.ready md ops d= []∧Q .normal a w
 |f+1,d,a,w=>(Region.ready md ops d= []→Q .normal a w)∧∀i∈Region.ready md ops d,wpOp P ops Q i (fun a' w'=>((d.setIfInBounds i true).getD L true=true∨C w')∧lq P md ops C L Q f (d.setIfInBounds i true) a' w') a w
theorem IU:∀(f:Nat) (d:Array Bool) (a:Act) (w:World),lq P md ops C L Q f d a w→wpAny P md ops Q f d a w:=by
 intro f
 induction f with
 |zero=>intro d a w h;exact h
 |succ f ih=>intro d a w h;exact⟨h.1,fun i hi=>wpOp_mono (fun a' w' z=>ih _ a' w' z.2) (h.2 i hi)⟩
def Dv (md:Region.Mode)(ops:Array Oper)(L i:Nat):Bool :=
 match ops[L]? with
 |some o=>o.after.any fun e=>Region.binds md e && e.on==i
 |none=>false
theorem Cd {i:Nat}(h:Dv md ops L i=true){d:Array Bool}(hL:L∈Region.ready md ops d)(hun:d.getD i true=false):False:=by
 obtain⟨_,o,ho,hall⟩:=mem_ready.1 hL
 unfold Dv at h
 rw[ho] at h
 rw[Array.any_eq_true] at h
 obtain⟨k,hk,hb⟩:=h
 simp only[Bool.and_eq_true,beq_iff_eq] at hb
 have h3:=hall o.after[k] (Array.getElem_mem hk) hb.1
 rw[hb.2,getD_both hun] at h3
 cases h3
theorem zW {i:Nat}{oi:Oper}{v:Value}(hne:i≠L)(hi:ops[i]?=some oi)(hsel:∀(j:Nat)(o:Oper) cs b,ops[j]?=some o→o.op≠ .select cs b)
 (hQ:∀c a w,Q (.panic c) (a.put oi.dst v) w→Q (.panic c) a w):
 ∀(fuel:Nat) (listed:Array Bool) (a:Act) (w:World),(listed.getD L true=true∨C w) →
  (∀j oj,ops[j]?=some oj→j≠i→listed.getD j true=false→(∀e∈oj.after,Region.binds md e=true→e.on≠i)→oi.apart ops oj=true) →
  i∈Region.ready md ops listed→bT P ops (fun _=>True) oi v a →
  lq P md ops C L Q fuel (listed.setIfInBounds i true) (a.put oi.dst v) w→lq P md ops C L Q (fuel+1) listed a w:=by
 intro fuel
 induction fuel with
 |zero =>
  intro listed a w hC _ hr hy H
  refine⟨fun h=>(by rw[h] at hr;cases hr),fun j hj=>?_⟩
  by_cases hji:j=i
  ·subst hji;exact hy.wpOp hi trivial ⟨by rw[getD_set_ne true hne];exact hC,H⟩
  ·have:=ready_mono hj hji
   rw[H.1] at this
   cases this
 |succ fuel ih =>
  intro listed a w hC hfree hr hy H
  refine⟨fun h=>(by rw[h] at hr;cases hr),fun j hj=>?_⟩
  by_cases hji:j=i
  ·subst hji;exact hy.wpOp hi trivial ⟨by rw[getD_set_ne true hne];exact hC,H⟩
  ·have h1:=H.2 j (ready_mono hj hji)
   obtain⟨hjun,oj,hoj,hall⟩:=mem_ready.1 hj
   have hnot:∀e∈oj.after,Region.binds md e=true→e.on≠i:=fun e he hb heq=>by
    have h1:=hall e he hb
    have h0:=(mem_ready.1 hr).1
    rw[heq] at h1
    rcases Nat.lt_or_ge i listed.size with h'|h'
    ·simp[h'] at h0 h1;rw[h0] at h1;cases h1
    ·simp[Array.getElem?_eq_none h'] at h1
   have h2:=pV hoj (hfree j oj hoj hji hjun hnot) (fun cs b=>hsel i oi cs b hi) (fun cs b=>hsel j oj cs b hoj) hQ hy h1
   have hfree':∀k ok,ops[k]?=some ok→k≠i→(listed.setIfInBounds j true).getD k true=false →
    (∀e∈ok.after,Region.binds md e=true→e.on≠i)→oi.apart ops ok=true:=fun k ok hk hki hun hno=>by
    refine hfree k ok hk hki ?_ hno
    by_cases hjk:j=k
    ·subst hjk;exact hjun
    ·rw[getD_set_ne true hjk] at hun;exact hun
   refine wpOp_mono (fun a' w' h3=>?_) h2
   have h4:=h3.2.1
   rw[Array.setIfInBounds_comm _ _ (Ne.symm hji),getD_set_ne true hne] at h4
   have h5:=h4
   refine⟨h4,ih (listed.setIfInBounds j true) a' w' h5 hfree' (ready_mono hr (Ne.symm hji)) h3.1 ?_⟩
   rw[Array.setIfInBounds_comm _ _ hji]
   exact h3.2.2
theorem Ce {i:Nat}{oi:Oper}{v:Value}(hne:i≠L)(hL:Dv md ops L i=true)(hi:ops[i]?=some oi)(hsel:∀(j:Nat)(o:Oper) cs b,ops[j]?=some o→o.op≠ .select cs b)
 (hQ:∀c a w,Q (.panic c) (a.put oi.dst v) w→Q (.panic c) a w):
 ∀(fuel:Nat) (listed:Array Bool) (a:Act) (w:World),listed.getD L true=false∧C w →
  (∀j oj,ops[j]?=some oj→j≠i→listed.getD j true=false→(∀e∈oj.after,Region.binds md e=true→e.on≠i)→oi.apart ops oj=true) →
  i∈Region.ready md ops listed→bT P ops C oi v a →
  lq P md ops C L Q fuel (listed.setIfInBounds i true) (a.put oi.dst v) w→lq P md ops C L Q (fuel+1) listed a w:=by
 intro fuel
 induction fuel with
 |zero =>
  intro listed a w hC _ hr hy H
  refine⟨fun h=>(by rw[h] at hr;cases hr),fun j hj=>?_⟩
  by_cases hji:j=i
  ·subst hji;exact hy.wpOp hi hC.2 ⟨.inr hC.2,H⟩
  ·have:=ready_mono hj hji
   rw[H.1] at this
   cases this
 |succ fuel ih =>
  intro listed a w hC hfree hr hy H
  refine⟨fun h=>(by rw[h] at hr;cases hr),fun j hj=>?_⟩
  by_cases hji:j=i
  ·subst hji;exact hy.wpOp hi hC.2 ⟨.inr hC.2,H⟩
  ·have h1:=H.2 j (ready_mono hj hji)
   obtain⟨hjun,oj,hoj,hall⟩:=mem_ready.1 hj
   have hnot:∀e∈oj.after,Region.binds md e=true→e.on≠i:=fun e he hb heq=>by
    have h1:=hall e he hb
    have h0:=(mem_ready.1 hr).1
    rw[heq] at h1
    rcases Nat.lt_or_ge i listed.size with h'|h'
    ·simp[h'] at h0 h1;rw[h0] at h1;cases h1
    ·simp[Array.getElem?_eq_none h'] at h1
   have h2:=pV hoj (hfree j oj hoj hji hjun hnot) (fun cs b=>hsel i oi cs b hi) (fun cs b=>hsel j oj cs b hoj) hQ hy h1
   have hfree':∀k ok,ops[k]?=some ok→k≠i→(listed.setIfInBounds j true).getD k true=false →
    (∀e∈ok.after,Region.binds md e=true→e.on≠i)→oi.apart ops ok=true:=fun k ok hk hki hun hno=>by
    refine hfree k ok hk hki ?_ hno
    by_cases hjk:j=k
    ·subst hjk;exact hjun
    ·rw[getD_set_ne true hjk] at hun;exact hun
   refine wpOp_mono (fun a' w' h3=>?_) h2
   have h4:=h3.2.1
   rw[Array.setIfInBounds_comm _ _ (Ne.symm hji),getD_set_ne true hne] at h4
   have hjL:j≠L:=fun e=>by subst e;exact Cd hL hj (mem_ready.1 hr).1
   have h5:(listed.setIfInBounds j true).getD L true=false∧C w':=by
    rw[getD_set_ne true hjL,hC.1] at h4
    refine⟨by rw[getD_set_ne true hjL];exact hC.1,h4.resolve_left (by simp)⟩
   refine⟨h4,ih (listed.setIfInBounds j true) a' w' h5 hfree' (ready_mono hr (Ne.symm hji)) h3.1 ?_⟩
   rw[Array.setIfInBounds_comm _ _ hji]
   exact h3.2.2
theorem ce {i:Nat}{oi:Oper}{v:Value}{fuel:Nat}{listed:Array Bool}{a:Act}{w:World}(hL:Dv md ops L i=true)(hne:(i==L)=false)(hu:listed.getD L true=false)(d:Option Tmp)(hi:ops[i]?=some oi)(hd:oi.dst=d)
 (hs:Region.noSelect ops=true) (hf:Region.free md ops listed i=true) (hr:(Region.ready md ops listed).contains i=true)
 (hQ:∀c a w,Q (.panic c) (a.put d v) w→Q (.panic c) a w) (hC:C w) (hy:bT P ops C oi v a)
 (h:lq P md ops C L Q fuel (listed.setIfInBounds i true) (a.put d v) w):lq P md ops C L Q (fuel+1) listed a w:=by
 subst hd
 exact Ce (by simpa using hne) hL hi (Region.noSelect_spec hs) hQ fuel listed a w ⟨hu,hC⟩ (Region.free_spec hi hf) (by simpa using hr) hy h
theorem oH {i:Nat}{oi:Oper}{v:Value}{fuel:Nat}{listed:Array Bool}{a:Act}{w:World}(hne:(i==L)=false)(d:Option Tmp)(hi:ops[i]?=some oi)(hd:oi.dst=d)
 (hs:Region.noSelect ops=true) (hf:Region.free md ops listed i=true) (hr:(Region.ready md ops listed).contains i=true)
 (hQ:∀c a w,Q (.panic c) (a.put d v) w→Q (.panic c) a w) (hC:C w) (hy:bT P ops (fun _=>True) oi v a)
 (h:lq P md ops C L Q fuel (listed.setIfInBounds i true) (a.put d v) w):lq P md ops C L Q (fuel+1) listed a w:=by
 subst hd
 exact zW (by simpa using hne) hi (Region.noSelect_spec hs) hQ fuel listed a w (.inr hC) (Region.free_spec hi hf) (by simpa using hr) hy h
theorem qA {fuel:Nat}{listed:Array Bool}{a:Act}{w:World}(hr:Region.ready md ops listed= [])(h:Q .normal a w):lq P md ops C L Q fuel listed a w:=by
 cases fuel with
 |zero=>exact⟨hr,h⟩
 |succ f=>exact⟨fun _=>h,fun i hi=>(by rw[hr] at hi;cases hi)⟩
theorem fG {i:Nat}{o:Oper}{fuel:Nat}{listed:Array Bool}{a:Act}{w:World}(d:Option Tmp)(hr:Region.ready md ops listed= [i])(hi:ops[i]?=some o)(hw:Region.wanted o (yielded ops a.tmps)=true)(hd:o.dst=d)
 (h:∀K:Act→World→Prop,(∀v w',((listed.setIfInBounds i true).getD L true=true∨C w')→lq P md ops C L Q fuel (listed.setIfInBounds i true) (a.put d v) w'→K (a.put o.dst v) w')→Oper.wp P o a w K Q):lq P md ops C L Q (fuel+1) listed a w:=by
 subst hd
 refine⟨fun q=>(by rw[hr] at q;cases q),fun j hj=>?_⟩
 rw[hr] at hj
 obtain rfl:j=i:=by simpa using hj
 unfold Go.wpOp
 simp only[hi,hw,if_true]
 exact .inl (h _ (fun v w' hc hA=>⟨hc,hA⟩))
theorem jt {id:Nat}{a:Act}{w:World}(C:World→Prop)(L:Nat)(hm:P.follows .mixedOrders=true)(h:lq P .any ops C L Q ops.size (Array.replicate ops.size false) a { w with drawn:=w.drawn+1 }):(Code.region id ops true).wp P Q a w :=
 wp_region_any hm (IU _ _ _ _ h)
theorem oI {f:Nat}{d:Array Bool}{a:Act}{w:World} (Φ:Act→World→Prop) (Ψ:World→Prop)(ch:List PanicEntry)(fp:∀a w,a.defers= []→Ψ w→Q (.panic ch) a w)(fq:∀c a k v w,Q (.panic c) (Act.put a (some k) v) w→Q (.panic c) a w)(fn:∀a w,Φ a w→Q .normal a w)
 (h:∀Q':Exit→Act→World→Prop,(∀a w,Φ a w→Q' .normal a w)→(∀a w,a.defers= []→Ψ w→Q' (.panic ch) a w)→(∀c a k v w,Q' (.panic c) (Act.put a (some k) v) w→Q' (.panic c) a w)→lq P md ops C L Q' f d a w):lq P md ops C L Q f d a w:=h Q fn fp fq
end
theorem Cf {o:Oper}{a:Act}{w:World}{K:Act→World→Prop}{Q:Exit→Act→World→Prop}{x y z:Operand}(ho:o.op=.buildSlice 136 3 #[(0,x),(1,y),(2,z)]){fu fv ft:Fn}{lu lv lt:Array Value}(hx:a.eval x=.func fu #[] lu)(hy:a.eval y=.func fv #[] lv)(hz:a.eval z=.func ft #[] lt)(h:K (a.put o.dst (.slice (some ⟨w.heap.size,0,none⟩) 3 3)) (w.alloc (.cells #[.func fu #[] lu,.func fv #[] lv,.func ft #[] lt] 103))):Oper.wp Tryz.prog o a w K Q:=by
 unfold Oper.wp Oper.upon execOp
 simp only[ho]
 generalize a.eval=ρ at hx hy hz⊢
 go_simp
 exact h
structure GvS (w:World)(F N:Nat→Prop)(p:Nat)(kn:Int→Option Int)(n:Nat)(D:List KV)(F1:Nat→Prop)(f:Nat→Value)(P:Nat→List Int)(W:World):Prop where
 view:aK W F1 p kn D
 from':∀k,F1 k→F k∨w.heap.size≤k
 turn:Turned F w W
 inv:cF n D
 box:W.heap[w.heap.size+1]?=some (.cells (puA f) 32 (0,0))
 pu:cR (fun q=>N q∨F1 q) W f P
 res:W.heap[w.heap.size+2]?=some (.cells #[.slice none 0 0,.slice none 0 0,.slice none 0 0,.slice none 0 0,.slice none 0 0] 32 (0,0))
 n1:¬F1 (w.heap.size+1)
 n2:¬F1 (w.heap.size+2)
theorem GvS.fin {w W wx:World}{F N F1:Nat→Prop}{p n:Nat}{kn:Int→Option Int}{D:List KV}{f f9:Nat→Value}{P P':Nat→List Int}(g:GvS w F N p kn n D F1 f P W)(mx:ae W wx)(px:cR (fun q=>N q∨F1 q) wx f9 P'):
 (wx.setRow (w.heap.size+1) (puA f9)).heap[w.heap.size+1]?=some (.cells (puA f9) 32 (0,0)) ∧
 (wx.setRow (w.heap.size+1) (puA f9)).heap[w.heap.size+2]?=some (.cells #[.slice none 0 0,.slice none 0 0,.slice none 0 0,.slice none 0 0,.slice none 0 0] 32 (0,0)) ∧
 ∀Rr,Rr=.ok ((),P') D→iw w F N p kn (fun(_:Unit) v=>v) Rr (.returned (.agg (puA f9))) ((wx.setRow (w.heap.size+1) (puA f9)).setRow (w.heap.size+2) (puA f9)):=by
 have b1:=mx.block g.box
 have b2:=mx.block g.res
 have x1:=setRow_heap wx (w.heap.size+1) _ (puA f9) _ _ b1
 have t1:Turned (fun k=>k=w.heap.size+1) wx (wx.setRow (w.heap.size+1) (puA f9)):=Turned.setRow (Turned.refl _ _) _ _ (fun _=>rfl)
 have x2:(wx.setRow (w.heap.size+1) (puA f9)).heap[w.heap.size+2]?=some (.cells #[.slice none 0 0,.slice none 0 0,.slice none 0 0,.slice none 0 0,.slice none 0 0] 32 (0,0)):=(t1.block _ (ac b2) (by omega)).trans b2
 generalize wx.setRow (w.heap.size+1) (puA f9)=wy at x1 x2 t1
 have t2:Turned (fun k=>k=w.heap.size+2) wy (wy.setRow (w.heap.size+2) (puA f9)):=Turned.setRow (Turned.refl _ _) _ _ (fun _=>rfl)
 refine⟨x1,x2,?_⟩
 rintro Rr rfl
 have v1:=(g.view.more mx).keepS t1 (fun k q e=>g.n1 (e▸q)) (fun k es cl e q=>by subst e;rw[b1] at q;cases q)
 have v2:=v1.keepS t2 (fun k q e=>g.n2 (e▸q)) (fun k es cl e q=>by subst e;rw[x2] at q;cases q)
 have p1:=px.keep t1 (fun k q=>by subst q;exact⟨_,_,_,b1,by decide⟩)
 have p2:=p1.keep t2 (fun k q=>by subst q;exact⟨_,_,_,x2,by decide⟩)
 refine⟨f9,F1,rfl,v2,?_,g.from',p2⟩
 exact am (am (am (F':=fun _=>False) g.turn mx (fun _ q=>q.elim)) t1 (fun k q=> .inr (by omega))) t2 (fun k q=> .inr (by omega))
theorem MD {d:Cfg}(R:d.Ok){n:Nat}(H:cH d.pg d.st n)(hw:(n:Int)=d.words)(hn:n≤10000){bt:Nat}(F N:Nat→Prop)(p:Nat)(kn:Int→Option Int)(D:List KV)(w:World)(u k a:Int)(f:Nat→Value)(P:Nat→List Int)
 (hv:aK w F p kn D) (hk:OkK kn) (hD:cF n D) (hs:dg bt w) (nF0:¬F 0) (nFb:¬F bt) (hN:∀k,N k→k<w.heap.size) (pu:cR (fun q=>N q∨F q) w f P) (hP:dr d P) (ha:W64 a):
 Calls Tryz.prog 40 #[.pointer (some ⟨p,0,none⟩),.agg d.arr,.int .i64 u,.agg (puA f),.int .i64 k,.int .i64 a] w (iw w F N p kn (fun _ v=>v) (gvP d u P k a kn D)):=by
 obtain⟨Rr,hRr⟩:∃Rr,gvP d u P k a kn D=Rr:=⟨_,rfl⟩
 rw[hRr]
 obtain⟨w3,e3,b0,b1,b2,m3,s3⟩:=kG w (.cells d.arr 28) (.cells (puA f) 32) (.cells #[.slice none 0 0,.slice none 0 0,.slice none 0 0,.slice none 0 0,.slice none 0 0] 32)
 have L0:=hQQ b0
 have BP:=hQQ b1
 have BZ:=hQQ b2
 have HM:=hQQ m3
 have HR:=hQQ R
 have HH:=hQQ H
 have HK:=hQQ hk
 have HS3:=hQQ s3
 have PU:=hQQ (pu.more m3)
 have HLN:=hQQ (hP.len R)
 clear b0 b1 b2 m3 s3 R H hk
 by_cases q:caV d u k=0
 ·have q0:(caV d u k != 0)=false:=by simp[q]
  unfold gvP at hRr
  rw[if_pos q] at hRr
  clear q
  go_enter Tryz.func40,Tryz.ntmps40
  go_wp2_with (refine wpList_load_row rfl 28 _ rfl _ rfl 28 _ _ _ L0.o Tryz.underlying28 rfl (by kernel_rfl) ?_)
  refine(rK HR.o u k w3).mono ?_
  rintro e w4 ⟨rfl,h4⟩
  rw[q0]
  have X1:=hQQ (h4.block BP.o)
  have X2:=hQQ (h4.block BZ.o)
  have AL:=hQQ (Pu.all1 pu.1)
  have mz:ae w (w4.setRow (w.heap.size+2) (puA f)):=(HM.o.trans h4).setRow _ _ (by omega)
  have FIN:Hq (iw w F N p kn (fun(_:Unit) v=>v) Rr (.returned (.agg (puA f))) (w4.setRow (w.heap.size+2) (puA f))):=hQQ (by
   have:Rr=.ok ((),P) D:=hRr.symm
   subst this
   exact⟨f,F,rfl,hv.more mz,Turned.mono mz (fun _ _ q=>q.elim),fun b q=> .inl q,pu.more mz⟩)
  clear h4 mz hRr
  go_wp2_with (first
   |(refine wpList_load_row rfl 32 _ rfl _ rfl 32 _ _ _ X1.o Tryz.underlying32 rfl (by kernel_rfl) ?_)
   |(refine wpList_store_row rfl 32 _ _ rfl _ (puA f) rfl rfl 32 _ X2.o (by kernel_rfl) rfl AL.o ?_))
  refine bodyPost_ret (v:=.agg (puA f)) (results_cell_row Tryz.results40 _ _ _ 32 _ (0,0) _ rfl (setRow_heap _ _ _ _ _ _ X2.o) Tryz.underlying32 rfl (by kernel_rfl)) rfl FIN.o
 ·have HQ:=hQQ ((jM HR.o u k).1 q)
  have q0:(caV d u k != 0)=true:=by simp[q]
  obtain⟨j,rfl⟩:∃j:Nat,k=j:=⟨k.toNat,by have:=HQ.o.1;omega⟩
  have hj:j<5:=by have:=HQ.o.2.1;omega
  unfold gvP at hRr
  rw[if_neg q] at hRr
  clear q
  go_enter Tryz.func40,Tryz.ntmps40
  go_wp2_with (refine wpList_load_row rfl 28 _ rfl _ rfl 28 _ _ _ L0.o Tryz.underlying28 rfl (by kernel_rfl) ?_)
  refine(rK HR.o u j w3).mono ?_
  rintro e w4 ⟨rfl,h4⟩
  rw[q0]
  have M4:=hQQ h4
  have L4:=hQQ (h4.block L0.o)
  have B4:=hQQ (h4.block BP.o)
  have PU4:=hQQ (PU.o.more h4)
  clear h4
  go_wp2_with fail
  have hf:=BH d
  by_cases hful:d.pr≤cZ P j
  ·have d1:decide (d.pr≤cZ P j)=true:=by simp[hful]
   have HFUL:=hQQ hful
   rw[if_pos hful] at hRr
   have NEED:Hq (∀a' w2,dG d.us d.pg d.st (wy3 d u j) j d.ba.toNat P kn D=.need a'→aQ w2 p a'→Turned F w w2→iw w F N p kn (fun _ v=>v) Rr (.panicked (aY p)) w2):=hQQ fun a' w2 e hd ht=>by
    have:Rr=.need a':=hRr.symm.trans (ah e)
    subst this
    exact⟨rfl,hd,ht⟩
   have RR:Hq (∀P9 D9,dG d.us d.pg d.st (wy3 d u j) j d.ba.toNat P kn D=.ok P9 D9→Rr=.ok ((),ea P9 j a (cZ P9 j+1)) D9):=hQQ fun P9 D9 e=>hRr.symm.trans (ak e)
   clear hful hRr
   refine bU (by kernel_rfl) (by kernel_rfl) ?_
   refine aP rfl 32 _ rfl _ rfl 32 _ _ _ (fun W hW=>hW.block B4.o) Tryz.underlying32 rfl (by kernel_rfl) ?_
   iterate 1
    with_reducible refine wpQuiet_step (fun K hK=>?_)
    go_simp
    first
    |(refine hK _ ?_;clear hK K)
    |(apply Exists.intro
      refine⟨fun W hW=>?_,hK _ ?_⟩
      first
      |(go_simp;try rfl)
      clear hK K)
   iterate 1
    with_reducible refine wpQuiet_step (fun K hK=>?_)
    go_simp
    first
    |(refine hK _ ?_;clear hK K)
    |(apply Exists.intro
      refine⟨fun W hW=>?_,hK _ ?_⟩
      first
      |(have hl:=mt f P j W (PU4.o.more hW).1;go_at_call 21;exact Calls.more hW hl)
      clear hK K)
   refine aP rfl 28 _ rfl _ rfl 28 _ _ _ (fun W hW=>hW.block L4.o) Tryz.underlying28 rfl (by kernel_rfl) ?_
   iterate 1
    with_reducible refine wpQuiet_step (fun K hK=>?_)
    go_simp
    first
    |(refine hK _ ?_;clear hK K)
    |(apply Exists.intro
      refine⟨fun W hW=>?_,hK _ ?_⟩
      first
      |(go_at_call 20;exact Calls.more hW (dx HR.o W))
      clear hK K)
   iterate 2
    with_reducible refine wpQuiet_step (fun K hK=>?_)
    go_simp
    first
    |(refine hK _ ?_;clear hK K)
    |(apply Exists.intro
      refine⟨fun W hW=>?_,hK _ ?_⟩
      first
      |(go_simp;try rfl)
      clear hK K)
   refine wpQuiet_nil ?_
   intro wr mr
   clear hf
   have MW:=hQQ mr
   have KC:Hq (∀W,ae wr W→W.heap[w.heap.size]?=some (.cells d.arr 28 (0,0))):=hQQ fun W hW=>hW.block (mr.block L4.o)
   have BP:=hQQ (mr.block B4.o)
   have BZ:=hQQ (mr.block (M4.o.block BZ.o))
   have PU:=hQQ (PU4.o.more mr)
   have HM:=hQQ (HM.o.trans (M4.o.trans mr))
   clear mr PU4 L4 B4
   go_wp2_with fail
   clear d1
   refine aR (fun W=>W.heap[w.heap.size]?=some (.cells d.arr 28 (0,0))) (by kernel_rfl) ?_
   change dq _ _ _ _ _ _ _ _ (wr.drewN 1)
   have MR:Hq (ae wr (wr.drewN 1)):=hQQ ((ae.refl wr).drewN 1)
   generalize wr.drewN 1=wq at MR⊢
   generalize hA:Act.mk _ _=A
   have HF:AG 59 A [(0,.pointer (some ⟨p,0,none⟩)),(2,.int .i64 u),(4,.int .i64 (j:Int)),(5,.int .i64 a),(7,.pointer (some ⟨w.heap.size,0,none⟩)),(9,.pointer (some ⟨w.heap.size+1,0,none⟩))]:=by
    rw[←hA];try simp only[pts,List.foldl]
    refine⟨⟨Nat.le_of_ble_eq_true rfl,rfl⟩,?_⟩
    intro z hz;simp only[List.mem_cons,List.not_mem_nil,or_false] at hz;rcases hz with rfl|rfl|rfl|rfl|rfl|rfl<;>rfl
   refine bK (fun a W=>∃(u26 u27 u31 u32 u33 u34 u37 u38 u39 u42 u43 u28 u29 u30 u35 u36 u40 u41 u44 u45 u46:Value),a=(pts A [(26,u26),(27,u27),(31,u31),(32,u32),(33,u33),(34,u34),(37,u37),(38,u38),(39,u39),(42,u42),(43,u43),(28,u28),(29,u29),(30,u30),(35,u35),(36,u36),(40,u40),(41,u41),(44,u44),(45,u45),(46,u46)])∧∃f9 P9 D9 F9,GvS w F N p kn n D9 F9 f9 P9 W∧dG d.us d.pg d.st (wy3 d u j) j d.ba.toNat P kn D=.ok P9 D9) (fun W=>iw w F N p kn (fun _ v=>v) Rr (.panicked (aY p)) W) (aY p) (fun a W hd h=>⟨hd,h⟩) (fun _ _ _ _ _ h=>h) ?_ ?_
   ·skip
    rintro a9 wa ⟨u26,u27,u31,u32,u33,u34,u37,u38,u39,u42,u43,u28,u29,u30,u35,u36,u40,u41,u44,u45,u46,rfl,f9,P9,D9,F9,hg,he⟩
    rw[←hA];try simp only[pts,List.foldl]
    have G9:=hQQ hg
    have E9:=hQQ he
    clear HF hA MR hg he
    go_simp
    clear KC PU
    have PU:Hq (cR (fun q=>N q∨F9 q) wa f9 P9):=hQQ G9.o.pu
    have BP:=hQQ G9.o.box
    have FL:Hq (∀q,N q∨F9 q→q<wa.heap.size):=hQQ fun q z=>z.elim (fun y=>Nat.lt_of_lt_of_le (hN q y) G9.o.turn.size) (G9.o.view.lt q)
    have LG:=(ub HR.o HH.o hw hn HQ.o hP)
    rw[if_pos HFUL.o] at LG
    have LG2:=(LG.ok HK.o hD E9.o).2
    have HLN:Hq (∀q,q<5→(P9 q).length≤1000000):=hQQ (LG2.1.len HR.o)
    have WR:Hq (IntKind.i64.wrap (cZ P9 j+1)=cZ P9 j+1):=hQQ (by rw[dF P9 hj];have:=HLN.o j hj;exact aB (by omega) (by omega))
    obtain⟨wr2,hwr⟩:∃x,x=wr:=⟨_,rfl⟩
    clear hwr wr2 LG LG2
    have RQ:=hQQ (RR.o P9 D9 E9.o)
    clear RR NEED E9 HFUL
    go_wp2_with fail
    refine jt (ae wa) 11 (by kernel_rfl) ?_
    change lq _ _ _ _ _ _ _ _ _ (wa.drewN 1)
    have MR:Hq (ae wa (wa.drewN 1)):=hQQ ((ae.refl wa).drewN 1)
    generalize wa.drewN 1=wq at MR⊢
    generalize hA:Act.mk _ _=A
    have HF:AG 59 A [(4,.int .i64 (j:Int)),(5,.int .i64 a),(9,.pointer (some ⟨w.heap.size+1,0,none⟩)),(12,.pointer (some ⟨w.heap.size+2,0,none⟩))]:=by
     rw[←hA];try simp only[pts,List.foldl]
     refine⟨⟨Nat.le_of_ble_eq_true rfl,rfl⟩,?_⟩
     intro z hz;simp only[List.mem_cons,List.not_mem_nil,or_false] at hz;rcases hz with rfl|rfl|rfl|rfl<;>rfl
    refine oI (fun aa W=>∃(u48 u49 u50 u51 u52 u53 u54 u55 u47 u56 u57:Value),aa=(Act.put (pts A [(48,u48),(49,u49),(50,u50),(51,u51),(52,u52),(53,u53),(54,u54),(55,u55),(47,u47),(56,u56),(57,u57)]) none undef)∧∃wx f9,ae wa wx∧cR (fun q=>N q∨F9 q) wx f9 (ea P9 j a (cZ P9 j+1))∧W=wx.setRow (w.heap.size+1) (puA f9)) (fun _=>False) [] (fun a W hd h=>h.elim) (fun _ _ _ _ _ h=>h) ?_ ?_
    ·skip
     rintro a9 wb ⟨u48,u49,u50,u51,u52,u53,u54,u55,u47,u56,u57,rfl,wx,fz,mx,px,rfl⟩
     rw[←hA];try simp only[pts,List.foldl]
     obtain⟨e1,e2,e3⟩:=GvS.fin G9.o mx px
     have X1:=hQQ e1
     have X2:=hQQ e2
     have FIN:=hQQ (e3 Rr RQ.o)
     have AL:=hQQ (Pu.all1 px.1)
     clear HF hA MR e1 e2 e3 mx px
     go_simp
     go_wp2_with (first
      |(refine wpList_load_row rfl 32 _ rfl _ rfl 32 _ _ _ X1.o Tryz.underlying32 rfl (by kernel_rfl) ?_)
      |(refine wpList_store_row rfl 32 _ _ rfl _ (puA fz) rfl rfl 32 _ X2.o (by kernel_rfl) rfl AL.o ?_))
     refine bodyPost_ret (v:=.agg (puA fz)) (results_cell_row Tryz.results40 _ _ _ 32 _ (0,0) _ rfl (setRow_heap _ _ _ _ _ _ X2.o) Tryz.underlying32 rfl (by kernel_rfl)) rfl FIN.o
    intro QQ FINE FIND FINQ
    clear hA
    refine ce (i:=0) (v:=.agg (puA f9)) (by kernel_rfl) (by kernel_rfl) (by kernel_rfl) (some 48) rfl rfl (by kernel_rfl) (by kernel_rfl) (by kernel_rfl) (fun c a w=>FINQ c a _ _ w) MR.o (by exact aF (C:=(ae wa)) (ab rfl) 32 _ rfl (w.heap.size+1) (HF.get 2 rfl) 32 _ _ _ (fun W hW=>hW.block BP.o) Tryz.underlying32 rfl (by kernel_rfl)) ?_
    replace HF:=HF.put 48 (.agg (puA f9)) (by decide) rfl
    generalize hB1_48:Act.put _ _ _=A at HF⊢
    refine ce (i:=1) (v:=.int .i64 (j:Int)) (by kernel_rfl) (by kernel_rfl) (by kernel_rfl) (some 49) rfl rfl (by kernel_rfl) (by kernel_rfl) (by kernel_rfl) (fun c a w=>FINQ c a _ _ w) MR.o (by exact aH (ab rfl) _ rfl (HF.get 1 rfl)) ?_
    replace HF:=HF.put 49 (.int .i64 (j:Int)) (by decide) rfl
    generalize hB2_49:Act.put _ _ _=A at HF⊢
    refine ce (i:=2) (v:=.int .i64 a) (by kernel_rfl) (by kernel_rfl) (by kernel_rfl) (some 50) rfl rfl (by kernel_rfl) (by kernel_rfl) (by kernel_rfl) (fun c a w=>FINQ c a _ _ w) MR.o (by exact aH (ab rfl) _ rfl (HF.get 3 rfl)) ?_
    replace HF:=HF.put 50 (.int .i64 a) (by decide) rfl
    generalize hB3_50:Act.put _ _ _=A at HF⊢
    refine ce (i:=3) (v:=.agg (puA f9)) (by kernel_rfl) (by kernel_rfl) (by kernel_rfl) (some 51) rfl rfl (by kernel_rfl) (by kernel_rfl) (by kernel_rfl) (fun c a w=>FINQ c a _ _ w) MR.o (by exact aF (C:=(ae wa)) (ab rfl) 32 _ rfl (w.heap.size+1) (HF.get 5 rfl) 32 _ _ _ (fun W hW=>hW.block BP.o) Tryz.underlying32 rfl (by kernel_rfl)) ?_
    replace HF:=HF.put 51 (.agg (puA f9)) (by decide) rfl
    generalize hB4_51:Act.put _ _ _=A at HF⊢
    refine ce (i:=4) (v:=.int .i64 (j:Int)) (by kernel_rfl) (by kernel_rfl) (by kernel_rfl) (some 52) rfl rfl (by kernel_rfl) (by kernel_rfl) (by kernel_rfl) (fun c a w=>FINQ c a _ _ w) MR.o (by exact aH (ab rfl) _ rfl (HF.get 4 rfl)) ?_
    replace HF:=HF.put 52 (.int .i64 (j:Int)) (by decide) rfl
    generalize hB5_52:Act.put _ _ _=A at HF⊢
    refine fG (i:=5) (some 53) (by kernel_rfl) rfl (ab rfl) rfl (fun K hK=>?_)
    refine bI (v0:=.agg (puA f9)) (v1:=.int .i64 (j:Int)) rfl (HF.get 1 rfl) (HF.get 0 rfl) (enters_of Tryz.func21 (by kernel_rfl) rfl) ?_
    refine(mt f9 P9 j wq (PU.o.more MR.o).1).mono ?_
    rintro e w7 ⟨rfl,h7⟩
    have M7:=hQQ (MR.o.trans h7)
    clear h7
    refine hK _ _ (.inr M7.o) ?_
    clear hK K
    replace HF:=HF.put 53 (.int .i64 (cZ P9 j)) (by decide) rfl
    generalize hB6_53:Act.put _ _ _=A at HF⊢
    refine ce (i:=6) (v:=.int .i64 (cZ P9 j+1)) (by kernel_rfl) (by kernel_rfl) (by kernel_rfl) (some 54) rfl rfl (by kernel_rfl) (by kernel_rfl) (by kernel_rfl) (fun c a w=>FINQ c a _ _ w) M7.o (by exact gw (ab rfl) rfl (HF.get 0 rfl) rfl _ WR.o) ?_
    replace HF:=HF.put 54 (.int .i64 (cZ P9 j+1)) (by decide) rfl
    generalize hB7_54:Act.put _ _ _=A at HF⊢
    refine fG (i:=7) (some 55) (by kernel_rfl) rfl (ab rfl) rfl (fun K hK=>?_)
    refine sB (v0:=.agg (puA f9)) (v1:=.int .i64 (j:Int)) (v2:=.int .i64 a) (v3:=.int .i64 (cZ P9 j+1)) rfl (HF.get 6 rfl) (HF.get 5 rfl) (HF.get 4 rfl) (HF.get 0 rfl) (enters_of Tryz.func67 (by kernel_rfl) rfl) ?_
    refine(xt (fun q=>¬(fun q=>N q∨F9 q) q) f9 P9 j a (cZ P9 j+1) w7 (PU.o.more M7.o).1 PU.o.2 HLN.o).mono ?_
    intro e w8 he
    obtain⟨f8,rfl,h8,m8⟩:=eI.at he (fun q z=>Nat.lt_of_lt_of_le (FL.o q z) M7.o.size)
    have P8:=hQQ h8
    have M8:=hQQ (M7.o.trans m8)
    clear he h8 m8
    refine hK _ _ (.inr M8.o) ?_
    clear hK K
    replace HF:=HF.put 55 (.tuple #[.agg (puA f8),.bool (dV P9 j (cZ P9 j+1))]) (by decide) rfl
    generalize hB8_55:Act.put _ _ _=A at HF⊢
    refine ce (i:=8) (v:=.tuple #[.agg (puA f8),.bool (dV P9 j (cZ P9 j+1))]) (by kernel_rfl) (by kernel_rfl) (by kernel_rfl) (some 47) rfl rfl (by kernel_rfl) (by kernel_rfl) (by kernel_rfl) (fun c a w=>FINQ c a _ _ w) M8.o (by exact aH (ab rfl) _ rfl (HF.get 0 rfl)) ?_
    replace HF:=HF.put 47 (.tuple #[.agg (puA f8),.bool (dV P9 j (cZ P9 j+1))]) (by decide) rfl
    generalize hB9_47:Act.put _ _ _=A at HF⊢
    refine ce (i:=9) (v:=.agg (puA f8)) (by kernel_rfl) (by kernel_rfl) (by kernel_rfl) (some 56) rfl rfl (by kernel_rfl) (by kernel_rfl) (by kernel_rfl) (fun c a w=>FINQ c a _ _ w) M8.o (by exact(Or.inl ⟨(ab rfl),fun W hW=>by have h5:=(HF.getD 0 rfl);go_simp⟩)) ?_
    replace HF:=HF.put 56 (.agg (puA f8)) (by decide) rfl
    generalize hB10_56:Act.put _ _ _=A at HF⊢
    refine oH (i:=10) (v:=.bool (dV P9 j (cZ P9 j+1))) (by kernel_rfl) (some 57) rfl rfl (by kernel_rfl) (by kernel_rfl) (by kernel_rfl) (fun c a w=>FINQ c a _ _ w) M8.o (by exact(Or.inl ⟨(ab rfl),fun W hW=>by have h5:=(HF.getD 1 rfl);go_simp⟩)) ?_
    replace HF:=HF.put 57 (.bool (dV P9 j (cZ P9 j+1))) (by decide) rfl
    generalize hB11_57:Act.put _ _ _=A at HF⊢
    refine fG (i:=11) none (by kernel_rfl) rfl (ab rfl) rfl (fun K hK=>?_)
    refine wp_store_row 32 _ _ rfl (w.heap.size+1) _ (HF.get 13 rfl) (HF.get 1 rfl) 32 _ (M8.o.block BP.o) (by kernel_rfl) rfl (Pu.all1 P8.o.1) ?_
    refine hK _ _ (.inl (by kernel_rfl)) ?_
    exact qA (by kernel_rfl) (FINE _ _ ⟨(.agg (puA f9)),(.int .i64 (j:Int)),(.int .i64 a),(.agg (puA f9)),(.int .i64 (j:Int)),(.int .i64 (cZ P9 j)),(.int .i64 (cZ P9 j+1)),(.tuple #[.agg (puA f8),.bool (dV P9 j (cZ P9 j+1))]),(.tuple #[.agg (puA f8),.bool (dV P9 j (cZ P9 j+1))]),(.agg (puA f8)),(.bool (dV P9 j (cZ P9 j+1))),by rw[←hB11_57,←hB10_56,←hB9_47,←hB8_55,←hB7_54,←hB6_53,←hB5_52,←hB4_51,←hB3_50,←hB2_49,←hB1_48]<;>rfl,w8,f8,M8.o,P8.o,rfl⟩)
   intro QQ FINE FIND FINQ
   clear hA
   refine tqM 0 26 2 rfl (.inl rfl) rfl (by kernel_rfl) FINQ (KC.o _ MR.o) HF fun A hB1_26 HF=>?_
   refine tqC 1 27 (.agg d.arr) (by kernel_rfl) FINQ (KC.o _ MR.o) HF (by exact aF (ab rfl) 28 _ rfl w.heap.size (HF.get 5 rfl) 28 _ _ _ (fun W hW=>hW) Tryz.underlying28 rfl (by kernel_rfl)) fun A hB2_27 HF=>?_
   refine tqM 5 31 2 rfl (.inl rfl) rfl (by kernel_rfl) FINQ (KC.o _ MR.o) HF fun A hB3_31 HF=>?_
   refine tqC 6 32 (.agg d.arr) (by kernel_rfl) FINQ (KC.o _ MR.o) HF (by exact aF (ab rfl) 28 _ rfl w.heap.size (HF.get 7 rfl) 28 _ _ _ (fun W hW=>hW) Tryz.underlying28 rfl (by kernel_rfl)) fun A hB4_32 HF=>?_
   refine tqM 7 33 5 rfl (.inl rfl) rfl (by kernel_rfl) FINQ (KC.o _ MR.o) HF fun A hB5_33 HF=>?_
   refine tqM 8 34 7 rfl (.inl rfl) rfl (by kernel_rfl) FINQ (KC.o _ MR.o) HF fun A hB6_34 HF=>?_
   refine tqM 11 37 6 rfl (.inl rfl) rfl (by kernel_rfl) FINQ (KC.o _ MR.o) HF fun A hB7_37 HF=>?_
   refine tqC 12 38 (.agg d.arr) (by kernel_rfl) FINQ (KC.o _ MR.o) HF (by exact aF (ab rfl) 28 _ rfl w.heap.size (HF.get 11 rfl) 28 _ _ _ (fun W hW=>hW) Tryz.underlying28 rfl (by kernel_rfl)) fun A hB8_38 HF=>?_
   refine tqM 13 39 10 rfl (.inl rfl) rfl (by kernel_rfl) FINQ (KC.o _ MR.o) HF fun A hB9_39 HF=>?_
   refine tqM 16 42 9 rfl (.inl rfl) rfl (by kernel_rfl) FINQ (KC.o _ MR.o) HF fun A hB10_42 HF=>?_
   refine tqC 17 43 (.agg d.arr) (by kernel_rfl) FINQ (KC.o _ MR.o) HF (by exact aF (ab rfl) 28 _ rfl w.heap.size (HF.get 14 rfl) 28 _ _ _ (fun W hW=>hW) Tryz.underlying28 rfl (by kernel_rfl)) fun A hB11_43 HF=>?_
   refine az (i:=2) (some 28) (by kernel_rfl) rfl (ab rfl) rfl (fun K hK=>?_)
   refine mP (v0:=.agg d.arr) rfl (HF.get 9 rfl) (enters_of Tryz.func20 (by kernel_rfl) rfl) ?_
   refine(dx HR.o wq).mono ?_
   rintro e w7 ⟨rfl,h7⟩
   have N7:=hQQ h7
   have M7:=hQQ (MR.o.trans h7)
   clear h7
   refine hK _ _ (KC.o _ M7.o) ?_
   clear hK K
   replace HF:=HF.put 28 (.agg #[.int .i64 d.wk,.int .i64 d.cp,.int .i64 d.pg,.int .i64 d.st,.int .i64 d.tr,.int .i64 d.wt,.int .i64 d.ck,.int .i64 d.pr,.int .i64 d.ca,.int .i64 d.bi,.int .i64 d.ba]) (by decide) rfl
   generalize hB12_28:Act.put _ _ _=A at HF⊢
   refine tqC 3 29 (.int .i64 d.ba) (by kernel_rfl) FINQ (KC.o _ M7.o) HF (by exact(Or.inl ⟨(ab rfl),fun W hW=>by have h5:=(HF.getD 0 rfl);have hf:=Iy d;go_simp⟩)) fun A hB13_29 HF=>?_
   refine az (i:=4) (some 30) (by kernel_rfl) rfl (ab rfl) rfl (fun K hK=>?_)
   refine dP (v0:=.pointer (some ⟨w.heap.size+1,0,none⟩)) (v1:=.int .i64 (j:Int)) (v2:=.int .i64 d.ba) rfl (HF.get 18 rfl) (HF.get 12 rfl) (HF.get 0 rfl) (enters_of Tryz.func48 (by kernel_rfl) rfl) ?_
   refine(Dp (w.heap.size+1) j d.ba w7).mono ?_
   rintro e w8 ⟨rfl,rfl⟩
   obtain⟨w8,e8,b80,b81,b82,h8,s8⟩:=kG w7 (.cells #[.pointer (some ⟨w.heap.size+1,0,none⟩)] 102) (.cells #[.int .i64 (j:Int)] 3) (.cells #[.int .i64 d.ba] 3)
   rw[e8]
   have B80:=hQQ b80
   have B81:=hQQ b81
   have B82:=hQQ b82
   have N8:=hQQ h8
   have M8:=hQQ (M7.o.trans h8)
   clear h8 b80 b81 b82 e8 s8
   refine hK _ _ (KC.o _ M8.o) ?_
   clear hK K
   replace HF:=HF.put 30 (.func (.func 85) #[] #[.pointer (some ⟨w7.heap.size+2,0,none⟩),.pointer (some ⟨w7.heap.size,0,none⟩),.pointer (some ⟨w7.heap.size+1,0,none⟩)]) (by decide) rfl
   generalize hB14_30:Act.put _ _ _=A at HF⊢
   refine az (i:=9) (some 35) (by kernel_rfl) rfl (ab rfl) rfl (fun K hK=>?_)
   refine dP (v0:=.agg d.arr) (v1:=.int .i64 u) (v2:=.int .i64 (j:Int)) rfl (HF.get 10 rfl) (HF.get 9 rfl) (HF.get 8 rfl) (enters_of Tryz.func74 (by kernel_rfl) rfl) ?_
   refine(xu HR.o u j w8).mono ?_
   rintro e w9 ⟨rfl,h9⟩
   have N9:=hQQ h9
   have M9:=hQQ (M8.o.trans h9)
   clear h9
   refine hK _ _ (KC.o _ M9.o) ?_
   clear hK K
   replace HF:=HF.put 35 (.agg #[.int .i64 (caV d u j),.int .i64 d.ca]) (by decide) rfl
   generalize hB15_35:Act.put _ _ _=A at HF⊢
   refine az (i:=10) (some 36) (by kernel_rfl) rfl (ab rfl) rfl (fun K hK=>?_)
   refine bI (v0:=.pointer (some ⟨p,0,none⟩)) (v1:=.agg #[.int .i64 (caV d u j),.int .i64 d.ca]) rfl (HF.get 12 rfl) (HF.get 0 rfl) (enters_of Tryz.func73 (by kernel_rfl) rfl) ?_
   refine(Iw p (caV d u j) (d.ca) w9).mono ?_
   rintro e w10 ⟨rfl,rfl⟩
   obtain⟨w10,e1,b0,b1,h1,s1⟩:=gS w9 (.cells #[.pointer (some ⟨p,0,none⟩)] 43) (.cells #[.int .i64 (caV d u j),.int .i64 (d.ca)] 96)
   rw[e1]
   have V10:=hQQ b0
   have S10:=hQQ b1
   have N10:=hQQ h1
   have M10:=hQQ (M9.o.trans h1)
   clear h1 b0 b1 e1 s1
   refine hK _ _ (KC.o _ M10.o) ?_
   clear hK K
   replace HF:=HF.put 36 (.func (.func 103) #[] #[.pointer (some ⟨w9.heap.size,0,none⟩),.pointer (some ⟨w9.heap.size+1,0,none⟩)]) (by decide) rfl
   generalize hB16_36:Act.put _ _ _=A at HF⊢
   refine az (i:=14) (some 40) (by kernel_rfl) rfl (ab rfl) rfl (fun K hK=>?_)
   refine bI (v0:=.agg d.arr) (v1:=.int .i64 (j:Int)) rfl (HF.get 8 rfl) (HF.get 7 rfl) (enters_of Tryz.func75 (by kernel_rfl) rfl) ?_
   refine(Iz HR.o j w10).mono ?_
   rintro e w11 ⟨rfl,h9⟩
   have N11:=hQQ h9
   have M11:=hQQ (M10.o.trans h9)
   clear h9
   refine hK _ _ (KC.o _ M11.o) ?_
   clear hK K
   replace HF:=HF.put 40 (.agg #[.int .i64 (biV d j),.int .i64 d.bi]) (by decide) rfl
   generalize hB17_40:Act.put _ _ _=A at HF⊢
   refine az (i:=15) (some 41) (by kernel_rfl) rfl (ab rfl) rfl (fun K hK=>?_)
   refine bI (v0:=.pointer (some ⟨p,0,none⟩)) (v1:=.agg #[.int .i64 (biV d j),.int .i64 d.bi]) rfl (HF.get 10 rfl) (HF.get 0 rfl) (enters_of Tryz.func73 (by kernel_rfl) rfl) ?_
   refine(Iw p (biV d j) (d.bi) w11).mono ?_
   rintro e w12 ⟨rfl,rfl⟩
   obtain⟨w12,e1,b0,b1,h1,s1⟩:=gS w11 (.cells #[.pointer (some ⟨p,0,none⟩)] 43) (.cells #[.int .i64 (biV d j),.int .i64 (d.bi)] 96)
   rw[e1]
   have V12:=hQQ b0
   have S12:=hQQ b1
   have N12:=hQQ h1
   have M12:=hQQ (M11.o.trans h1)
   clear h1 b0 b1 e1 s1
   refine hK _ _ (KC.o _ M12.o) ?_
   clear hK K
   replace HF:=HF.put 41 (.func (.func 103) #[] #[.pointer (some ⟨w11.heap.size,0,none⟩),.pointer (some ⟨w11.heap.size+1,0,none⟩)]) (by decide) rfl
   generalize hB18_41:Act.put _ _ _=A at HF⊢
   refine az (i:=18) (some 44) (by kernel_rfl) rfl (ab rfl) rfl (fun K hK=>?_)
   refine bI (v0:=.pointer (some ⟨p,0,none⟩)) (v1:=.agg d.arr) rfl (HF.get 8 rfl) (HF.get 7 rfl) (enters_of Tryz.func49 (by kernel_rfl) rfl) ?_
   refine(BF p d w12).mono ?_
   rintro e w13 ⟨rfl,rfl⟩
   obtain⟨w13,e1,b0,b1,h1,s1⟩:=gS w12 (.cells #[.pointer (some ⟨p,0,none⟩)] 43) (.cells d.arr 28)
   rw[e1]
   have V13:=hQQ b0
   have S13:=hQQ b1
   have N13:=hQQ h1
   have M13:=hQQ (M12.o.trans h1)
   clear h1 b0 b1 e1 s1
   refine hK _ _ (KC.o _ M13.o) ?_
   clear hK K
   replace HF:=HF.put 44 (.func (.func 86) #[] #[.pointer (some ⟨w12.heap.size,0,none⟩),.pointer (some ⟨w12.heap.size+1,0,none⟩)]) (by decide) rfl
   generalize hB19_44:Act.put _ _ _=A at HF⊢
   refine az (i:=19) (some 45) (by kernel_rfl) rfl (ab rfl) rfl (fun K hK=>?_)
   refine Cf rfl (HF.get 3 rfl) (HF.get 1 rfl) (HF.get 0 rfl) ?_
   obtain⟨w14,e1,b14,h14,s14⟩:=bg w13 (.cells #[.func (.func 103) #[] #[.pointer (some ⟨w9.heap.size,0,none⟩),.pointer (some ⟨w9.heap.size+1,0,none⟩)],.func (.func 103) #[] #[.pointer (some ⟨w11.heap.size,0,none⟩),.pointer (some ⟨w11.heap.size+1,0,none⟩)],.func (.func 86) #[] #[.pointer (some ⟨w12.heap.size,0,none⟩),.pointer (some ⟨w12.heap.size+1,0,none⟩)]] 103)
   rw[e1]
   have B14:=hQQ b14
   have N14:=hQQ h14
   have M14:=hQQ (M13.o.trans h14)
   clear h14 b14 e1 s14
   refine hK _ _ (KC.o _ M14.o) ?_
   clear hK K
   replace HF:=HF.put 45 (.slice (some ⟨w13.heap.size,0,none⟩) 3 3) (by decide) rfl
   generalize hB20_45:Act.put _ _ _=A at HF⊢
   refine az (i:=20) (some 46) (by kernel_rfl) rfl (ab rfl) rfl (fun K hK=>?_)
   refine bI (v0:=.func (.func 85) #[] #[.pointer (some ⟨w7.heap.size+2,0,none⟩),.pointer (some ⟨w7.heap.size,0,none⟩),.pointer (some ⟨w7.heap.size+1,0,none⟩)]) (v1:=.slice (some ⟨w13.heap.size,0,none⟩) 3 3) rfl (HF.get 6 rfl) (HF.get 0 rfl) (enters_of Tryz.func47 (by kernel_rfl) rfl) ?_
   have Fq9:∀q,F q→q<w.heap.size:=hv.lt
   have S13:=S13
   have M0:ae w w14:=HM.o.trans M14.o
   have z7:w.heap.size+3≤w7.heap.size:=by have:=M7.o.size;have:=ac BZ.o;omega
   have z9:w7.heap.size+3≤w9.heap.size:=by have:=N9.o.size;have:=ac B82.o;omega
   have z11:w9.heap.size+2≤w11.heap.size:=by have:=N11.o.size;have:=ac S10.o;omega
   have z12:w11.heap.size+2≤w12.heap.size:=by have:=ac S12.o;omega
   have z13:w12.heap.size+2≤w13.heap.size:=by have:=ac S13.o;omega
   have n12:ae w12 w14:=N13.o.trans N14.o
   have n10:ae w10 w14:=(N11.o.trans N12.o).trans n12
   have n8:ae w8 w14:=(N9.o.trans N10.o).trans n10
   have HN14:∀k,N k→k<w14.heap.size:=fun k q=>Nat.lt_of_lt_of_le (hN k q) M0.size
   have LV:=rf HR.o HH.o hn F N HN14 p kn D HK.o (wy:=wy3 d u j) (xB HR.o HH.o hw hn HQ.o) (by simp[wy3]) (w7.heap.size+2) w7.heap.size (w7.heap.size+1) (w.heap.size+1) d.ba.toNat (by have:=HR.o.ba2;omega) j f P (hv.more M0) hD (hs.more M0) nF0 nFb (by have:=hs.lt0;omega) (by have:=hs.lt;omega)
    (by have:=HR.o.ba1;have e:((d.ba.toNat:Nat):Int)=d.ba:=by omega
        unfold c7;rw[e];exact n8.block B82.o) (n8.block B80.o) (n8.block B81.o) (M14.o.block BP.o) (PU.o.more M14.o)
    ⟨fun q=>by have:=Fq9 _ q;omega,fun q=>by have:=Fq9 _ q;omega,fun q=>by have:=Fq9 _ q;omega,fun q=>by have:=Fq9 _ q;omega⟩ ⟨by omega,by omega,by omega⟩ hP.w HLN.o w13.heap.size 3 ⟨ac B14.o,fun q=>by have:=Fq9 _ q;omega,by omega⟩
    (by
     have nn:∀x,w.heap.size+2≤x→¬(F x∨x=w.heap.size+1):=fun x hx q=>by
      rcases q with q|q
      ·have:=Fq9 _ q;omega
      ·omega
     intro i hi
     have hi3:i<3:=hi
     rcases (show i=0∨i=1∨i=2 by omega) with rfl|rfl|rfl
     ·exact⟨_,by simp[World.cell?,B14.o],_,_,rfl,n10.block V10.o,n10.block S10.o,nn _ (by omega),nn _ (by omega)⟩
     ·exact⟨_,by simp[World.cell?,B14.o],_,_,rfl,n12.block V12.o,n12.block S12.o,nn _ (by omega),nn _ (by omega)⟩
     ·exact⟨_,by simp[World.cell?,B14.o],_,_,rfl,N14.o.block V13.o,N14.o.block S13.o,nn _ (by omega),nn _ (by omega)⟩)
   refine LV.mono ?_
   intro e w15 he
   rcases hE:dG d.us d.pg d.st (wy3 d u j) j d.ba.toNat P kn D with a'|⟨P15,D15⟩
   ·rw[hE] at he
    obtain⟨rfl,hd,ht⟩:=he
    exact FIND _ _ HF.1.2 (NEED.o a' w15 hE hd (am (Turned.mono M0 (fun _ _ q=>q.elim)) ht (fun b q=>q.imp id (fun r=>by omega))))
   rw[hE] at he
   obtain⟨rfl,f15,F15,hv15,ht15,hf15,hi15,hb15,hp15⟩:=he
   have HE:=hQQ hE
   have nF15:∀b,b<w14.heap.size→¬F b→¬F15 b:=fun b hb nb q=>by rcases hf15 b q with r|r;exact nb r;omega
   have GV15:Hq (GvS w F N p kn n D15 F15 f15 P15 w15):=hQQ ⟨hv15,fun b q=>(hf15 b q).imp id (fun r=>by have:=M0.size;omega),am (Turned.mono M0 (fun _ _ q=>q.elim)) ht15 (fun b q=>q.imp id (fun r=>by omega)),hi15,hb15,hp15,(ht15.block (w.heap.size+2) (by have:=M14.o.size;have:=ac BZ.o;omega) (by rintro(q|q);have:=Fq9 _ q;omega;omega)).trans (M14.o.block BZ.o),nF15 _ (by have:=M14.o.size;have:=ac BZ.o;omega) (fun q=>by have:=Fq9 _ q;omega),nF15 _ (by have:=M14.o.size;have:=ac BZ.o;omega) (fun q=>by have:=Fq9 _ q;omega)⟩
   have EQ15:=hQQ hE
   have L15:Hq (w15.heap[w.heap.size]?=some (.cells d.arr 28 (0,0))):=hQQ ((ht15.block w.heap.size (by have:=M14.o.size;have:=ac BZ.o;omega) (by rintro(q|q);have:=Fq9 _ q;omega;omega)).trans (KC.o _ M14.o))
   clear LV hE hv15 ht15 hf15 hi15 hb15 hp15 nF15 Fq9 M0 z7 z9 z11 z12 z13 n12 n10 n8
   refine hK _ _ L15.o ?_
   clear hK K
   replace HF:=HF.put 46 (.tuple #[]) (by decide) rfl
   generalize hB21_46:Act.put _ _ _=A at HF⊢
   exact bQ (by kernel_rfl) (FINE _ _ ⟨(.int .i64 (j:Int)),(.agg d.arr),(.pointer (some ⟨p,0,none⟩)),(.agg d.arr),(.int .i64 u),(.int .i64 (j:Int)),(.pointer (some ⟨p,0,none⟩)),(.agg d.arr),(.int .i64 (j:Int)),(.pointer (some ⟨p,0,none⟩)),(.agg d.arr),(.agg #[.int .i64 d.wk,.int .i64 d.cp,.int .i64 d.pg,.int .i64 d.st,.int .i64 d.tr,.int .i64 d.wt,.int .i64 d.ck,.int .i64 d.pr,.int .i64 d.ca,.int .i64 d.bi,.int .i64 d.ba]),(.int .i64 d.ba),(.func (.func 85) #[] #[.pointer (some ⟨w7.heap.size+2,0,none⟩),.pointer (some ⟨w7.heap.size,0,none⟩),.pointer (some ⟨w7.heap.size+1,0,none⟩)]),(.agg #[.int .i64 (caV d u j),.int .i64 d.ca]),(.func (.func 103) #[] #[.pointer (some ⟨w9.heap.size,0,none⟩),.pointer (some ⟨w9.heap.size+1,0,none⟩)]),(.agg #[.int .i64 (biV d j),.int .i64 d.bi]),(.func (.func 103) #[] #[.pointer (some ⟨w11.heap.size,0,none⟩),.pointer (some ⟨w11.heap.size+1,0,none⟩)]),(.func (.func 86) #[] #[.pointer (some ⟨w12.heap.size,0,none⟩),.pointer (some ⟨w12.heap.size+1,0,none⟩)]),(.slice (some ⟨w13.heap.size,0,none⟩) 3 3),(.tuple #[]),by rw[←hB21_46,←hB20_45,←hB19_44,←hB18_41,←hB17_40,←hB16_36,←hB15_35,←hB14_30,←hB13_29,←hB12_28,←hB11_43,←hB10_42,←hB9_39,←hB8_38,←hB7_37,←hB6_34,←hB5_33,←hB4_32,←hB3_31,←hB2_27,←hB1_26]<;>rfl,f15,P15,D15,F15,GV15.o,EQ15.o⟩)
  ·have d1:decide (d.pr≤cZ P j)=false:=by simp[hful]
   rw[if_neg hful] at hRr
   have RR:=hQQ (show Rr=.ok ((),ea P j a (cZ P j+1)) D from hRr.symm)
   clear hful hRr
   refine bU (by kernel_rfl) (by kernel_rfl) ?_
   refine aP rfl 32 _ rfl _ rfl 32 _ _ _ (fun W hW=>hW.block B4.o) Tryz.underlying32 rfl (by kernel_rfl) ?_
   iterate 1
    with_reducible refine wpQuiet_step (fun K hK=>?_)
    go_simp
    first
    |(refine hK _ ?_;clear hK K)
    |(apply Exists.intro
      refine⟨fun W hW=>?_,hK _ ?_⟩
      first
      |(go_simp;try rfl)
      clear hK K)
   iterate 1
    with_reducible refine wpQuiet_step (fun K hK=>?_)
    go_simp
    first
    |(refine hK _ ?_;clear hK K)
    |(apply Exists.intro
      refine⟨fun W hW=>?_,hK _ ?_⟩
      first
      |(have hl:=mt f P j W (PU4.o.more hW).1;go_at_call 21;exact Calls.more hW hl)
      clear hK K)
   refine aP rfl 28 _ rfl _ rfl 28 _ _ _ (fun W hW=>hW.block L4.o) Tryz.underlying28 rfl (by kernel_rfl) ?_
   iterate 1
    with_reducible refine wpQuiet_step (fun K hK=>?_)
    go_simp
    first
    |(refine hK _ ?_;clear hK K)
    |(apply Exists.intro
      refine⟨fun W hW=>?_,hK _ ?_⟩
      first
      |(go_at_call 20;exact Calls.more hW (dx HR.o W))
      clear hK K)
   iterate 2
    with_reducible refine wpQuiet_step (fun K hK=>?_)
    go_simp
    first
    |(refine hK _ ?_;clear hK K)
    |(apply Exists.intro
      refine⟨fun W hW=>?_,hK _ ?_⟩
      first
      |(go_simp;try rfl)
      clear hK K)
   refine wpQuiet_nil ?_
   intro wr mr
   clear hf
   have MW:=hQQ mr
   have KC:Hq (∀W,ae wr W→W.heap[w.heap.size]?=some (.cells d.arr 28 (0,0))):=hQQ fun W hW=>hW.block (mr.block L4.o)
   have BP:=hQQ (mr.block B4.o)
   have BZ:=hQQ (mr.block (M4.o.block BZ.o))
   have PU:=hQQ (PU4.o.more mr)
   have HM:=hQQ (HM.o.trans (M4.o.trans mr))
   clear mr PU4 L4 B4
   have G9:Hq (GvS w F N p kn n D F f P wr):=hQQ ⟨hv.more HM.o,fun k q=> .inl q,Turned.mono HM.o (fun _ _ q=>q.elim),hD,BP.o,PU.o,BZ.o,fun q=>by have:=hv.lt _ q;omega,fun q=>by have:=hv.lt _ q;omega⟩
   have FL:Hq (∀q,N q∨F q→q<wr.heap.size):=hQQ fun q z=>z.elim (fun y=>Nat.lt_of_lt_of_le (hN q y) G9.o.turn.size) (G9.o.view.lt q)
   have WR:Hq (IntKind.i64.wrap (cZ P j+1)=cZ P j+1):=hQQ (by rw[dF P hj];have:=HLN.o j hj;exact aB (by omega) (by omega))
   have RQ:=RR
   clear d1 KC
   go_wp2_with fail
   refine jt (ae wr) 11 (by kernel_rfl) ?_
   change lq _ _ _ _ _ _ _ _ _ (wr.drewN 1)
   have MR:Hq (ae wr (wr.drewN 1)):=hQQ ((ae.refl wr).drewN 1)
   generalize wr.drewN 1=wq at MR⊢
   generalize hA:Act.mk _ _=A
   have HF:AG 59 A [(4,.int .i64 (j:Int)),(5,.int .i64 a),(9,.pointer (some ⟨w.heap.size+1,0,none⟩)),(12,.pointer (some ⟨w.heap.size+2,0,none⟩))]:=by
    rw[←hA];try simp only[pts,List.foldl]
    refine⟨⟨Nat.le_of_ble_eq_true rfl,rfl⟩,?_⟩
    intro z hz;simp only[List.mem_cons,List.not_mem_nil,or_false] at hz;rcases hz with rfl|rfl|rfl|rfl<;>rfl
   refine oI (fun aa W=>∃(u48 u49 u50 u51 u52 u53 u54 u55 u47 u56 u57:Value),aa=(Act.put (pts A [(48,u48),(49,u49),(50,u50),(51,u51),(52,u52),(53,u53),(54,u54),(55,u55),(47,u47),(56,u56),(57,u57)]) none undef)∧∃wx f9,ae wr wx∧cR (fun q=>N q∨F q) wx f9 (ea P j a (cZ P j+1))∧W=wx.setRow (w.heap.size+1) (puA f9)) (fun _=>False) [] (fun a W hd h=>h.elim) (fun _ _ _ _ _ h=>h) ?_ ?_
   ·skip
    rintro a9 wb ⟨u48,u49,u50,u51,u52,u53,u54,u55,u47,u56,u57,rfl,wx,fz,mx,px,rfl⟩
    rw[←hA];try simp only[pts,List.foldl]
    obtain⟨e1,e2,e3⟩:=GvS.fin G9.o mx px
    have X1:=hQQ e1
    have X2:=hQQ e2
    have FIN:=hQQ (e3 Rr RQ.o)
    have AL:=hQQ (Pu.all1 px.1)
    clear HF hA MR e1 e2 e3 mx px
    go_simp
    go_wp2_with (first
     |(refine wpList_load_row rfl 32 _ rfl _ rfl 32 _ _ _ X1.o Tryz.underlying32 rfl (by kernel_rfl) ?_)
     |(refine wpList_store_row rfl 32 _ _ rfl _ (puA fz) rfl rfl 32 _ X2.o (by kernel_rfl) rfl AL.o ?_))
    refine bodyPost_ret (v:=.agg (puA fz)) (results_cell_row Tryz.results40 _ _ _ 32 _ (0,0) _ rfl (setRow_heap _ _ _ _ _ _ X2.o) Tryz.underlying32 rfl (by kernel_rfl)) rfl FIN.o
   intro QQ FINE FIND FINQ
   clear hA
   refine ce (i:=0) (v:=.agg (puA f)) (by kernel_rfl) (by kernel_rfl) (by kernel_rfl) (some 48) rfl rfl (by kernel_rfl) (by kernel_rfl) (by kernel_rfl) (fun c a w=>FINQ c a _ _ w) MR.o (by exact aF (C:=(ae wr)) (ab rfl) 32 _ rfl (w.heap.size+1) (HF.get 2 rfl) 32 _ _ _ (fun W hW=>hW.block BP.o) Tryz.underlying32 rfl (by kernel_rfl)) ?_
   replace HF:=HF.put 48 (.agg (puA f)) (by decide) rfl
   generalize hB1_48:Act.put _ _ _=A at HF⊢
   refine ce (i:=1) (v:=.int .i64 (j:Int)) (by kernel_rfl) (by kernel_rfl) (by kernel_rfl) (some 49) rfl rfl (by kernel_rfl) (by kernel_rfl) (by kernel_rfl) (fun c a w=>FINQ c a _ _ w) MR.o (by exact aH (ab rfl) _ rfl (HF.get 1 rfl)) ?_
   replace HF:=HF.put 49 (.int .i64 (j:Int)) (by decide) rfl
   generalize hB2_49:Act.put _ _ _=A at HF⊢
   refine ce (i:=2) (v:=.int .i64 a) (by kernel_rfl) (by kernel_rfl) (by kernel_rfl) (some 50) rfl rfl (by kernel_rfl) (by kernel_rfl) (by kernel_rfl) (fun c a w=>FINQ c a _ _ w) MR.o (by exact aH (ab rfl) _ rfl (HF.get 3 rfl)) ?_
   replace HF:=HF.put 50 (.int .i64 a) (by decide) rfl
   generalize hB3_50:Act.put _ _ _=A at HF⊢
   refine ce (i:=3) (v:=.agg (puA f)) (by kernel_rfl) (by kernel_rfl) (by kernel_rfl) (some 51) rfl rfl (by kernel_rfl) (by kernel_rfl) (by kernel_rfl) (fun c a w=>FINQ c a _ _ w) MR.o (by exact aF (C:=(ae wr)) (ab rfl) 32 _ rfl (w.heap.size+1) (HF.get 5 rfl) 32 _ _ _ (fun W hW=>hW.block BP.o) Tryz.underlying32 rfl (by kernel_rfl)) ?_
   replace HF:=HF.put 51 (.agg (puA f)) (by decide) rfl
   generalize hB4_51:Act.put _ _ _=A at HF⊢
   refine ce (i:=4) (v:=.int .i64 (j:Int)) (by kernel_rfl) (by kernel_rfl) (by kernel_rfl) (some 52) rfl rfl (by kernel_rfl) (by kernel_rfl) (by kernel_rfl) (fun c a w=>FINQ c a _ _ w) MR.o (by exact aH (ab rfl) _ rfl (HF.get 4 rfl)) ?_
   replace HF:=HF.put 52 (.int .i64 (j:Int)) (by decide) rfl
   generalize hB5_52:Act.put _ _ _=A at HF⊢
   refine fG (i:=5) (some 53) (by kernel_rfl) rfl (ab rfl) rfl (fun K hK=>?_)
   refine bI (v0:=.agg (puA f)) (v1:=.int .i64 (j:Int)) rfl (HF.get 1 rfl) (HF.get 0 rfl) (enters_of Tryz.func21 (by kernel_rfl) rfl) ?_
   refine(mt f P j wq (PU.o.more MR.o).1).mono ?_
   rintro e w7 ⟨rfl,h7⟩
   have M7:=hQQ (MR.o.trans h7)
   clear h7
   refine hK _ _ (.inr M7.o) ?_
   clear hK K
   replace HF:=HF.put 53 (.int .i64 (cZ P j)) (by decide) rfl
   generalize hB6_53:Act.put _ _ _=A at HF⊢
   refine ce (i:=6) (v:=.int .i64 (cZ P j+1)) (by kernel_rfl) (by kernel_rfl) (by kernel_rfl) (some 54) rfl rfl (by kernel_rfl) (by kernel_rfl) (by kernel_rfl) (fun c a w=>FINQ c a _ _ w) M7.o (by exact gw (ab rfl) rfl (HF.get 0 rfl) rfl _ WR.o) ?_
   replace HF:=HF.put 54 (.int .i64 (cZ P j+1)) (by decide) rfl
   generalize hB7_54:Act.put _ _ _=A at HF⊢
   refine fG (i:=7) (some 55) (by kernel_rfl) rfl (ab rfl) rfl (fun K hK=>?_)
   refine sB (v0:=.agg (puA f)) (v1:=.int .i64 (j:Int)) (v2:=.int .i64 a) (v3:=.int .i64 (cZ P j+1)) rfl (HF.get 6 rfl) (HF.get 5 rfl) (HF.get 4 rfl) (HF.get 0 rfl) (enters_of Tryz.func67 (by kernel_rfl) rfl) ?_
   refine(xt (fun q=>¬(fun q=>N q∨F q) q) f P j a (cZ P j+1) w7 (PU.o.more M7.o).1 PU.o.2 HLN.o).mono ?_
   intro e w8 he
   obtain⟨f8,rfl,h8,m8⟩:=eI.at he (fun q z=>Nat.lt_of_lt_of_le (FL.o q z) M7.o.size)
   have P8:=hQQ h8
   have M8:=hQQ (M7.o.trans m8)
   clear he h8 m8
   refine hK _ _ (.inr M8.o) ?_
   clear hK K
   replace HF:=HF.put 55 (.tuple #[.agg (puA f8),.bool (dV P j (cZ P j+1))]) (by decide) rfl
   generalize hB8_55:Act.put _ _ _=A at HF⊢
   refine ce (i:=8) (v:=.tuple #[.agg (puA f8),.bool (dV P j (cZ P j+1))]) (by kernel_rfl) (by kernel_rfl) (by kernel_rfl) (some 47) rfl rfl (by kernel_rfl) (by kernel_rfl) (by kernel_rfl) (fun c a w=>FINQ c a _ _ w) M8.o (by exact aH (ab rfl) _ rfl (HF.get 0 rfl)) ?_
   replace HF:=HF.put 47 (.tuple #[.agg (puA f8),.bool (dV P j (cZ P j+1))]) (by decide) rfl
   generalize hB9_47:Act.put _ _ _=A at HF⊢
   refine ce (i:=9) (v:=.agg (puA f8)) (by kernel_rfl) (by kernel_rfl) (by kernel_rfl) (some 56) rfl rfl (by kernel_rfl) (by kernel_rfl) (by kernel_rfl) (fun c a w=>FINQ c a _ _ w) M8.o (by exact(Or.inl ⟨(ab rfl),fun W hW=>by have h5:=(HF.getD 0 rfl);go_simp⟩)) ?_
   replace HF:=HF.put 56 (.agg (puA f8)) (by decide) rfl
   generalize hB10_56:Act.put _ _ _=A at HF⊢
   refine oH (i:=10) (v:=.bool (dV P j (cZ P j+1))) (by kernel_rfl) (some 57) rfl rfl (by kernel_rfl) (by kernel_rfl) (by kernel_rfl) (fun c a w=>FINQ c a _ _ w) M8.o (by exact(Or.inl ⟨(ab rfl),fun W hW=>by have h5:=(HF.getD 1 rfl);go_simp⟩)) ?_
   replace HF:=HF.put 57 (.bool (dV P j (cZ P j+1))) (by decide) rfl
   generalize hB11_57:Act.put _ _ _=A at HF⊢
   refine fG (i:=11) none (by kernel_rfl) rfl (ab rfl) rfl (fun K hK=>?_)
   refine wp_store_row 32 _ _ rfl (w.heap.size+1) _ (HF.get 13 rfl) (HF.get 1 rfl) 32 _ (M8.o.block BP.o) (by kernel_rfl) rfl (Pu.all1 P8.o.1) ?_
   refine hK _ _ (.inl (by kernel_rfl)) ?_
   exact qA (by kernel_rfl) (FINE _ _ ⟨(.agg (puA f)),(.int .i64 (j:Int)),(.int .i64 a),(.agg (puA f)),(.int .i64 (j:Int)),(.int .i64 (cZ P j)),(.int .i64 (cZ P j+1)),(.tuple #[.agg (puA f8),.bool (dV P j (cZ P j+1))]),(.tuple #[.agg (puA f8),.bool (dV P j (cZ P j+1))]),(.agg (puA f8)),(.bool (dV P j (cZ P j+1))),by rw[←hB11_57,←hB10_56,←hB9_47,←hB8_55,←hB7_54,←hB6_53,←hB5_52,←hB4_51,←hB3_50,←hB2_49,←hB1_48]<;>rfl,w8,f8,M8.o,P8.o,rfl⟩)
end Go.Proofs.YtddmeghbmdfgeaaGreatDoor
