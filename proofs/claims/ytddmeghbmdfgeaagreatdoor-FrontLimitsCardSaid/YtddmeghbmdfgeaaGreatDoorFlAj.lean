/-
  The landed package extent: Take, Drop, First, Used, Trim.
-/
import Derived.Test.YtddmeghbmdfgeaaGreatDoorFlAi
import Derived.Test.YtddmeghbmdfgeaaGreatDoorFlAh
import Derived.Test.YtddmeghbmdfgeaaGreatDoorFlAb
import Derived.Deep.LoopGhost
import Derived.WalkMore
import Derived.Test.YtddmeghbmdfgeaaGreatDoorFlAa
set_option maxRecDepth 100000
set_option maxHeartbeats 8000000
set_option linter.unusedVariables false
set_option linter.unusedSimpArgs false
set_option linter.unusedSectionVars false
namespace Go.Proofs.YtddmeghbmdfgeaaGreatDoor
open Go.RowKit Go.Sort Go.Maps Go.Shelf
theorem Lz (x y:Int):(x != y)= !decide (x=y):=by by_cases q:x=y<;>simp[q]
theorem JI {pg st:Int}{m:Nat}{q:Int} :oZ pg st (m+1) q=ar (fg pg st q) (fun k=>if k=0 then oZ pg st m (q+1) else aA false):=rfl
theorem GI {c:Cfg}(R:c.Ok){n:Nat}(H:PgIn c.pg c.st n)(F:Nat→Prop)(p:Nat)(kn:Int→Option Int)(D:List KV)(q m:Int)(hq:W64 q)(w:World)(hv:aK w F p kn D)(hk:OkK kn)(hD:cF n D):
 Calls Tryz.prog 160 #[.pointer (some ⟨p,0,none⟩),.agg c.arr,.int .i64 q,.int .i64 m] w (aC w F p kn (fun b=> .bool b) (o6 c.pg c.st q m kn D)):=by
 obtain⟨Rr,hRr⟩:∃Rr,o6 c.pg c.st q m kn D=Rr:=⟨_,rfl⟩
 rw[hRr]
 obtain⟨w1,e1,hl1,m1,s1⟩:=bg w (.cells c.arr 28)
 have nFl:¬F w.heap.size:=fun q=>by have:=hv.lt _ q;omega
 have MM:=hQQ m1
 have L0:=hQQ hl1
 have M0:Hq (MidV w1 w1 F (fun _=>False) p kn n D F):=hQQ (MidV.begin (hv.more m1) hD)
 have KL:Hq (∀wr D' F',MidV w1 wr F (fun _=>False) p kn n D' F'→wr.heap[w.heap.size]?=some (.cells c.arr 28 (0,0))):=hQQ fun wr D' F' h=>cI h L0.o nFl (fun q=>q)
 have NEED:Hq (∀a w2,Rr=.need a→aQ w2 p a→Turned (fun b=>F b∨False) w1 w2→aC w F p kn (fun b:Bool=>Value.bool b) Rr (.panicked (aY p)) w2):=hQQ fun a w2 e hd ht=>cx MM.o (fun _ q=>q.elim) e hd ht
 have DONE:Hq (∀x w2 D' F',Rr=.ok x D'→MidV w1 w2 F (fun _=>False) p kn n D' F'→aC w F p kn (fun b:Bool=>Value.bool b) Rr (.returned ((fun b:Bool=>Value.bool b) x)) w2):=hQQ fun x w2 D' F' e h=>bZ MM.o (fun _ q=>q.elim) h e
 have HK:=hQQ hk
 have HR:=hQQ R
 have HH:=hQQ H
 clear hl1 m1 hv hD hk R H nFl
 have hfl:=fx c
 unfold o6 at hRr
 have pg1:=HR.o.pg1
 have pg2:=HR.o.pg2
 unfold W64 at hq
 by_cases a0:q<0
 ·have d0:decide (q<0)=true:=by simp[a0]
  have hth:cm c.pg q m=false:=by unfold cm;simp;omega
  rw[hth] at hRr
  have FIN:=hQQ (DONE.o false w1 D F hRr.symm M0.o)
  clear hRr
  go_enter Tryz.func160,Tryz.ntmps160
  go_wp2_with fail
  go_ret
  exact FIN.o
 have d0:decide (q<0)=false:=by simp;omega
 by_cases a1:m<1
 ·have d1:decide (m<1)=true:=by simp[a1]
  have hth:cm c.pg q m=false:=by unfold cm;simp;omega
  rw[hth] at hRr
  have FIN:=hQQ (DONE.o false w1 D F hRr.symm M0.o)
  clear hRr
  go_enter Tryz.func160,Tryz.ntmps160
  go_wp2_with fail
  go_ret
  exact FIN.o
 have d1:decide (m<1)=false:=by simp;omega
 have q1:IntKind.i64.wrap (c.pg-q)=c.pg-q:=aB (by omega) (by omega)
 by_cases a2:c.pg-q<m
 ·have d2:decide (c.pg-q<m)=true:=by simp[a2]
  have hth:cm c.pg q m=false:=by unfold cm;simp;omega
  rw[hth] at hRr
  have FIN:Hq (∀w2,ae w1 w2→aC w F p kn (fun b:Bool=>Value.bool b) Rr (.returned (.bool false)) w2):=hQQ fun w2 h=>DONE.o false w2 D F hRr.symm (M0.o.more h)
  clear hRr
  go_enter Tryz.func160,Tryz.ntmps160
  go_wp2_with (refine af rfl 28 _ rfl _ rfl 28 _ _ _ L0.o Tryz.underlying28 rfl (by kernel_rfl) ?_)
  refine(dx HR.o _).mono ?_
  rintro e w2 ⟨rfl,h2⟩
  have H2:=hQQ h2
  clear h2
  go_wp2_with fail
  go_ret
  exact FIN.o _ H2.o
 have d2:decide (c.pg-q<m)=false:=by simp;omega
 have hth:cm c.pg q m=true:=dZ.2 ⟨by omega,by omega,by omega⟩
 rw[hth,if_pos rfl] at hRr
 have HRr:=hQQ hRr
 have q2:IntKind.i64.wrap (q+m)=q+m:=aB (by omega) (by omega)
 clear hRr
 go_enter Tryz.func160,Tryz.ntmps160
 go_wp2_with (refine af rfl 28 _ rfl _ rfl 28 _ _ _ L0.o Tryz.underlying28 rfl (by kernel_rfl) ?_)
 refine(dx HR.o _).mono ?_
 rintro e w2 ⟨rfl,h2⟩
 have START:=hQQ (And.intro (M0.o.more h2) HRr.o)
 clear h2 HRr
 go_wp2_with fail
 go_loopw [9] (fun v9 wr=>∃(i:Nat) (D':List KV) (F':Nat→Prop),v9=.int .i64 (q+(i:Int))∧(i:Int)≤m∧MidV w1 wr F (fun _=>False) p kn n D' F'∧oZ c.pg c.st (m.toNat-i) (q+(i:Int)) kn D'=Rr) (fun v9 _=>(q+m-intOf v9).toNat)
 case atStart=>exact⟨0,D,F,by simp,by omega,START.o.1,by simpa using START.o.2⟩
 case round =>
  clear START
  obtain⟨i,D',F',rfl,hi,MI,hrest⟩:=hrel
  have MI:=hQQ MI
  have LI:=hQQ (KL.o _ _ _ MI.o)
  by_cases hlt:(i:Int)<m
  ·have d3:decide (q+(i:Int)<q+m)=true:=by simp;omega
   have q3:IntKind.i64.wrap (q+(i:Int)+1)=q+(i:Int)+1:=aB (by omega) (by omega)
   rw[show m.toNat-i=(m.toNat-(i+1))+1 by omega,JI] at hrest
   have RI:=hQQ hrest
   clear hrest
   go_wp2_with (refine af rfl 28 _ rfl _ rfl 28 _ _ _ LI.o Tryz.underlying28 rfl (by kernel_rfl) ?_)
   refine(sL HR.o HH.o F' p kn D' (q+(i:Int)) wr MI.o.view HK.o MI.o.inv).mono ?_
   intro e w4 he
   rcases MI.o.step (ae.refl _) HK.o (gh HH.o _) he with⟨a',hE,rfl,hd',ht',_⟩|⟨x4,D4,F4,hE,rfl,M4,hq4,_,_⟩
   ·exact⟨rfl,NEED.o a' w4 (RI.o.symm.trans (ah hE)) hd' ht'⟩
   have L4:=hQQ (KL.o _ _ _ M4)
   have R4:=hQQ ((ak hE).symm.trans RI.o)
   have M4:=hQQ M4
   clear he hE
   have b1:=Lz x4 0
   by_cases z:x4=0
   ·rw[show decide (x4=0)=true by simp[z]] at b1
    have NX:=hQQ (show oZ c.pg c.st (m.toNat-(i+1)) (q+(i:Int)+1) kn D4=Rr from by have:=R4.o;rwa [if_pos z] at this)
    clear R4 z
    go_wp2_with fail
    go_roundw
    case rel=>exact⟨i+1,D4,F4,by go_num,by omega,M4.o,by rw[show q+((i+1:Nat):Int)=q+(i:Int)+1 by omega];exact NX.o⟩
    case measure=>simp[intOf];omega
   ·rw[show decide (x4=0)=false by simp[z]] at b1
    have FIN:=hQQ (DONE.o false w4 D4 F4 (by have:=R4.o;rw[if_neg z] at this;exact this.symm) M4.o)
    clear R4 z
    go_wp2_with fail
    go_ret
    exact FIN.o
  ·obtain rfl:(i:Int)=m:=by omega
   have d3:decide (q+(i:Int)<q+(i:Int))=false:=by simp
   have FIN:=hQQ (DONE.o true wr D' F' (by rw[show((i:Int).toNat-i)=0 by omega] at hrest;exact hrest.symm) MI.o)
   clear hrest
   go_wp2_with fail
   go_ret
   exact FIN.o
theorem AR {pg st:Int}{n:Nat}(H:PgIn pg st n)(p:Int):bV n (fun k:Int=>ag pg p=false→k= -1) (fg pg st p):=
 aX (fun h=>dw (bu n (cu H h).1.2.1) (fun _ _ q=>by rw[h] at q;cases q)) (fun _=>aj n (fun _=>rfl))
theorem GJ {c:Cfg}(R:c.Ok){n:Nat}(H:PgIn c.pg c.st n)(F:Nat→Prop)(p:Nat)(kn:Int→Option Int)(D:List KV)(q:Int)(w:World)(hv:aK w F p kn D)(hk:OkK kn)(hD:cF n D):
 Calls Tryz.prog 149 #[.pointer (some ⟨p,0,none⟩),.agg c.arr,.int .i64 q] w (aC w F p kn (fun x=> .int .i64 x) (nI c.pg c.st q kn D)):=by
 obtain⟨Rr,hRr⟩:∃Rr,nI c.pg c.st q kn D=Rr:=⟨_,rfl⟩
 rw[hRr]
 obtain⟨w1,e1,hl1,m1,s1⟩:=bg w (.cells c.arr 28)
 have nFl:¬F w.heap.size:=fun q=>by have:=hv.lt _ q;omega
 have MM:=hQQ m1
 have L0:=hQQ hl1
 have M0:Hq (MidV w1 w1 F (fun _=>False) p kn n D F):=hQQ (MidV.begin (hv.more m1) hD)
 have KL:Hq (∀wr D' F',MidV w1 wr F (fun _=>False) p kn n D' F'→wr.heap[w.heap.size]?=some (.cells c.arr 28 (0,0))):=hQQ fun wr D' F' h=>cI h L0.o nFl (fun q=>q)
 have NEED:Hq (∀a w2,Rr=.need a→aQ w2 p a→Turned (fun b=>F b∨False) w1 w2→aC w F p kn (fun x:Int=>Value.int .i64 x) Rr (.panicked (aY p)) w2):=hQQ fun a w2 e hd ht=>cx MM.o (fun _ q=>q.elim) e hd ht
 have DONE:Hq (∀x w2 D' F',Rr=.ok x D'→MidV w1 w2 F (fun _=>False) p kn n D' F'→aC w F p kn (fun x:Int=>Value.int .i64 x) Rr (.returned ((fun x:Int=>Value.int .i64 x) x)) w2):=hQQ fun x w2 D' F' e h=>bZ MM.o (fun _ q=>q.elim) h e
 have HK:=hQQ hk
 have HR:=hQQ R
 have HH:=hQQ H
 clear hl1 m1 hv hD hk R H nFl
 have hfl:=fx c
 unfold nI at hRr
 have pg1:=HR.o.pg1
 have pg2:=HR.o.pg2
 have HRr:=hQQ hRr
 clear hRr
 go_enter Tryz.func149,Tryz.ntmps149
 go_wp2_with (refine af rfl 28 _ rfl _ rfl 28 _ _ _ L0.o Tryz.underlying28 rfl (by kernel_rfl) ?_)
 refine(sL HR.o HH.o F p kn D q w1 M0.o.view HK.o M0.o.inv).mono ?_
 intro e w2 he
 rcases M0.o.step (ae.refl _) HK.o (AR HH.o _) he with⟨a',hE,rfl,hd',ht',_⟩|⟨x2,D2,F2,hE,rfl,M2,hq2,_,_⟩
 ·exact⟨rfl,NEED.o a' w2 (HRr.o.symm.trans (ah hE)) hd' ht'⟩
 have L2:=hQQ (KL.o _ _ _ M2)
 have R2:=hQQ ((ak hE).symm.trans HRr.o)
 have M2:=hQQ M2
 clear he hE
 go_wp2_with fail
 refine(qc x2 _).mono ?_
 rintro e w3 ⟨rfl,h3⟩
 have M3:=hQQ (M2.o.more h3)
 have L3:=hQQ (KL.o _ _ _ M3.o)
 clear h3
 have R3:=R2.o
 cases hc:n6 x2 with
 |true =>
  rw[if_pos hc] at R3
  have FIN:=hQQ (DONE.o 1 w3 D2 F2 R3.symm M3.o)
  clear R3 R2
  go_wp2_with fail
  go_ret
  exact FIN.o
 |false =>
  rw[if_neg (by simp[hc])] at R3
  by_cases h6:x2=6
  ·rw[if_pos h6] at R3
   have b6:(x2==6)=true:=by simp[h6]
   have hpg:ag c.pg q=true:=by
    cases hp:ag c.pg q with
    |true=>rfl
    |false=>have:=hq2 hp;omega
   obtain⟨_,⟨_,_,hw64⟩,_⟩:=cu HH.o hpg
   have hpi:=ay.1 hpg
   have qs:IntKind.i64.wrap (c.pg-q)=c.pg-q:=aB (by omega) (by omega)
   cases hN:dN kn D2 (cA c.pg c.st q) with
   |none =>
    have DIE:Hq (∀W,aQ W p (cA c.pg c.st q)→Turned (fun b=>F b∨False) w1 W→aC w F p kn (fun x:Int=>Value.int .i64 x) Rr (.panicked (aY p)) W):=hQQ fun W hd ht=>NEED.o _ W (R3.symm.trans (ah (je hN))) hd ht
    clear R3 R2
    go_wp2_with fail
    refine wp_region_any (by kernel_rfl) ?_
    have MZ:=hQQ (M3.o.more ((ae.refl w3).drewN 1))
    have LZ:=hQQ (KL.o _ _ _ MZ.o)
    change wpAny _ _ _ _ _ _ _ (w3.drewN 1)
    generalize w3.drewN 1=w4 at MZ LZ⊢
    refine wpAny_take (i:=0) (v:=.pointer (some ⟨p,0,none⟩)) rfl (by kernel_rfl) (by kernel_rfl) (by kernel_rfl) (fun _ _ _ h=>h) (Or.inl ⟨by rfl,fun W=>by go_simp⟩) ?_
    refine wpAny_take (i:=2) (v:=.int .i64 q) rfl (by kernel_rfl) (by kernel_rfl) (by kernel_rfl) (fun _ _ _ h=>h) (Or.inl ⟨by rfl,fun W=>by go_simp⟩) ?_
    refine wpAny_take (i:=8) (v:=.int .i64 q) rfl (by kernel_rfl) (by kernel_rfl) (by kernel_rfl) (fun _ _ _ h=>h) (Or.inl ⟨by rfl,fun W=>by go_simp⟩) ?_
    refine DX (fun W=>aC w F p kn (fun x:Int=>Value.int .i64 x) Rr (.panicked (aY p)) W) (aY p) (fun a W hd h=>⟨hd,h⟩) ?_
    intro QQ FIN
    refine JD 30 [(18,.pointer (some ⟨p,0,none⟩)),(20,.int .i64 q),(4,.pointer (some ⟨w.heap.size,0,none⟩))] ⟨⟨Nat.le_of_ble_eq_true rfl,rfl⟩,?_⟩ (fun A HF=>?_)
    ·intro z hz;simp only[List.mem_cons,List.not_mem_nil,or_false] at hz;rcases hz with rfl|rfl|rfl<;>rfl
    refine wpAny_ready (rs:=[1,5]) (by kernel_rfl) (by simp) ?_
    refine dL (some 19) rfl rfl rfl (fun K hK=>?_) ?_
    ·refine wp_load_row 28 _ rfl w.heap.size (HF.get 2 rfl) 28 _ _ _ LZ.o Tryz.underlying28 rfl (by kernel_rfl) ?_
     refine hK _ _ ?_;clear hK K
     have HF:=HF.put 19 (.agg c.arr) (by decide) rfl
     generalize Act.put _ _ _=A at HF⊢
     refine wpAny_ready (rs:=[3,5]) (by kernel_rfl) (by simp) ?_
     refine dL (some 21) rfl rfl rfl (fun K hK=>?_) ?_
     ·refine bI (v0:=.agg c.arr) (v1:=.int .i64 q) rfl (HF.get 0 rfl) (HF.get 2 rfl) (enters_of Tryz.func134 (by kernel_rfl) rfl) ?_
      refine(pc HR.o _ q).mono ?_
      rintro e W ⟨rfl,h⟩
      have MZ:=hQQ (MZ.o.more h);have LZ:=hQQ (h.block LZ.o);clear h
      rw[sG hpg]
      refine hK _ _ ?_;clear hK K
      have HF:=HF.put 21 (.int .i64 (cA c.pg c.st q)) (by decide) rfl
      generalize Act.put _ _ _=A at HF⊢
      refine wpAny_ready (rs:=[4,5]) (by kernel_rfl) (by simp) ?_
      refine dL (some 22) rfl rfl rfl (fun K hK=>?_) ?_
      ·refine bI (v0:=.pointer (some ⟨p,0,none⟩)) (v1:=.int .i64 (cA c.pg c.st q)) rfl (HF.get 2 rfl) (HF.get 0 rfl) (enters_of Tryz.func27 (by kernel_rfl) rfl) ?_
       refine(iV F2 p kn D2 (cA c.pg c.st q) _ MZ.o.view hw64 hN).mono ?_
       rintro e W ⟨rfl,hd,ht⟩
       exact FIN _ _ HF.1.2 (DIE.o W hd (am MZ.o.turn ht (fun k q=>(MZ.o.from' k q).imp .inl id)))
      refine dL (some 23) rfl rfl rfl (fun K hK=>?_) ?_
      ·refine wp_load_row 28 _ rfl w.heap.size (HF.get 4 rfl) 28 _ _ _ LZ.o Tryz.underlying28 rfl (by kernel_rfl) ?_
       refine hK _ _ ?_;clear hK K
       have HF:=HF.put 23 (.agg c.arr) (by decide) rfl
       generalize Act.put _ _ _=A at HF⊢
       refine wpAny_ready (rs:=[4]) (by kernel_rfl) (by simp) ?_
       refine dL (some 22) rfl rfl rfl (fun K hK=>?_) ?_
       ·refine bI (v0:=.pointer (some ⟨p,0,none⟩)) (v1:=.int .i64 (cA c.pg c.st q)) rfl (HF.get 3 rfl) (HF.get 1 rfl) (enters_of Tryz.func27 (by kernel_rfl) rfl) ?_
        refine(iV F2 p kn D2 (cA c.pg c.st q) _ MZ.o.view hw64 hN).mono ?_
        rintro e W ⟨rfl,hd,ht⟩
        exact FIN _ _ HF.1.2 (DIE.o W hd (am MZ.o.turn ht (fun k q=>(MZ.o.from' k q).imp .inl id)))
       exact AllReady.nil
      exact AllReady.nil
     refine dL (some 23) rfl rfl rfl (fun K hK=>?_) ?_
     ·refine wp_load_row 28 _ rfl w.heap.size (HF.get 3 rfl) 28 _ _ _ LZ.o Tryz.underlying28 rfl (by kernel_rfl) ?_
      refine hK _ _ ?_;clear hK K
      have HF:=HF.put 23 (.agg c.arr) (by decide) rfl
      generalize Act.put _ _ _=A at HF⊢
      refine wpAny_ready (rs:=[3]) (by kernel_rfl) (by simp) ?_
      refine dL (some 21) rfl rfl rfl (fun K hK=>?_) ?_
      ·refine bI (v0:=.agg c.arr) (v1:=.int .i64 q) rfl (HF.get 1 rfl) (HF.get 3 rfl) (enters_of Tryz.func134 (by kernel_rfl) rfl) ?_
       refine(pc HR.o _ q).mono ?_
       rintro e W ⟨rfl,h⟩
       have MZ:=hQQ (MZ.o.more h);have LZ:=hQQ (h.block LZ.o);clear h
       rw[sG hpg]
       refine hK _ _ ?_;clear hK K
       have HF:=HF.put 21 (.int .i64 (cA c.pg c.st q)) (by decide) rfl
       generalize Act.put _ _ _=A at HF⊢
       refine wpAny_ready (rs:=[4]) (by kernel_rfl) (by simp) ?_
       refine dL (some 22) rfl rfl rfl (fun K hK=>?_) ?_
       ·refine bI (v0:=.pointer (some ⟨p,0,none⟩)) (v1:=.int .i64 (cA c.pg c.st q)) rfl (HF.get 3 rfl) (HF.get 0 rfl) (enters_of Tryz.func27 (by kernel_rfl) rfl) ?_
        refine(iV F2 p kn D2 (cA c.pg c.st q) _ MZ.o.view hw64 hN).mono ?_
        rintro e W ⟨rfl,hd,ht⟩
        exact FIN _ _ HF.1.2 (DIE.o W hd (am MZ.o.turn ht (fun k q=>(MZ.o.from' k q).imp .inl id)))
       exact AllReady.nil
      exact AllReady.nil
     exact AllReady.nil
    refine dL (some 23) rfl rfl rfl (fun K hK=>?_) ?_
    ·refine wp_load_row 28 _ rfl w.heap.size (HF.get 2 rfl) 28 _ _ _ LZ.o Tryz.underlying28 rfl (by kernel_rfl) ?_
     refine hK _ _ ?_;clear hK K
     have HF:=HF.put 23 (.agg c.arr) (by decide) rfl
     generalize Act.put _ _ _=A at HF⊢
     refine wpAny_ready (rs:=[1]) (by kernel_rfl) (by simp) ?_
     refine dL (some 19) rfl rfl rfl (fun K hK=>?_) ?_
     ·refine wp_load_row 28 _ rfl w.heap.size (HF.get 3 rfl) 28 _ _ _ LZ.o Tryz.underlying28 rfl (by kernel_rfl) ?_
      refine hK _ _ ?_;clear hK K
      have HF:=HF.put 19 (.agg c.arr) (by decide) rfl
      generalize Act.put _ _ _=A at HF⊢
      refine wpAny_ready (rs:=[3]) (by kernel_rfl) (by simp) ?_
      refine dL (some 21) rfl rfl rfl (fun K hK=>?_) ?_
      ·refine bI (v0:=.agg c.arr) (v1:=.int .i64 q) rfl (HF.get 0 rfl) (HF.get 3 rfl) (enters_of Tryz.func134 (by kernel_rfl) rfl) ?_
       refine(pc HR.o _ q).mono ?_
       rintro e W ⟨rfl,h⟩
       have MZ:=hQQ (MZ.o.more h);have LZ:=hQQ (h.block LZ.o);clear h
       rw[sG hpg]
       refine hK _ _ ?_;clear hK K
       have HF:=HF.put 21 (.int .i64 (cA c.pg c.st q)) (by decide) rfl
       generalize Act.put _ _ _=A at HF⊢
       refine wpAny_ready (rs:=[4]) (by kernel_rfl) (by simp) ?_
       refine dL (some 22) rfl rfl rfl (fun K hK=>?_) ?_
       ·refine bI (v0:=.pointer (some ⟨p,0,none⟩)) (v1:=.int .i64 (cA c.pg c.st q)) rfl (HF.get 3 rfl) (HF.get 0 rfl) (enters_of Tryz.func27 (by kernel_rfl) rfl) ?_
        refine(iV F2 p kn D2 (cA c.pg c.st q) _ MZ.o.view hw64 hN).mono ?_
        rintro e W ⟨rfl,hd,ht⟩
        exact FIN _ _ HF.1.2 (DIE.o W hd (am MZ.o.turn ht (fun k q=>(MZ.o.from' k q).imp .inl id)))
       exact AllReady.nil
      exact AllReady.nil
     exact AllReady.nil
    exact AllReady.nil
   |some y =>
    have FIN:Hq (∀W,ae w3 W→aC w F p kn (fun x:Int=>Value.int .i64 x) Rr (.returned (.int .i64 (max 1 (min y (c.pg-q))))) W):=hQQ fun W h=>DONE.o _ W D2 F2 (R3.symm.trans (ak (eS hN))) (M3.o.more h)
    have RA:=hQQ (fun W (h:ae w3 W)=>mN F2 p kn D2 (cA c.pg c.st q) y W (M3.o.view.more h) hw64 hN)
    clear R3 R2
    go_wp2_with fail
    refine bU (by kernel_rfl) (by kernel_rfl) ?_
    iterate 1
     with_reducible refine wpQuiet_step (fun K hK=>?_)
     go_simp
     first
     |(refine hK _ ?_;clear hK K)
     |(apply Exists.intro
       refine⟨fun W hW=>?_,hK _ ?_⟩
       first
       |(go_simp;try rfl)
       clear hK K)
    refine aP rfl 28 _ rfl _ rfl 28 _ _ _ (fun W hW=>hW.block L3.o) Tryz.underlying28 rfl (by kernel_rfl) ?_
    iterate 1
     with_reducible refine wpQuiet_step (fun K hK=>?_)
     go_simp
     first
     |(refine hK _ ?_;clear hK K)
     |(apply Exists.intro
       refine⟨fun W hW=>?_,hK _ ?_⟩
       first
       |(go_simp;try rfl)
       clear hK K)
    iterate 1
     with_reducible refine wpQuiet_step (fun K hK=>?_)
     go_simp
     first
     |(refine hK _ ?_;clear hK K)
     |(apply Exists.intro
       refine⟨fun W hW=>?_,hK _ ?_⟩
       first
       |(go_at_call 134;have:=pc HR.o W q;rw[sG hpg] at this;exact Calls.more hW this)
       clear hK K)
    iterate 1
     with_reducible refine wpQuiet_step (fun K hK=>?_)
     go_simp
     first
     |(refine hK _ ?_;clear hK K)
     |(apply Exists.intro
       refine⟨fun W hW=>?_,hK _ ?_⟩
       first
       |(go_at_call 27;exact(RA.o W hW).mono (fun e w'' h=>⟨h.1,by obtain⟨_,k,rfl⟩:=h;exact hW.drewN k⟩))
       clear hK K)
    refine aP rfl 28 _ rfl _ rfl 28 _ _ _ (fun W hW=>hW.block L3.o) Tryz.underlying28 rfl (by kernel_rfl) ?_
    iterate 1
     with_reducible refine wpQuiet_step (fun K hK=>?_)
     go_simp
     first
     |(refine hK _ ?_;clear hK K)
     |(apply Exists.intro
       refine⟨fun W hW=>?_,hK _ ?_⟩
       first
       |(go_at_call 20;exact Calls.more hW (dx HR.o W))
       clear hK K)
    iterate 6
     with_reducible refine wpQuiet_step (fun K hK=>?_)
     go_simp
     first
     |(refine hK _ ?_;clear hK K)
     |(apply Exists.intro
       refine⟨fun W hW=>?_,hK _ ?_⟩
       first
       |(go_simp;try rfl)
       clear hK K)
    refine wpQuiet_nil ?_
    intro w4 h4
    have F4:=hQQ (FIN.o w4 h4)
    clear h4
    go_wp2_with fail
    go_ret
    exact F4.o
  ·rw[if_neg h6] at R3
   have b6:(x2==6)=false:=by simp[h6]
   have FIN:=hQQ (DONE.o 0 w3 D2 F2 R3.symm M3.o)
   clear R3 R2
   go_wp2_with fail
   go_ret
   exact FIN.o
theorem j7 {pg st:Int}{n:Nat}(H:PgIn pg st n){p:Int}(h:ag pg p=true){k x:Int}(hk:W64 k)(hx:W64 x):bV n (fun _=>True) (ls pg st p k x):=o7 H h hk hx
theorem pd:W64 0:=by unfold W64;omega
theorem CO:W64 7:=by unfold W64;omega
theorem qg {pg st k:Int}{m:Nat}{q:Int} :iI pg st k (m+1) q=ar (ls pg st q k 0) fun _=>iI pg st k m (q+1):=rfl
theorem LD {c:Cfg}(R:c.Ok){n:Nat}(H:PgIn c.pg c.st n)(hn:n≤10000)(F:Nat→Prop)(p:Nat)(kn:Int→Option Int)(D:List KV)(q:Int)(hq:W64 q)(w:World)(hv:aK w F p kn D)(hk:OkK kn)(hD:cF n D):
 Calls Tryz.prog 133 #[.pointer (some ⟨p,0,none⟩),.agg c.arr,.int .i64 q] w (aC w F p kn (fun x=> .int .i64 x) (lK c.pg c.st q kn D)):=by
 obtain⟨Rr,hRr⟩:∃Rr,lK c.pg c.st q kn D=Rr:=⟨_,rfl⟩
 rw[hRr]
 obtain⟨w1,e1,hl1,m1,s1⟩:=bg w (.cells c.arr 28)
 have nFl:¬F w.heap.size:=fun q=>by have:=hv.lt _ q;omega
 have MM:=hQQ m1
 have L0:=hQQ hl1
 have M0:Hq (MidV w1 w1 F (fun _=>False) p kn n D F):=hQQ (MidV.begin (hv.more m1) hD)
 have KL:Hq (∀wr D' F',MidV w1 wr F (fun _=>False) p kn n D' F'→wr.heap[w.heap.size]?=some (.cells c.arr 28 (0,0))):=hQQ fun wr D' F' h=>cI h L0.o nFl (fun q=>q)
 have NEED:Hq (∀a w2,Rr=.need a→aQ w2 p a→Turned (fun b=>F b∨False) w1 w2→aC w F p kn (fun x:Int=>Value.int .i64 x) Rr (.panicked (aY p)) w2):=hQQ fun a w2 e hd ht=>cx MM.o (fun _ q=>q.elim) e hd ht
 have DONE:Hq (∀x w2 D' F',Rr=.ok x D'→MidV w1 w2 F (fun _=>False) p kn n D' F'→aC w F p kn (fun x:Int=>Value.int .i64 x) Rr (.returned ((fun x:Int=>Value.int .i64 x) x)) w2):=hQQ fun x w2 D' F' e h=>bZ MM.o (fun _ q=>q.elim) h e
 have HK:=hQQ hk
 have HR:=hQQ R
 have HH:=hQQ H
 clear hl1 m1 hv hD hk R H nFl
 unfold lK at hRr
 have pg1:=HR.o.pg1
 have pg2:=HR.o.pg2
 unfold W64 at hq
 have HRr:=hQQ hRr
 clear hRr
 go_enter Tryz.func133,Tryz.ntmps133
 go_wp2_with (refine af rfl 28 _ rfl _ rfl 28 _ _ _ L0.o Tryz.underlying28 rfl (by kernel_rfl) ?_)
 refine(GJ HR.o HH.o F p kn D q w1 M0.o.view HK.o M0.o.inv).mono ?_
 intro e w2 he
 rcases M0.o.step (ae.refl _) HK.o (sJ HH.o _) he with⟨a',hE,rfl,hd',ht',_⟩|⟨x2,D2,F2,hE,rfl,M2,hq2,_,_⟩
 ·exact⟨rfl,NEED.o a' w2 (HRr.o.symm.trans (ah hE)) hd' ht'⟩
 have L2:=hQQ (KL.o _ _ _ M2)
 have R2:=hQQ ((ak hE).symm.trans HRr.o)
 have M2:=hQQ M2
 clear he hE
 have hpi:Hq (x2=0∨(0≤q∧q<c.pg∧1≤x2∧x2≤c.pg-q)):=hQQ (by
  rcases hq2 with h|⟨h,h1,h2⟩
  ·exact .inl h
  ·have:=ay.1 h;exact .inr ⟨this.1,this.2,h1,h2⟩)
 clear hq2
 have qa:IntKind.i64.wrap (q+x2)=q+x2:=by have:=hpi.o;exact aB (by omega) (by omega)
 have START:=hQQ (And.intro M2.o R2.o)
 clear R2 M2 L2
 go_wp2_with fail
 go_loopw [8] (fun v8 wr=>∃(i:Nat) (D':List KV) (F':Nat→Prop),v8=.int .i64 (q+(i:Int))∧(i:Int)≤x2∧MidV w1 wr F (fun _=>False) p kn n D' F'∧ar (iI c.pg c.st 0 (x2.toNat-i) (q+(i:Int))) (fun _=>aA x2) kn D'=Rr) (fun v8 _=>(q+x2-intOf v8).toNat)
 case atStart=>exact⟨0,D2,F2,by simp,by have:=hpi.o;omega,START.o.1,by simpa using START.o.2⟩
 case round =>
  clear START
  obtain⟨i,D',F',rfl,hi,MI,hrest⟩:=hrel
  have MI:=hQQ MI
  have LI:=hQQ (KL.o _ _ _ MI.o)
  have hp:=hpi.o
  by_cases hlt:(i:Int)<x2
  ·have d3:decide (q+(i:Int)<q+x2)=true:=by simp;omega
   have q3:IntKind.i64.wrap (q+(i:Int)+1)=q+(i:Int)+1:=aB (by omega) (by omega)
   rw[show x2.toNat-i=(x2.toNat-(i+1))+1 by omega,qg,dm] at hrest
   have RI:=hQQ hrest
   have hpg:ag c.pg (q+(i:Int))=true:=ay.2 ⟨by omega,by omega⟩
   clear hrest hp
   go_wp2_with (refine af rfl 28 _ rfl _ rfl 28 _ _ _ LI.o Tryz.underlying28 rfl (by kernel_rfl) ?_)
   refine(yE HR.o HH.o hn F' p kn D' (q+(i:Int)) 0 0 hpg pd pd wr MI.o.view HK.o MI.o.inv).mono ?_
   intro e w4 he
   rcases MI.o.step (ae.refl _) HK.o (j7 HH.o hpg pd pd) he with⟨a',hE,rfl,hd',ht',_⟩|⟨x4,D4,F4,hE,rfl,M4,hq4,_,_⟩
   ·exact⟨rfl,NEED.o a' w4 (RI.o.symm.trans (ah hE)) hd' ht'⟩
   have L4:=hQQ (KL.o _ _ _ M4)
   have R4:=hQQ ((ak hE).symm.trans RI.o)
   have M4:=hQQ M4
   clear he hE
   have NX:=hQQ (show ar (iI c.pg c.st 0 (x2.toNat-(i+1)) (q+(i:Int)+1)) (fun _=>aA x2) kn D4=Rr from R4.o)
   clear R4
   go_wp2_with fail
   go_roundw
   case rel=>exact⟨i+1,D4,F4,by go_num,by omega,M4.o,by rw[show q+((i+1:Nat):Int)=q+(i:Int)+1 by omega];exact NX.o⟩
   case measure=>simp[intOf];omega
  ·obtain rfl:(i:Int)=x2:=by omega
   have d3:decide (q+(i:Int)<q+(i:Int))=false:=by simp
   have FIN:=hQQ (DONE.o (i:Int) wr D' F' (by rw[show((i:Int).toNat-i)=0 by omega] at hrest;exact hrest.symm) MI.o)
   clear hrest hp
   go_wp2_with fail
   go_ret
   exact FIN.o
section
variable {P:Program}{ops:Array Oper}{md:Region.Mode}{C:World→Prop}
def lS (md:Region.Mode)(ops:Array Oper)(t:Array Bool):Nat→Nat→Array Bool→Bool
 | 0,_,d=>d==t
 |m+1,k,d=>(Region.ready md ops d).contains k && Region.free md ops d k && lS md ops t m (k+1) (d.setIfInBounds k true)
def AU (md:Region.Mode)(ops:Array Oper)(n:Nat)(t:Array Bool):Bool :=
 Region.noSelect ops && decide (n<ops.size) && xR md ops 0 n && ((List.range ops.size).all fun i=>decide (i≤n) ||(List.range i).any fun j=>decide (n≤j) && Region.waitsFor md ops i j) && ((Region.ready md ops t).all fun i=>decide (n≤i)) && lS md ops t n 0 (Array.replicate ops.size false)
theorem AV {n:Nat}(hs:xR md ops 0 n=true)(hc:((List.range ops.size).all fun i=>decide (i≤n) ||(List.range i).any fun j=>decide (n≤j) && Region.waitsFor md ops i j)=true)(hn:n<ops.size)(m:Nat):
 ∀i,n-i≤m→i<n→∀d,HeadInv md ops n d→d.getD i true=false→∀t,n≤t→t∉Region.ready md ops d:=by
 induction m with
 |zero=>intro i h hi;omega
 |succ m ih =>
  intro i hm hi d inv hun t ht hr
  obtain⟨_,ot,hot,hall⟩:=mem_ready.1 hr
  have hlt:t<ops.size:=(Array.getElem?_eq_some_iff.1 hot).1
  by_cases e:t=n
  ·subst e
   have h1:=List.all_eq_true.1 hs i (List.mem_range.2 hi)
   simp only[Bool.or_eq_true,decide_eq_true_eq] at h1
   rcases h1 with h1|h1
   ·omega
   obtain⟨j,hj,hj2⟩:=List.any_eq_true.1 h1
   simp only[Bool.and_eq_true,decide_eq_true_eq] at hj2
   obtain⟨oj,hoj,x,hx,hb,hon⟩:=Region.waitsFor_spec hj2.2
   have hjn:=List.mem_range.1 hj
   have no:d.getD j false=true∨j=t→False:=by
    rintro(q|q)
    ·have:=inv.closed j oj hoj q x hx hb
     rw[hon,getD_both hun] at this;cases this
    ·subst q
     obtain rfl:oj=ot:=Option.some.inj (hoj.symm.trans hot)
     have:=hall x hx hb
     rw[hon,getD_both hun] at this;cases this
   cases q:d.getD j false with
   |true=>exact no (.inl q)
   |false =>
    have hne:j≠t:=fun z=>no (.inr z)
    exact ih j (by omega) (by omega) d inv (getD_in (by rw[inv.size];omega) q) t (Nat.le_refl _) hr
  ·have h1:=List.all_eq_true.1 hc t (List.mem_range.2 hlt)
   simp only[Bool.or_eq_true,decide_eq_true_eq] at h1
   rcases h1 with h1|h1
   ·omega
   obtain⟨j,hj,hj2⟩:=List.any_eq_true.1 h1
   simp only[Bool.and_eq_true,decide_eq_true_eq] at hj2
   obtain⟨o',ho',x,hx,hb,hon⟩:=Region.waitsFor_spec hj2.2
   obtain rfl:o'=ot:=Option.some.inj (ho'.symm.trans hot)
   have hjt:=List.mem_range.1 hj
   have:=hall x hx hb
   rw[hon,getD_both (inv.tail j hj2.1 (by omega))] at this;cases this
theorem Ek {n:Nat}{t:Array Bool}{Z:Act→Prop}(hsel:Region.noSelect ops=true)(hend:∀i∈Region.ready md ops t,n≤i)(hwait:∀i,i<n→∀d,HeadInv md ops n d→d.getD i true=false→∀t,n≤t→t∉Region.ready md ops d)(l:List Oper):
 ∀(k:Nat) (d:Array Bool) (a:Act),(∀j,j<l.length→l[j]?=ops[k+j]?)→k+l.length=n→HeadInv md ops n d →
 lS md ops t l.length k d=true→wpQuiet P ops C Z l a →
 DC P md ops C n (fun d' a'=>d'=t∧Z a') l.length d a:=by
 induction l with
 |nil =>
  intro k d a _ hk _ hB h
  exact⟨by simpa [lS] using hB,h⟩
 |cons o l ih =>
  intro k d a hl hk inv hB h
  have h0:ops[k]?=some o:=by simpa using (hl 0 (by simp)).symm
  simp only[List.length_cons,lS,Bool.and_eq_true] at hB hk
  have hr:k∈Region.ready md ops d:=by simpa using hB.1.1
  have hst:qOp P ops C k (wpQuiet P ops C Z l) a:=by unfold qOp;simp only[h0];exact h
  obtain⟨v,hy,hK⟩:=yieldsIn_of_qOp h0 hst
  exact rV h0 (Region.noSelect_spec hsel) (hwait k (by omega)) (by omega) (fun _ _ z=>by rw[z.1];exact hend) l.length d a inv (Region.free_spec h0 hB.1.2) hr hy
   (ih (k+1) _ _ (fun j hj=>by have:=hl (j+1) (by simp;omega);simpa [Nat.add_assoc,Nat.add_comm 1 j] using this) (by omega) (inv.set hr (by omega)) hB.2 hK)
end
theorem lT {P:Program}{C:World→Prop}{id:Nat}{Q:Exit→Act→World→Prop}{a:Act}{w:World}{l:List Oper}(n:Nat)(t:Array Bool)(hm:P.follows .mixedOrders=true)(hB:AU .any l.toArray n t=true)
 (hC:C { w with drawn:=w.drawn+1 }) (h:wpQuiet P l.toArray C (fun a'=>∀w',C w'→wpAny P .any l.toArray Q (l.length-n) t a' w') (l.take n) a):(Code.region id l.toArray true).wp P Q a w:=by
 simp only[AU,Bool.and_eq_true,decide_eq_true_eq] at hB
 obtain⟨⟨⟨⟨⟨hsel,hn⟩,hs⟩,hc⟩,he⟩,hlex⟩:=hB
 have hn':n<l.length:=by simpa using hn
 have ht:(l.take n).length=n:=by simp;omega
 have inv:HeadInv .any l.toArray n (Array.replicate l.toArray.size false):=
  ⟨by simp,fun j p _ q=>(by rw[getD_replicate_false] at q;cases q),fun t _ q=>getD_in (by simpa using q) (getD_replicate_false _ _)⟩
 have H:=Ek (md:=.any) (t:=t) hsel (fun i hi=>by have:=List.all_eq_true.1 he i hi;simpa using this) (fun i hi d inv hun t ht=>AV hs hc hn n i (by omega) hi d inv hun t ht) (l.take n) 0 _ a (fun j hj=>by
  have:j<n:=by rw[ht] at hj;exact hj
  simp[this]) (by simpa using ht) inv (by rw[ht];exact hlex) h
 have K:=xQ (Q:=Q) (g:=l.length-n) (fun d a' w' hw z=>by rw[z.1];exact z.2 w' hw) _ _ _ _ hC H
 rw[ht,show n+(l.length-n)=l.toArray.size by simp;omega] at K
 exact wp_region_any hm K
theorem nB {P:Program}{id:Nat}{Q:Exit→Act→World→Prop}{a:Act}{w:World}{l:List Oper}(n:Nat)(t:Array Bool)(hm:P.follows .mixedOrders=true)(hB:AU .any l.toArray n t=true)
 (h:wpQuiet P l.toArray (ae w) (fun a'=>∀w',ae w w'→wpAny P .any l.toArray Q (l.length-n) t a' w') (l.take n) a):(Code.region id l.toArray true).wp P Q a w :=
 lT (C:=ae w) n t hm hB ((ae.refl w).drewN 1) h
theorem vq {f:Int→Prg Bool}{pg n step:Int}{m:Nat}{p:Int} :jj f pg n step (m+1) p=if p≤pg-n then ar (jR f n.toNat p) (fun r=>match r with|none=>aA p|some q=>jj f pg n step m ((q / step+1) * step)) else aA (-1):=rfl
theorem El {f:Int→Prg Bool}{m:Nat}{q:Int} :jR f (m+1) q=ar (f q) (fun b=>if b then jR f m (q+1) else aA (some q)):=rfl
theorem LE {q step:Int}(h0:0≤q)(h1:q<256)(h2:1≤step)(h3:step≤9223372036854775807):0≤q / step∧q / step<256∧q<(q / step+1) * step∧(q / step+1) * step≤9223372036854775807:=by
 have a0:0≤q / step:=Int.ediv_nonneg h0 (by omega)
 have a1:q / step * step≤q:=Int.ediv_mul_le q (by omega)
 have a2:q<(q / step+1) * step:=Int.lt_ediv_add_one_mul_self q (by omega)
 have a3:q / step≤q:=Int.ediv_le_self step h0
 have a4:(q / step+1) * step=q / step * step+step:=by rw[Int.add_mul,Int.one_mul]
 refine⟨a0,by omega,a2,?_⟩
 rw[a4]
 by_cases hs:q<step
 ·rw[Int.ediv_eq_zero_of_lt h0 hs];omega
 ·omega
theorem CR {c:Cfg}(R:c.Ok){n:Nat}(H:PgIn c.pg c.st n)(F:Nat→Prop)(p:Nat)(kn:Int→Option Int)(D:List KV)(m step:Int)(hm1:1≤m)(hm2:m≤9223372036854775807)(hs1:1≤step)(hs2:step≤9223372036854775807)(f:Nat)(clo:Array Value)(fP:Int→Prg Bool)(w:World)(hv:aK w F p kn D)(hk:OkK kn)(hD:cF n D)
 (hG:∀q,bV n (fun _=>True) (fP q)) (henter:∀args w,Sem.run Tryz.prog (callFunc f args) w=.ok (.enter f args) w)
 (hf:∀wr D' F' q,Turned F w wr→(∀k,F' k→F k∨w.heap.size≤k)→aK wr F' p kn D'→cF n D'→W64 q→Calls Tryz.prog f (#[.int .i64 q]++clo) wr (aC wr F' p kn (fun b=> .bool b) (fP q kn D'))):
 Calls Tryz.prog 58 #[.agg c.arr,.int .i64 m,.int .i64 step,.func (.func f) #[] clo] w (aC w F p kn (fun x=> .int .i64 x) (mS fP c.pg m step kn D)):=by
 obtain⟨Rr,hRr⟩:∃Rr,mS fP c.pg m step kn D=Rr:=⟨_,rfl⟩
 rw[hRr]
 obtain⟨w1,e1,hl1,m1,s1⟩:=bg w (.cells c.arr 28)
 have nFl:¬F w.heap.size:=fun q=>by have:=hv.lt _ q;omega
 have MM:=hQQ m1
 have L0:=hQQ hl1
 have M0:Hq (MidV w1 w1 F (fun _=>False) p kn n D F):=hQQ (MidV.begin (hv.more m1) hD)
 have KL:Hq (∀wr D' F',MidV w1 wr F (fun _=>False) p kn n D' F'→wr.heap[w.heap.size]?=some (.cells c.arr 28 (0,0))):=hQQ fun wr D' F' h=>cI h L0.o nFl (fun q=>q)
 have NEED:Hq (∀a w2,Rr=.need a→aQ w2 p a→Turned (fun b=>F b∨False) w1 w2→aC w F p kn (fun x:Int=>Value.int .i64 x) Rr (.panicked (aY p)) w2):=hQQ fun a w2 e hd ht=>cx MM.o (fun _ q=>q.elim) e hd ht
 have DONE:Hq (∀x w2 D' F',Rr=.ok x D'→MidV w1 w2 F (fun _=>False) p kn n D' F'→aC w F p kn (fun x:Int=>Value.int .i64 x) Rr (.returned ((fun x:Int=>Value.int .i64 x) x)) w2):=hQQ fun x w2 D' F' e h=>bZ MM.o (fun _ q=>q.elim) h e
 have HK:=hQQ hk
 have HR:=hQQ R
 have HH:=hQQ H
 clear hl1 m1 hv hD hk R H nFl
 have hfl:=fx c
 unfold mS at hRr
 have pg1:=HR.o.pg1
 have pg2:=HR.o.pg2
 have HRr:=hQQ hRr
 have HF:=hQQ hf
 have HG:=hQQ hG
 have q1:IntKind.i64.wrap (c.pg-m)=c.pg-m:=aB (by omega) (by omega)
 have TT:Hq (∀wr D' F',MidV w1 wr F (fun _=>False) p kn n D' F'→Turned F w wr):=hQQ fun wr D' F' h=>am (Turned.mono MM.o (fun _ _ q=>q.elim)) h.turn (fun k q=>q.imp id (fun r=>r.elim))
 clear hRr hf hG
 go_enter Tryz.func58,Tryz.ntmps58
 go_wp2_with fail
 go_step3
 go_wp2_with (refine af rfl 28 _ rfl _ rfl 28 _ _ _ L0.o Tryz.underlying28 rfl (by kernel_rfl) ?_)
 refine(dx HR.o _).mono ?_
 rintro e w2 ⟨rfl,h2⟩
 have START:=hQQ (And.intro (M0.o.more h2) HRr.o)
 clear h2 HRr
 go_wp2_with fail
 go_step3
 go_wp2_with fail
 go_loopg [10,11,12] (c.pg.toNat+1) (fun j v10 v11 v12 wr=>∃(p0:Int) (D':List KV) (F':Nat→Prop),v10=.int .i64 (-1)∧v11=.int .i64 p0∧0≤p0∧p0≤9223372036854775807∧c.pg+1≤(j:Int)+p0∧MidV w1 wr F (fun _=>False) p kn n D' F'∧jj fP c.pg m step j p0 kn D'=Rr)
 case atStart=>exact⟨0,D,F,rfl,rfl,by omega,by omega,by omega,START.o.1,START.o.2⟩
 case round =>
  clear START
  obtain⟨p0,D',F',rfl,rfl,p00,p01,hj,MI,hrest⟩:=hrel
  have MI:=hQQ MI
  by_cases hle:p0≤c.pg-m
  ·have d1:decide (p0≤c.pg-m)=true:=by simp[hle]
   obtain⟨j,rfl⟩:∃j',gk=j'+1:=⟨gk-1,by omega⟩
   rw[vq,if_pos hle] at hrest
   have q2:IntKind.i64.wrap (p0+m)=p0+m:=aB (by omega) (by omega)
   have START:=hQQ (And.intro MI.o hrest)
   clear hrest MI
   go_wp2_with fail
   go_loopg [10,11,12] m.toNat (fun g2 v10 v11 v12 wr=>∃(i:Nat) (D':List KV) (F':Nat→Prop),v10=.int .i64 (-1)∧v11=.int .i64 p0∧v12=.int .i64 (p0+(i:Int))∧i+g2=m.toNat∧MidV w1 wr F (fun _=>False) p kn n D' F'∧ar (jR fP g2 (p0+(i:Int))) (fun r=>match r with|none=>aA p0|some q=>jj fP c.pg m step j ((q / step+1) * step)) kn D'=Rr)
   case atStart=>exact⟨0,D',F',rfl,rfl,by simp,by omega,START.o.1,by simpa using START.o.2⟩
   case round =>
    clear START
    obtain⟨i,D2,F2,rfl,rfl,rfl,hig,MI,hrest⟩:=hrel
    have MI:=hQQ MI
    cases gk with
    |zero =>
     have e0:(p0+(i:Int)==p0+m)=true:=by simp;omega
     have FIN:=hQQ (DONE.o p0 _ D2 F2 hrest.symm MI.o)
     clear hrest
     go_wp2_with fail
     try rw[Exit.noGoto_ret]
     go_ret
     exact FIN.o
    |succ g =>
     have e0:(p0+(i:Int)==p0+m)=false:=by simp;omega
     have hqw:W64 (p0+(i:Int)):=by unfold W64;omega
     have q3:IntKind.i64.wrap (p0+(i:Int)+1)=p0+(i:Int)+1:=aB (by omega) (by omega)
     rw[El,dm] at hrest
     have RI:=hQQ hrest
     have CL:=HF.o _ D2 F2 (p0+(i:Int)) (TT.o _ _ _ MI.o) (fun k hk=>(MI.o.from' k hk).imp id (fun r=>Nat.le_trans MM.o.size r)) MI.o.view MI.o.inv hqw
     clear hrest
     go_wp2_with fail
     refine(CL).mono ?_
     intro e w5 he
     rcases MI.o.step (ae.refl _) HK.o (HG.o _) he with⟨a',hE,rfl,hd',ht',_⟩|⟨x5,D5,F5,hE,rfl,M5,hq5,_,_⟩
     ·exact⟨rfl,NEED.o a' w5 (RI.o.symm.trans (ah hE)) hd' ht'⟩
     have L5:=hQQ (KL.o _ _ _ M5)
     have R5:=hQQ ((ak hE).symm.trans RI.o)
     have M5:=hQQ M5
     clear he hE
     cases x5 with
     |true =>
      have R5':=hQQ (show ar (jR fP g (p0+(i:Int)+1)) (fun r=>match r with|none=>aA p0|some q=>jj fP c.pg m step j ((q / step+1) * step)) kn D5=Rr from R5.o)
      clear R5
      go_wp2_with fail
      go_roundg g
      case measure=>omega
      case rel=>exact⟨i+1,D5,F5,rfl,rfl,by go_num,by omega,M5.o,by rw[show p0+((i+1:Nat):Int)=p0+(i:Int)+1 by omega];exact R5'.o⟩
     |false =>
      have R5':=hQQ (show jj fP c.pg m step j (((p0+(i:Int)) / step+1) * step) kn D5=Rr from R5.o)
      clear R5
      obtain⟨z0,z1,z2,z3⟩:=LE (q:=p0+(i:Int)) (step:=step) (by omega) (by omega) hs1 hs2
      have e5:(p0+(i:Int)).tdiv step=(p0+(i:Int)) / step:=Int.tdiv_eq_ediv_of_nonneg (by omega)
      have e6:(step==0)=false:=by simp;omega
      generalize hz:(p0+(i:Int)) / step=z at z0 z1 z2 z3 e5 R5'
      have q5:IntKind.i64.wrap z=z:=aB (by omega) (by omega)
      have q6:IntKind.i64.wrap (z+1)=z+1:=aB (by omega) (by omega)
      have q7:IntKind.i64.wrap ((z+1) * step)=(z+1) * step:=aB (by omega) (by omega)
      have Z:=hQQ (And.intro z2 z3)
      clear hz z2 z3 z0 z1
      go_wp2_with fail
      go_roundg j
      case measure=>omega
      case rel=>exact⟨(z+1) * step,D5,F5,rfl,rfl,by have:=Z.o;omega,Z.o.2,by have:=Z.o;omega,M5.o,R5'.o⟩
  ·have d1:decide (p0≤c.pg-m)=false:=by simp[hle]
   have FIN:=hQQ (DONE.o (-1) _ D' F' (by
    cases gk with
    |zero=>exact hrest.symm
    |succ j=>rw[vq,if_neg hle] at hrest;exact hrest.symm) MI.o)
   clear hrest
   go_wp2_with fail
   try rw[Exit.noGoto_ret]
   go_ret
   exact FIN.o
theorem GL {c:Cfg}(R:c.Ok){n:Nat}(H:PgIn c.pg c.st n)(F:Nat→Prop)(p:Nat)(kn:Int→Option Int)(D:List KV)(q:Int)(b1 b2:Nat)(w:World)(hv:aK w F p kn D)(hk:OkK kn)(hD:cF n D)
 (h1:w.heap[b1]?=some (.cells #[.pointer (some ⟨p,0,none⟩)] 43 (0,0))) (h2:w.heap[b2]?=some (.cells c.arr 28 (0,0))):
 Calls Tryz.prog 54 #[.int .i64 q,.pointer (some ⟨b1,0,none⟩),.pointer (some ⟨b2,0,none⟩)] w (aC w F p kn (fun b=> .bool b) (lL c.pg c.st q kn D)):=by
 have KD:=sL R H F p kn D q w hv hk hD
 have c1:=(aE h1).1
 have L0:=hQQ h2
 clear h1 h2
 go_enter Tryz.func54,Tryz.ntmps54
 go_wp2_with (refine af rfl 28 _ rfl _ rfl 28 _ _ _ L0.o Tryz.underlying28 rfl (by kernel_rfl) ?_)
 refine KD.mono ?_
 intro e w1 he
 rcases jh he with⟨a,hR,rfl⟩|⟨x,D',hR,rfl⟩
 ·have:=aC.mapN (val':=fun b:Bool=>Value.bool b) (fun k:Int=>decide (k=0)) hR he
  rw[CD] at this
  exact⟨rfl,this⟩
 ·have FIN:=aC.map (val':=fun b:Bool=>Value.bool b) (fun k:Int=>decide (k=0)) hR he
  rw[CD] at FIN
  have FIN:=hQQ FIN
  have e1:(x==0)=decide (x=0):=by by_cases z:x=0<;>simp[z]
  clear he KD hv hD hR
  go_wp2_with fail
  go_ret
  exact FIN.o
theorem LH {c:Cfg}(R:c.Ok){n:Nat}(H:PgIn c.pg c.st n)(F:Nat→Prop)(p:Nat)(kn:Int→Option Int)(D:List KV)(q:Int)(hq:W64 q)(b1 b2 b3:Nat)(w:World)(hv:aK w F p kn D)(hk:OkK kn)(hD:cF n D)
 (h1:w.heap[b1]?=some (.cells #[.pointer (some ⟨p,0,none⟩)] 43 (0,0))) (h2:w.heap[b2]?=some (.cells c.arr 28 (0,0)))
 (h3:w.heap[b3]?=some (.cells #[.func (.func 54) #[] #[.pointer (some ⟨b1,0,none⟩),.pointer (some ⟨b2,0,none⟩)]] 103 (0,0))) (n1:¬F b1) (n2:¬F b2) (n3:¬F b3):
 Calls Tryz.prog 55 #[.int .i64 q,.pointer (some ⟨b1,0,none⟩),.pointer (some ⟨b2,0,none⟩),.pointer (some ⟨b3,0,none⟩)] w (aC w F p kn (fun b=> .bool b) (lN c.pg c.st q kn D)):=by
 obtain⟨Rr,hRr⟩:∃Rr,lN c.pg c.st q kn D=Rr:=⟨_,rfl⟩
 rw[hRr]
 unfold lN at hRr
 have HRr:=hQQ hRr
 have l1:=ac h1
 have l2:=ac h2
 have l3:=ac h3
 have H1:=hQQ h1
 have H2:=hQQ h2
 have H3:=hQQ h3
 have c1:=(aE h1).1
 have HR:=hQQ R
 have HH:=hQQ H
 have HK:=hQQ hk
 have M0:Hq (MidV w w F (fun _=>False) p kn n D F):=hQQ (MidV.begin hv hD)
 clear h1 h2 h3 hRr R H hk hv hD
 have NEED:Hq (∀a w2,Rr=.need a→aQ w2 p a→Turned (fun b=>F b∨False) w w2→aC w F p kn (fun b:Bool=>Value.bool b) Rr (.panicked (aY p)) w2):=hQQ fun a w2 e hd ht=>cx (ae.refl w) (fun _ q=>q.elim) e hd ht
 have DONE:Hq (∀x w2 D' F',Rr=.ok x D'→MidV w w2 F (fun _=>False) p kn n D' F'→aC w F p kn (fun b:Bool=>Value.bool b) Rr (.returned (.bool x)) w2):=hQQ fun x w2 D' F' e h=>bZ (ae.refl w) (fun _ q=>q.elim) h e
 go_enter Tryz.func55,Tryz.ntmps55
 go_wp2_with fail
 refine nB 4 #[true,true,true,true,false,false,false,false,false,false,false] (by kernel_rfl) (by kernel_rfl) ?_
 simp only[List.take_succ_cons,List.take_zero]
 iterate 1
  with_reducible refine wpQuiet_step (fun K hK=>?_)
  go_simp
  first
  |(refine hK _ ?_;clear hK K)
  |(apply Exists.intro
    refine⟨fun W hW=>?_,hK _ ?_⟩
    first
    |(have c1':=hW.cell c1;go_simp;try rfl)
    clear hK K)
 refine aP rfl 28 _ rfl _ rfl 28 _ _ _ (fun W hW=>hW.block H2.o) Tryz.underlying28 rfl (by kernel_rfl) ?_
 iterate 1
  with_reducible refine wpQuiet_step (fun K hK=>?_)
  go_simp
  first
  |(refine hK _ ?_;clear hK K)
  |(apply Exists.intro
    refine⟨fun W hW=>?_,hK _ ?_⟩
    first
    |(go_simp;try rfl)
    clear hK K)
 iterate 1
  with_reducible refine wpQuiet_step (fun K hK=>?_)
  go_simp
  first
  |(refine hK _ ?_;clear hK K)
  |(apply Exists.intro
    refine⟨fun W hW=>?_,hK _ ?_⟩
    first
    |(go_at_call 57;exact(Ls q hq.1 hq.2 W).mono (fun e w'' h=>⟨h.1,by rw[h.2];exact hW⟩))
    clear hK K)
 refine wpQuiet_nil ?_
 intro w2 m2
 have M2:=hQQ (M0.o.more m2)
 clear m2
 refine wpAny_ready (rs:=[4]) (by kernel_rfl) (by simp) ?_
 refine AllReady.cons rfl (fun K hK=>?_) AllReady.nil
 rw[if_pos (by kernel_rfl)]
 refine dP (v0:=.pointer (some ⟨p,0,none⟩)) (v1:=.agg c.arr) (v2:=.int .i64 (ofV q)) rfl rfl rfl rfl (enters_of Tryz.func56 (by kernel_rfl) rfl) ?_
 refine(Gu HR.o F p kn D (ofV q) w2 M2.o.view).mono ?_
 intro e w3 he
 rcases M2.o.step (ae.refl _) HK.o (jB HH.o.toTblIn _) he with⟨a',hE,rfl,hd',ht',_⟩|⟨x3,D3,F3,hE,rfl,M3,hq3,_,_⟩
 ·exact⟨rfl,NEED.o a' w3 (HRr.o.symm.trans (ah hE)) hd' ht'⟩
 have R3:=hQQ ((ak hE).symm.trans HRr.o)
 have M3:=hQQ M3
 clear he hE
 refine hK _ _ ?_
 clear hK K
 cases x3 with
 |false =>
  have FIN:=hQQ (DONE.o false w3 D3 F3 R3.o.symm M3.o)
  clear R3
  refine wpAny_take (i:=5) (v:=.bool false) rfl (by kernel_rfl) (by kernel_rfl) (by kernel_rfl) (fun _ _ _ h=>h) (Or.inl ⟨by rfl,fun W=>by go_simp⟩) ?_
  refine wpAny_take (i:=6) (v:=undef) rfl (by kernel_rfl) (by kernel_rfl) (by kernel_rfl) (fun _ _ _ h=>h) (Or.inr ⟨by rfl,rfl⟩) ?_
  refine wpAny_take (i:=7) (v:=undef) rfl (by kernel_rfl) (by kernel_rfl) (by kernel_rfl) (fun _ _ _ h=>h) (Or.inr ⟨by rfl,rfl⟩) ?_
  refine wpAny_take (i:=8) (v:=undef) rfl (by kernel_rfl) (by kernel_rfl) (by kernel_rfl) (fun _ _ _ h=>h) (Or.inr ⟨by rfl,rfl⟩) ?_
  refine wpAny_take (i:=9) (v:=.bool false) rfl (by kernel_rfl) (by kernel_rfl) (by kernel_rfl) (fun _ _ _ h=>h) (Or.inl ⟨by rfl,fun W=>by go_simp⟩) ?_
  refine wpAny_take (i:=10) (v:=.bool false) rfl (by kernel_rfl) (by kernel_rfl) (by kernel_rfl) (fun _ _ _ h=>h) (Or.inl ⟨by rfl,fun W=>by go_simp⟩) ?_
  refine wpAny_done (by kernel_rfl) ?_ _
  go_wp2_with fail
  go_ret
  exact FIN.o
 |true =>
  have R3':=hQQ (show lL c.pg c.st q kn D3=Rr from R3.o)
  have h1:=cI M3.o H1.o n1 (fun r=>r)
  have h2:=cI M3.o H2.o n2 (fun r=>r)
  have h3:=cI M3.o H3.o n3 (fun r=>r)
  have FR:=hQQ (GL HR.o HH.o F3 p kn D3 q b1 b2 w3 M3.o.view HK.o M3.o.inv h1 h2)
  have c3:=(aE h3).1
  clear R3 h1 h2 h3 c1
  refine wpAny_take (i:=5) (v:=.bool true) rfl (by kernel_rfl) (by kernel_rfl) (by kernel_rfl) (fun _ _ _ h=>h) (Or.inl ⟨by rfl,fun W=>by go_simp⟩) ?_
  refine wpAny_take (i:=7) (v:=.int .i64 q) rfl (by kernel_rfl) (by kernel_rfl) (by kernel_rfl) (fun _ _ _ h=>h) (Or.inl ⟨by rfl,fun W=>by go_simp⟩) ?_
  refine wpAny_ready (rs:=[6]) (by kernel_rfl) (by simp) ?_
  refine AllReady.cons rfl (fun K hK=>?_) AllReady.nil
  rw[if_pos (by kernel_rfl)]
  go_simp
  refine hK _ _ ?_
  clear hK K
  refine wpAny_ready (rs:=[8]) (by kernel_rfl) (by simp) ?_
  refine AllReady.cons rfl (fun K hK=>?_) AllReady.nil
  rw[if_pos (by kernel_rfl)]
  refine DY (x0:=.tmp 13) (v0:=.int .i64 q) rfl rfl rfl (enters_of Tryz.func54 (by kernel_rfl) rfl) ?_
  refine FR.o.mono ?_
  intro e w4 he
  rcases M3.o.step (ae.refl _) HK.o (j4 HH.o q) he with⟨a',hE,rfl,hd',ht',_⟩|⟨x4,D4,F4,hE,rfl,M4,hq4,_,_⟩
  ·exact⟨rfl,NEED.o a' w4 (R3'.o.symm.trans hE) hd' ht'⟩
  have FIN:=hQQ (DONE.o x4 w4 D4 F4 (R3'.o.symm.trans hE) M4)
  clear he hE M4
  refine hK _ _ ?_
  clear hK K
  refine wpAny_take (i:=9) (v:=.bool x4) rfl (by kernel_rfl) (by kernel_rfl) (by kernel_rfl) (fun _ _ _ h=>h) (Or.inl ⟨by rfl,fun W=>by go_simp⟩) ?_
  refine wpAny_take (i:=10) (v:=.bool x4) rfl (by kernel_rfl) (by kernel_rfl) (by kernel_rfl) (fun _ _ _ h=>h) (Or.inl ⟨by rfl,fun W=>by go_simp⟩) ?_
  refine wpAny_done (by kernel_rfl) ?_ _
  go_wp2_with fail
  go_ret
  exact FIN.o
theorem qM {pg st:Int}{n:Nat}(H:PgIn pg st n){f:Int→Prg Bool}(hf:∀q,bV n (fun _=>True) (f q))(m step:Int)(hm:1≤m)(hs:1≤step):bV n (fun x:Int=> -1≤x∧x<pg) (mS f pg m step):=oc H hf m step hm hs _ 0 (by omega)
theorem LJ {c:Cfg}(R:c.Ok){n:Nat}(H:PgIn c.pg c.st n)(F:Nat→Prop)(p:Nat)(kn:Int→Option Int)(D:List KV)(m step:Int)(hm:W64 m)(hs:W64 step)(w:World)(hv:aK w F p kn D)(hk:OkK kn)(hD:cF n D):
 Calls Tryz.prog 25 #[.pointer (some ⟨p,0,none⟩),.agg c.arr,.int .i64 m,.int .i64 step] w (aC w F p kn (fun x=> .int .i64 x) (kI c.pg c.st m step kn D)):=by
 obtain⟨Rr,hRr⟩:∃Rr,kI c.pg c.st m step kn D=Rr:=⟨_,rfl⟩
 rw[hRr]
 obtain⟨w1,e1,hb1,hb2,m1,s1⟩:=gS w (.cells #[.pointer (some ⟨p,0,none⟩)] 43) (.cells c.arr 28)
 obtain⟨w2,e2,hb3,m2,s2⟩:=bg w1 (.cells #[.nilFunc] 103)
 rw[s1] at hb3
 unfold kI at hRr
 have hfw:=hv.lt
 unfold W64 at hm hs
 by_cases a0:m<1
 ·have d0:decide (m<1)=true:=by simp[a0]
  rw[if_neg (by omega)] at hRr
  have FIN:Hq (aC w F p kn (fun x:Int=>Value.int .i64 x) Rr (.returned (.int .i64 (-1))) w1):=hQQ (bZ (S:=fun _=>False) m1 (fun _ q=>q.elim) (MidV.begin (hv.more m1) hD) hRr.symm)
  clear hRr hb1 hb2 hb3 e2 m1 m2 hv hD
  go_enter Tryz.func25,Tryz.ntmps25
  go_wp2_with fail
  go_ret
  exact FIN.o
 have d0:decide (m<1)=false:=by simp;omega
 by_cases a1:step<1
 ·have d1:decide (step<1)=true:=by simp[a1]
  rw[if_neg (by omega)] at hRr
  have FIN:Hq (aC w F p kn (fun x:Int=>Value.int .i64 x) Rr (.returned (.int .i64 (-1))) w1):=hQQ (bZ (S:=fun _=>False) m1 (fun _ q=>q.elim) (MidV.begin (hv.more m1) hD) hRr.symm)
  clear hRr hb1 hb2 hb3 e2 m1 m2 hv hD
  go_enter Tryz.func25,Tryz.ntmps25
  go_wp2_with fail
  go_ret
  exact FIN.o
 have d1:decide (step<1)=false:=by simp;omega
 rw[if_pos ⟨by omega,by omega⟩] at hRr
 obtain⟨c3,f3,l3⟩:=aE hb3
 have hb3':(w2.setCell ⟨w.heap.size+2,0,none⟩ (.func (.func 54) #[] #[.pointer (some ⟨w.heap.size,0,none⟩),.pointer (some ⟨w.heap.size+1,0,none⟩)])).heap[w.heap.size+2]?=_:=jz hb3 _
 have t23:Turned (fun b=>b=w.heap.size+2) w2 (w2.setCell ⟨w.heap.size+2,0,none⟩ (.func (.func 54) #[] #[.pointer (some ⟨w.heap.size,0,none⟩),.pointer (some ⟨w.heap.size+1,0,none⟩)])):=Turned.setCell (Turned.refl _ w2) ⟨w.heap.size+2,0,none⟩ _ (fun _=>rfl)
 have T23:=hQQ t23
 have B3:=hQQ hb3'
 have B1:=hQQ (m2.block hb1)
 have B2:=hQQ (m2.block hb2)
 have M12:=hQQ (m1.trans m2)
 have HV:=hQQ hv
 have HDD:=hQQ hD
 have HRr:=hQQ hRr
 clear hRr hb1 hb2 hb3 m1 m2 hv hD hb3' t23
 go_enter Tryz.func25,Tryz.ntmps25
 have rst:=run_store Tryz.prog w2 ⟨w.heap.size+2,0,none⟩ (.func (.func 54) #[] #[.pointer (some ⟨w.heap.size,0,none⟩),.pointer (some ⟨w.heap.size+1,0,none⟩)]) .plain rfl
 go_wp2_with (refine wpList_load_row rfl 28 _ rfl (w.heap.size+1) rfl 28 _ _ _ (by have:=T23.o.block (w.heap.size+1) (ac B2.o) (by omega);exact this.trans B2.o) Tryz.underlying28 rfl (by kernel_rfl) ?_)
 have h1:=(T23.o.block w.heap.size (ac B1.o) (by omega)).trans B1.o
 have h2:=(T23.o.block (w.heap.size+1) (ac B2.o) (by omega)).trans B2.o
 have h3:=B3.o
 have m3:ae w (w2.setCell ⟨w.heap.size+2,0,none⟩ (.func (.func 54) #[] #[.pointer (some ⟨w.heap.size,0,none⟩),.pointer (some ⟨w.heap.size+1,0,none⟩)])):=Turned.mono (am (F:=fun _=>False) M12.o T23.o (fun b e=> .inr (by omega))) (fun _ _ q=>q)
 generalize w2.setCell ⟨w.heap.size+2,0,none⟩ (.func (.func 54) #[] #[.pointer (some ⟨w.heap.size,0,none⟩),.pointer (some ⟨w.heap.size+1,0,none⟩)])=w3 at h1 h2 h3 m3⊢
 have hv3:=HV.o.more m3
 have HH:=hQQ H
 have HR:=hQQ R
 have HK:=hQQ hk
 have H1:=hQQ h1
 have H2:=hQQ h2
 have H3:=hQQ h3
 have M3:=hQQ m3
 have l1:=ac h1
 have l2:=ac h2
 have l3:=ac h3
 have M0:Hq (MidV w3 w3 F (fun _=>False) p kn n D F):=hQQ (MidV.begin hv3 HDD.o)
 have nF:∀b,w.heap.size≤b→¬F b:=fun b hb q=>by have:=hfw b q;omega
 have KEEP:Hq (∀wr D' F',MidV w3 wr F (fun _=>False) p kn n D' F'→wr.heap[w.heap.size]?=some (.cells #[.pointer (some ⟨p,0,none⟩)] 43 (0,0))∧wr.heap[w.heap.size+1]?=some (.cells c.arr 28 (0,0))∧wr.heap[w.heap.size+2]?=some (.cells #[(.func (.func 54) #[] #[.pointer (some ⟨w.heap.size,0,none⟩),.pointer (some ⟨w.heap.size+1,0,none⟩)])] 103 (0,0))):=hQQ fun wr D' F' h =>
  ⟨cI h H1.o (nF _ (by omega)) (fun q=>q),cI h H2.o (nF _ (by omega)) (fun q=>q),cI h H3.o (nF _ (by omega)) (fun q=>q)⟩
 have NEED:Hq (∀a w2,Rr=.need a→aQ w2 p a→Turned (fun b=>F b∨False) w3 w2→aC w F p kn (fun x:Int=>Value.int .i64 x) Rr (.panicked (aY p)) w2):=hQQ fun a w2 e hd ht=>cx M3.o (fun _ q=>q.elim) e hd ht
 have DONE:Hq (∀x w2 D' F',Rr=.ok x D'→MidV w3 w2 F (fun _=>False) p kn n D' F'→aC w F p kn (fun x:Int=>Value.int .i64 x) Rr (.returned (.int .i64 x)) w2):=hQQ fun x w2 D' F' e h=>bZ M3.o (fun _ q=>q.elim) h e
 have NN:∀(w0 wr:World) (F':Nat→Prop) (b:Nat),w.heap.size≤b→b<w0.heap.size→(∀k,F' k→F k∨w0.heap.size≤k)→¬F' b:=fun w0 wr F' b hb hl hn q=>by
  rcases hn b q with r|r
  ·exact nF b hb r
  ·omega
 have LO:=CR HR.o HH.o F p kn D m step (by omega) (by omega) (by omega) (by omega) 55 #[.pointer (some ⟨w.heap.size,0,none⟩),.pointer (some ⟨w.heap.size+1,0,none⟩),.pointer (some ⟨w.heap.size+2,0,none⟩)] (lN c.pg c.st) w3 hv3 HK.o HDD.o (p7 HH.o) (enters_of Tryz.func55 (by kernel_rfl) rfl)
  (fun wr D' F' q t hn hv' hD' hq=>LH HR.o HH.o F' p kn D' q hq w.heap.size (w.heap.size+1) (w.heap.size+2) wr hv' HK.o hD' ((t.block _ l1 (nF _ (by omega))).trans H1.o) ((t.block _ l2 (nF _ (by omega))).trans H2.o) ((t.block _ l3 (nF _ (by omega))).trans H3.o) (NN w3 wr F' _ (by omega) l1 hn) (NN w3 wr F' _ (by omega) l2 hn) (NN w3 wr F' _ (by omega) l3 hn))
 have LF:=hQQ (fun(w4:World) (D4:List KV) (F4:Nat→Prop) (M4:MidV w3 w4 F (fun _=>False) p kn n D4 F4)=>CR HR.o HH.o F4 p kn D4 m step (by omega) (by omega) (by omega) (by omega) 54 #[.pointer (some ⟨w.heap.size,0,none⟩),.pointer (some ⟨w.heap.size+1,0,none⟩)] (lL c.pg c.st) w4 M4.view HK.o M4.inv (j4 HH.o) (enters_of Tryz.func54 (by kernel_rfl) rfl)
  (fun wr D' F' q t hn hv' hD' hq=>GL HR.o HH.o F' p kn D' q w.heap.size (w.heap.size+1) wr hv' HK.o hD' ((t.block _ (Nat.lt_of_lt_of_le l1 M4.size) (M4.off l1 (nF _ (by omega)))).trans (KEEP.o _ _ _ M4).1) ((t.block _ (Nat.lt_of_lt_of_le l2 M4.size) (M4.off l2 (nF _ (by omega)))).trans (KEEP.o _ _ _ M4).2.1)))
 have LO:=hQQ LO
 clear h1 h2 h3 m3 hv3 hm hs R H hk T23 c3 f3 l3 rst e1 e2 NN nF
 go_wp2_with fail
 refine LO.o.mono ?_
 intro e w4 he
 rcases M0.o.step (ae.refl _) HK.o (qM HH.o (p7 HH.o) m step a0 a1) he with⟨a',hE,rfl,hd',ht',_⟩|⟨x4,D4,F4,hE,rfl,M4,hq4,_,_⟩
 ·exact⟨rfl,NEED.o a' w4 (HRr.o.symm.trans (ah hE)) hd' ht'⟩
 have R4:=(ak hE).symm.trans HRr.o
 have K4:=KEEP.o _ _ _ M4
 have K42:=hQQ K4.2.1
 have c9:=(aE K4.2.2).1
 have M4:=hQQ M4
 clear he hE LO K4
 by_cases z:x4= -1
 ·rw[if_pos z] at R4
  have e4:(x4 != -1)=false:=by simp[z]
  have LL4:=hQQ (LF.o w4 D4 F4 M4.o)
  have R4:=hQQ R4
  clear z LF
  go_wp2_with (refine af rfl 28 _ rfl _ rfl 28 _ _ _ K42.o Tryz.underlying28 rfl (by kernel_rfl) ?_)
  refine LL4.o.mono ?_
  intro e w5 he
  rcases M4.o.step (ae.refl _) HK.o (qM HH.o (j4 HH.o) m step a0 a1) he with⟨a',hE,rfl,hd',ht',_⟩|⟨x5,D5,F5,hE,rfl,M5,hq5,_,_⟩
  ·exact⟨rfl,NEED.o a' w5 (R4.o.symm.trans hE) hd' ht'⟩
  have FIN:=hQQ (DONE.o x5 w5 D5 F5 (R4.o.symm.trans hE) M5)
  clear he hE M5
  go_wp2_with fail
  go_ret
  exact FIN.o
 ·rw[if_neg z] at R4
  have e4:(x4 != -1)=true:=by simp[z]
  have FIN:=hQQ (DONE.o x4 w4 D4 F4 R4.symm M4.o)
  clear z LF R4 c9
  go_wp2_with fail
  go_ret
  exact FIN.o
def bB (c:Cfg)(p:Nat)(q k:Int):Array Value:=(Value.pointer (some ⟨p,0,none⟩)::(c.arr.toList++ [.int .i64 q,.int .i64 k])).toArray
theorem CT (c:Cfg):c.arr.toList.length=24:=rfl
theorem sM (c:Cfg)(p:Nat)(q k:Int):(bB c p q k)[0]?=some (.pointer (some ⟨p,0,none⟩)):=by simp[bB]
theorem sN (c:Cfg)(p:Nat)(q k:Int):(bB c p q k)[25]?=some (.int .i64 q):=by
 have h:=CT c
 unfold bB
 generalize c.arr.toList=l at h⊢
 rw[List.getElem?_toArray,show(25:Nat)=24+1 from rfl,List.getElem?_cons_succ,List.getElem?_append_right (by omega),h]
 rfl
theorem sO (c:Cfg)(p:Nat)(q k:Int):(bB c p q k)[26]?=some (.int .i64 k):=by
 have h:=CT c
 unfold bB
 generalize c.arr.toList=l at h⊢
 rw[List.getElem?_toArray,show(26:Nat)=25+1 from rfl,List.getElem?_cons_succ,List.getElem?_append_right (by omega),h]
 rfl
theorem gy (c:Cfg)(p:Nat)(q k:Int):∀j,j<c.arr.size→(bB c p q k)[1+j]?=c.arr[j]? :=fun j hj=>by
 have hj:j<c.arr.toList.length:=by simpa using hj
 rw[←Array.getElem?_toList (xs:=c.arr)]
 unfold bB
 generalize c.arr.toList=l at hj⊢
 rw[List.getElem?_toArray,Nat.add_comm,List.getElem?_cons_succ,List.getElem?_append_left hj]
theorem iD {P:Program}(w:World)(g off:Nat)(t ty:TypeId)(cs hs:Array Value)(fr:Nat×Nat)(d:TypeDesc)(hg:w.heap[g]?=some (.cells cs t fr))(hc:∀j,j<hs.size→cs[off+j]?=hs[j]?)
 (hu:P.underlying ty=some d) (hd:(match d with| .struct _| .array _ _=>true|_=>false)=true) (hi:(P.info? ty).map (·.size)=some hs.size):
 (loadVar ty ⟨g,off,none⟩).run P w=.ok (.agg hs) w:=by
 have hl:(loadCells ⟨g,off,none⟩ hs.toList.length).run P w=.ok hs.toList.toArray w :=
  run_loadCells_list (P:=P) w ⟨g,off,none⟩ hs.toList (fun j v hv=>by
   have hj:j<hs.size:=by have:=(List.getElem?_eq_some_iff.1 hv).1;simpa using this
   rw[iZ,cell_of_row w g (off+j) cs t fr hg,hc j hj]
   simpa using hv)
 cases hq:P.info? ty with
 |none=>simp[hq] at hi
 |some i =>
  have hs:i.size=hs.size:=by simpa [hq] using hi
  have hagg:(isAgg ty).run P w=.ok true w:=by
   unfold isAgg
   rw[Sem.run_bind,run_underlying hu w]
   cases d<;>simp_all
  simp only[Array.length_toList,Array.toArray_toList] at hl
  simp[loadVar,Sem.run_bind,hagg,sizeOf,typeInfo,hq,hs,hl]
theorem dB {P:Program}{ops:Array Oper}{a:Act}{o:Oper}{rest:List Oper}{C:World→Prop}{Q:Act→Prop}(hw:Region.wanted o (yielded ops a.tmps)=true)(ty:TypeId)(x:Operand)(ho:o.op=.load ty x)
 (g off:Nat) (hx:a.eval x=.pointer (some ⟨g,off,none⟩)) (t:TypeId) (cs hs:Array Value) (fr:Nat×Nat) (d:TypeDesc) (hg:∀W,C W→W.heap[g]?=some (.cells cs t fr)) (hc:∀j,j<hs.size→cs[off+j]?=hs[j]?)
 (hu:P.underlying ty=some d) (hd:(match d with| .struct _| .array _ _=>true|_=>false)=true) (hi:(P.info? ty).map (·.size)=some hs.size)
 (h:wpQuiet P ops C Q rest (a.put o.dst (.agg hs))):wpQuiet P ops C Q (o::rest) a:=by
 refine rO (.agg hs) hw (fun W hW=>?_) h
 unfold Oper.quietAt execOp
 simp only[ho,hx,Instr.loadAt,Instr.sureAddr,Sem.run_bind,Sem.run_pure,Result.andThen_ok,iD W g off t ty cs hs fr d (hg W hW) hc hu hd hi]
 exact⟨rfl,rfl⟩
theorem iE {P:Program}{ops:Array Oper}{rest:List Oper}{o:Oper}{a:Act}{w:World}{Q:Exit→Act→World→Prop}(hw:Region.wanted o (yielded ops a.tmps)=true)(ty:TypeId)(x:Operand)(ho:o.op=.load ty x)
 (g off:Nat) (hx:a.eval x=.pointer (some ⟨g,off,none⟩)) (t:TypeId) (cs hs:Array Value) (fr:Nat×Nat) (d:TypeDesc) (hg:w.heap[g]?=some (.cells cs t fr)) (hc:∀j,j<hs.size→cs[off+j]?=hs[j]?)
 (hu:P.underlying ty=some d) (hd:(match d with| .struct _| .array _ _=>true|_=>false)=true) (hi:(P.info? ty).map (·.size)=some hs.size)
 (h:wpList P ops Q rest (a.put o.dst (.agg hs)) w):wpList P ops Q (o::rest) a w :=
 eC hw fun K hK=>by
  unfold Oper.wp Oper.upon execOp
  simp only[ho,hx,Instr.loadAt,Instr.sureAddr,Sem.run_bind,Sem.run_pure,Result.andThen_ok,iD w g off t ty cs hs fr d hg hc hu hd hi]
  exact hK _ _ h
theorem wT {c:Cfg}(R:c.Ok)(w:World)(q:Int):Calls Tryz.prog 108 #[.agg c.arr,.int .i64 q] w (aU w (.int .i64 (dE c.pg c.st 2 q))):=KQ R w q
theorem sP {c:Cfg}(R:c.Ok)(w:World)(q:Int):Calls Tryz.prog 134 #[.agg c.arr,.int .i64 q] w (aU w (.int .i64 (dE c.pg c.st 1 q))):=FX R w q
theorem GM {c:Cfg}(R:c.Ok){n:Nat}(H:PgIn c.pg c.st n)(F:Nat→Prop)(p:Nat)(kn:Int→Option Int)(D:List KV)(q k:Int)(hn:n≤10000)(hq:ag c.pg q=true)(w:World)(hv:aK w F p kn D)(hk:OkK kn)(hD:cF n D):
 Calls Tryz.prog 82 #[.agg (bB c p q k)] w (aC w F p kn (fun x=> .int .i64 x) (cW (bA c.pg c.st q) kn D)):=by
 obtain⟨Rr,hRr⟩:∃Rr,cW (bA c.pg c.st q) kn D=Rr:=⟨_,rfl⟩
 rw[hRr]
 obtain⟨w1,e1,hl1,m1,s1⟩:=bg w (.cells (bB c p q k) 90)
 have MM:=hQQ m1
 have L0:=hQQ hl1
 have c0:=(show w1.cell? ⟨w.heap.size,0,none⟩=some (.pointer (some ⟨p,0,none⟩)) by rw[cell_of_row w1 _ _ _ _ _ hl1];exact sM c p q k)
 have c25:=(show w1.cell? ⟨w.heap.size,25,none⟩=some (.int .i64 q) by rw[cell_of_row w1 _ _ _ _ _ hl1];exact sN c p q k)
 have c26:=(show w1.cell? ⟨w.heap.size,26,none⟩=some (.int .i64 k) by rw[cell_of_row w1 _ _ _ _ _ hl1];exact sO c p q k)
 have nFl:¬F w.heap.size:=fun z=>by have:=hv.lt _ z;omega
 have M0:Hq (MidV w1 w1 F (fun _=>False) p kn n D F):=hQQ (MidV.begin (hv.more m1) hD)
 have NEED:Hq (∀a w2,Rr=.need a→aQ w2 p a→Turned (fun b=>F b∨False) w1 w2→aC w F p kn (fun x:Int=>Value.int .i64 x) Rr (.panicked (aY p)) w2):=hQQ fun a w2 e hd ht=>cx MM.o (fun _ q=>q.elim) e hd ht
 have DONE:Hq (∀x w2 D' F',Rr=.ok x D'→MidV w1 w2 F (fun _=>False) p kn n D' F'→aC w F p kn (fun x:Int=>Value.int .i64 x) Rr (.returned ((fun x:Int=>Value.int .i64 x) x)) w2):=hQQ fun x w2 D' F' e h=>bZ MM.o (fun _ q=>q.elim) h e
 have HK:=hQQ hk
 have HR:=hQQ R
 clear hl1 m1 hv hD hk R nFl
 have hb:=(cu H hq).2.2
 have YB:=hQQ (fun W=>by have:=wT HR.o W q;rw[CI hq] at this;exact this)
 have HRr:=hQQ hRr
 have HB:=hQQ hb
 have pg2:=HR.o.pg2
 clear hRr hb hq
 go_enter Tryz.func82,Tryz.ntmps82
 go_wp2_with fail
 clear e1
 refine bO 7 (by kernel_rfl) (by kernel_rfl) ?_
 simp only[List.take_succ_cons,List.take_zero,List.drop_succ_cons,List.drop_zero]
 iterate 3
  with_reducible refine wpQuiet_step (fun K hK=>?_)
  go_simp
  first
  |(refine hK _ ?_;clear hK K)
  |(apply Exists.intro
    refine⟨fun W hW=>?_,hK _ ?_⟩
    first
    |(have c1':=hW.cell c0;go_simp;try rfl)
    clear hK K)
 refine dB rfl 28 _ rfl w.heap.size 1 rfl 90 _ c.arr _ _ (fun W hW=>hW.block L0.o) (gy c p q k) Tryz.underlying28 rfl (by kernel_rfl) ?_
 iterate 2
  with_reducible refine wpQuiet_step (fun K hK=>?_)
  go_simp
  first
  |(refine hK _ ?_;clear hK K)
  |(apply Exists.intro
    refine⟨fun W hW=>?_,hK _ ?_⟩
    first
    |(have c1':=hW.cell c25;go_simp;try rfl)
    clear hK K)
 iterate 1
  with_reducible refine wpQuiet_step (fun K hK=>?_)
  go_simp
  first
  |(refine hK _ ?_;clear hK K)
  |(apply Exists.intro
    refine⟨fun W hW=>?_,hK _ ?_⟩
    first
    |(go_at_call 108;exact Calls.more hW (YB.o W))
    |(go_simp;try rfl)
    clear hK K)
 refine wpQuiet_nil ?_
 intro w2 h2
 have M2:=hQQ (M0.o.more h2)
 clear h2 c0 c25 c26
 go_wp2_with fail
 refine(jf F p kn D (bA c.pg c.st q) w2 M2.o.view (by have:=HB.o;have:=M2.o.inv.len;unfold W64;omega)).mono ?_
 intro e w3 he
 rcases M2.o.step (ae.refl _) HK.o (bu n HB.o.2.1) he with⟨a',hE,rfl,hd',ht',_⟩|⟨x3,D3,F3,hE,rfl,M3,hq3,_,_⟩
 ·exact⟨rfl,NEED.o a' w3 (HRr.o.symm.trans hE) hd' ht'⟩
 have FIN:=hQQ (DONE.o x3 w3 D3 F3 (HRr.o.symm.trans hE) M3)
 clear he hE M3
 go_wp2_with fail
 go_ret
 exact FIN.o
theorem CW {c:Cfg}(R:c.Ok){n:Nat}(H:PgIn c.pg c.st n)(F:Nat→Prop)(p:Nat)(kn:Int→Option Int)(D:List KV)(q k b:Int)(hn:n≤10000)(hq:ag c.pg q=true)(w:World)(hv:aK w F p kn D)(hb:dN kn D (bA c.pg c.st q)=some b):
 Calls Tryz.prog 82 #[.agg (bB c p q k)] w (aU w (.int .i64 b)):=by
 obtain⟨w1,e1,hl1,m1,s1⟩:=bg w (.cells (bB c p q k) 90)
 have MM:=hQQ m1
 have L0:=hQQ hl1
 have c0:=(show w1.cell? ⟨w.heap.size,0,none⟩=some (.pointer (some ⟨p,0,none⟩)) by rw[cell_of_row w1 _ _ _ _ _ hl1];exact sM c p q k)
 have c25:=(show w1.cell? ⟨w.heap.size,25,none⟩=some (.int .i64 q) by rw[cell_of_row w1 _ _ _ _ _ hl1];exact sN c p q k)
 have c26:=(show w1.cell? ⟨w.heap.size,26,none⟩=some (.int .i64 k) by rw[cell_of_row w1 _ _ _ _ _ hl1];exact sO c p q k)
 have YB:=hQQ (fun W=>by have:=wT R W q;rw[CI hq] at this;exact this)
 have HV:Hq (∀W,ae w1 W→aK W F p kn D):=hQQ fun W m=>(hv.more m1).more m
 have HB:=hQQ hb
 have PB:=hQQ (cu H hq).2.2
 clear hl1 m1 hv hb R H hq
 go_enter Tryz.func82,Tryz.ntmps82
 go_wp2_with fail
 clear e1
 refine bO 7 (by kernel_rfl) (by kernel_rfl) ?_
 simp only[List.take_succ_cons,List.take_zero,List.drop_succ_cons,List.drop_zero]
 iterate 3
  with_reducible refine wpQuiet_step (fun K hK=>?_)
  go_simp
  first
  |(refine hK _ ?_;clear hK K)
  |(apply Exists.intro
    refine⟨fun W hW=>?_,hK _ ?_⟩
    first
    |(have c1':=hW.cell c0;go_simp;try rfl)
    clear hK K)
 refine dB rfl 28 _ rfl w.heap.size 1 rfl 90 _ c.arr _ _ (fun W hW=>hW.block L0.o) (gy c p q k) Tryz.underlying28 rfl (by kernel_rfl) ?_
 iterate 2
  with_reducible refine wpQuiet_step (fun K hK=>?_)
  go_simp
  first
  |(refine hK _ ?_;clear hK K)
  |(apply Exists.intro
    refine⟨fun W hW=>?_,hK _ ?_⟩
    first
    |(have c1':=hW.cell c25;go_simp;try rfl)
    clear hK K)
 iterate 1
  with_reducible refine wpQuiet_step (fun K hK=>?_)
  go_simp
  first
  |(refine hK _ ?_;clear hK K)
  |(apply Exists.intro
    refine⟨fun W hW=>?_,hK _ ?_⟩
    first
    |(go_at_call 108;exact Calls.more hW (YB.o W))
    |(go_simp;try rfl)
    clear hK K)
 refine wpQuiet_nil ?_
 intro w2 h2
 have M2:=hQQ h2
 clear h2 c0 c25 c26
 go_wp2_with fail
 refine(mN F p kn D _ b w2 (HV.o _ M2.o) (by have:=PB.o;unfold W64;omega) HB.o).mono ?_
 rintro e w3 ⟨rfl,m,rfl⟩
 have FIN:=hQQ ((MM.o.trans M2.o).drewN m)
 go_wp2_with fail
 go_ret
 exact⟨rfl,FIN.o⟩
theorem GN {c:Cfg}(R:c.Ok)(p:Nat)(nd q k:Int)(w:World)(hd:aQ w p nd):
 Calls Tryz.prog 128 #[.agg (bB c p q k)] w (aU w (.int .i64 0)):=by
 obtain⟨w1,e1,hl1,m1,s1⟩:=bg w (.cells (bB c p q k) 90)
 have MM:=hQQ m1
 have L0:=hQQ hl1
 have c0:=(show w1.cell? ⟨w.heap.size,0,none⟩=some (.pointer (some ⟨p,0,none⟩)) by rw[cell_of_row w1 _ _ _ _ _ hl1];exact sM c p q k)
 have c25:=(show w1.cell? ⟨w.heap.size,25,none⟩=some (.int .i64 q) by rw[cell_of_row w1 _ _ _ _ _ hl1];exact sN c p q k)
 have c26:=(show w1.cell? ⟨w.heap.size,26,none⟩=some (.int .i64 k) by rw[cell_of_row w1 _ _ _ _ _ hl1];exact sO c p q k)
 have YB:=hQQ (fun W=>sP R W q)
 have DD:Hq (∀W,ae w1 W→aQ W p nd):=hQQ fun W m=>(hd.keep m1 (fun q=>q)).keep m (fun q=>q)
 clear hl1 m1 hd R
 go_enter Tryz.func128,Tryz.ntmps128
 go_wp2_with fail
 clear e1
 refine bO 7 (by kernel_rfl) (by kernel_rfl) ?_
 simp only[List.take_succ_cons,List.take_zero,List.drop_succ_cons,List.drop_zero]
 iterate 3
  with_reducible refine wpQuiet_step (fun K hK=>?_)
  go_simp
  first
  |(refine hK _ ?_;clear hK K)
  |(apply Exists.intro
    refine⟨fun W hW=>?_,hK _ ?_⟩
    first
    |(have c1':=hW.cell c0;go_simp;try rfl)
    clear hK K)
 refine dB rfl 28 _ rfl w.heap.size 1 rfl 90 _ c.arr _ _ (fun W hW=>hW.block L0.o) (gy c p q k) Tryz.underlying28 rfl (by kernel_rfl) ?_
 iterate 2
  with_reducible refine wpQuiet_step (fun K hK=>?_)
  go_simp
  first
  |(refine hK _ ?_;clear hK K)
  |(apply Exists.intro
    refine⟨fun W hW=>?_,hK _ ?_⟩
    first
    |(have c1':=hW.cell c25;go_simp;try rfl)
    clear hK K)
 iterate 1
  with_reducible refine wpQuiet_step (fun K hK=>?_)
  go_simp
  first
  |(refine hK _ ?_;clear hK K)
  |(apply Exists.intro
    refine⟨fun W hW=>?_,hK _ ?_⟩
    first
    |(go_at_call 134;exact Calls.more hW (YB.o W))
    |(go_simp;try rfl)
    clear hK K)
 refine wpQuiet_nil ?_
 intro w2 h2
 have M2:=hQQ h2
 clear h2 c0 c25 c26
 go_wp2_with fail
 refine(uU p nd _ w2 (DD.o _ M2.o)).mono ?_
 rintro e w3 ⟨rfl,rfl⟩
 go_wp2_with fail
 go_ret
 exact⟨rfl,MM.o.trans M2.o⟩
def wU (w:Int):BitVec 64:=BitVec.ofInt 64 w
def eL (w:Int)(k:Nat):Bool:=(wU w).getLsbD k
def inR (i:Int):Bool:=decide (0≤i∧i<32)
def eG (w i:Int):Bool:=inR i && eL w i.toNat
def iJ (i:Int):Int:=if inR i then 2 ^ i.toNat else 0
def setV (w i:Int):Int:=if inR i then(wU w |||BitVec.twoPow 64 i.toNat).toInt else w
def clearV (w i:Int):Int:=if inR i then(wU w &&& ~~~ BitVec.twoPow 64 i.toNat).toInt else w
def endN (n:Int):Nat:=(min n 32).toNat
def onN (w:Int)(k:Nat):List Nat:=(List.range k).filter (eL w)
def dy (w n:Int):Int:=(onN w (endN n)).length
def yF (w:Int)(k:Nat):Int:=match (List.range k).find? (fun j=> !eL w j) with|some j=>(j:Int)|none=> -1
def bP (w n:Int):Int:=yF w (endN n)
theorem eU (i:Int):inR i=true↔0≤i∧i<32:=by simp[inR]
theorem wV {k:Nat}(h:k<32):inR (k:Int)=true:=by simp[inR];omega
theorem wW (n:Int):endN n≤32:=by unfold endN;omega
theorem oe (r:BitVec 64):IntKind.i64.wrap (r.toNat:Int)=r.toInt:=by
 have:=r.isLt
 rw[BitVec.toInt_eq_toNat_bmod]
 simp[IntKind.wrap,IntKind.bits,IntKind.signed,Int.bmod]
 omega
theorem pf {w:Int}(h0: -9223372036854775808≤w)(h1:w≤9223372036854775807):(wU w).toInt=w:=by
 rw[wU,BitVec.toInt_ofInt,Int.bmod]
 simp only[Nat.reducePow]
 split<;>omega
theorem yG (r:BitVec 64):wU r.toInt=r:=by rw[wU,BitVec.ofInt_toInt]
theorem sQ (r:BitVec 64): -9223372036854775808≤r.toInt∧r.toInt≤9223372036854775807:=by
 have h1:=BitVec.le_toInt r
 have h2:=BitVec.toInt_lt (x:=r)
 constructor<;>omega
theorem AW {k:Nat}(h:k<32):BitVec.ofInt 64 ((2:Int) ^ k)=BitVec.twoPow 64 k:=by
 rw[show((2:Int) ^ k)=((2 ^ k:Nat):Int) by simp,BitVec.ofInt_natCast]
 apply BitVec.eq_of_toNat_eq
 rw[BitVec.toNat_ofNat,BitVec.toNat_twoPow]
theorem CX:BitVec.ofInt 64 0=0#64:=by decide
theorem GP (w i:Int):(bits .and .i64 w (iJ i) != 0)=eG w i:=by
 show(IntKind.i64.wrap ((BitVec.ofInt 64 w &&& BitVec.ofInt 64 (iJ i)).toNat:Int) != 0)=_
 rw[oe]
 unfold eG iJ
 cases hi:inR i with
 |false=>simp
 |true =>
  have hr:=(eU i).1 hi
  simp only[if_true,Bool.true_and]
  rw[AW (by omega),BitVec.and_twoPow]
  unfold eL wU
  cases hb:(BitVec.ofInt 64 w).getLsbD i.toNat with
  |false=>simp
  |true =>
   simp only[if_true]
   simp only[bne_iff_ne,ne_eq]
   intro e
   have:=congrArg (BitVec.ofInt 64) e
   rw[BitVec.ofInt_toInt] at this
   have:=congrArg (fun x=>x.getLsbD i.toNat) this
   simp[BitVec.getLsbD_twoPow] at this
   omega
theorem JJ (w i:Int)(h0: -9223372036854775808≤w)(h1:w≤9223372036854775807):bits .or .i64 w (iJ i)=setV w i:=by
 show IntKind.i64.wrap ((BitVec.ofInt 64 w |||BitVec.ofInt 64 (iJ i)).toNat:Int)=_
 rw[oe]
 unfold setV iJ
 cases hi:inR i with
 |false =>
  rw[if_neg (by simp),if_neg (by simp),CX,BitVec.or_zero]
  exact pf h0 h1
 |true =>
  have hr:=(eU i).1 hi
  simp only[if_true]
  rw[AW (by omega)];rfl
theorem yH (w i:Int)(h0: -9223372036854775808≤w)(h1:w≤9223372036854775807):bits .andNot .i64 w (iJ i)=clearV w i:=by
 show IntKind.i64.wrap ((BitVec.ofInt 64 w &&& ~~~ BitVec.ofInt 64 (iJ i)).toNat:Int)=_
 rw[oe]
 unfold clearV iJ
 cases hi:inR i with
 |false =>
  rw[if_neg (by simp),if_neg (by simp),CX,BitVec.not_zero,BitVec.and_allOnes]
  exact pf h0 h1
 |true =>
  have hr:=(eU i).1 hi
  simp only[if_true]
  rw[AW (by omega)];rfl
theorem Em (w i:Int)(h0: -9223372036854775808≤w)(h1:w≤9223372036854775807): -9223372036854775808≤setV w i∧setV w i≤9223372036854775807:=by
 unfold setV;split
 ·exact sQ _
 ·exact⟨h0,h1⟩
theorem qN (w i:Int)(h0: -9223372036854775808≤w)(h1:w≤9223372036854775807): -9223372036854775808≤clearV w i∧clearV w i≤9223372036854775807:=by
 unfold clearV;split
 ·exact sQ _
 ·exact⟨h0,h1⟩
theorem rE {w i:Int}(hi:inR i=true)(k:Nat)(hk:k<64):eL (setV w i) k=(eL w k ||decide (i.toNat=k)):=by
 have hr:=(eU i).1 hi
 unfold eL setV
 rw[if_pos hi,yG,BitVec.getLsbD_or,BitVec.getLsbD_twoPow,decide_eq_true (show i.toNat<64 by omega),Bool.true_and]
theorem mT {w i:Int}(hi:inR i=true)(k:Nat)(hk:k<64):eL (clearV w i) k=(eL w k && !decide (i.toNat=k)):=by
 have hr:=(eU i).1 hi
 unfold eL clearV
 rw[if_pos hi,yG,BitVec.getLsbD_and,BitVec.getLsbD_not,BitVec.getLsbD_twoPow,decide_eq_true hk,decide_eq_true (show i.toNat<64 by omega),Bool.true_and,Bool.true_and]
theorem yI {a b:Int}(a0: -9223372036854775808≤a)(a1:a≤9223372036854775807)(b0: -9223372036854775808≤b)(b1:b≤9223372036854775807)
 (h:∀k,k<64→eL a k=eL b k):a=b:=by
 rw[←pf a0 a1,←pf b0 b1]
 congr 1
 apply BitVec.eq_of_getLsbD_eq
 exact h
theorem JK {w i:Int}(hi:inR i=true):eG (setV w i) i=true:=by
 have hr:=(eU i).1 hi
 unfold eG;rw[rE hi _ (by omega)];simp[hi]
theorem vr {w i:Int}(hi:inR i=true):eG (clearV w i) i=false:=by
 have hr:=(eU i).1 hi
 unfold eG;rw[mT hi _ (by omega)];simp
theorem nK {w i k:Int}(hi:inR i=true)(hk:k≠i):eG (setV w i) k=eG w k:=by
 unfold eG
 cases hK:inR k with
 |false=>rfl
 |true =>
  have hr:=(eU i).1 hi
  have hr':=(eU k).1 hK
  rw[rE hi _ (by omega),decide_eq_false (by omega),Bool.or_false]
theorem lw {w i k:Int}(hi:inR i=true)(hk:k≠i):eG (clearV w i) k=eG w k:=by
 unfold eG
 cases hK:inR k with
 |false=>rfl
 |true =>
  have hr:=(eU i).1 hi
  have hr':=(eU k).1 hK
  rw[mT hi _ (by omega),decide_eq_false (by omega),Bool.not_false,Bool.and_true]
section
variable {w i:Int}(h0: -9223372036854775808≤w)(h1:w≤9223372036854775807)
include h0 h1
theorem MT (hi:inR i=true)(hb:eG w i=false):clearV w i=w:=by
 have hr:=(eU i).1 hi
 have⟨s0,s1⟩:=qN w i h0 h1
 refine yI s0 s1 h0 h1 fun k hk=>?_
 rw[mT hi _ hk]
 by_cases q:i.toNat=k
 ·subst q;unfold eG at hb;simp[hi] at hb;simp[hb]
 ·simp[q]
theorem En (hi:inR i=true)(hb:eG w i=true):setV (clearV w i) i=w:=by
 have hr:=(eU i).1 hi
 have⟨s0,s1⟩:=qN w i h0 h1
 have⟨t0,t1⟩:=Em (clearV w i) i s0 s1
 refine yI t0 t1 h0 h1 fun k hk=>?_
 rw[rE hi _ hk,mT hi _ hk]
 by_cases q:i.toNat=k
 ·subst q;unfold eG at hb;simp[hi] at hb;simp[hb]
 ·simp[q]
end
theorem ph (w:Int)(k:Nat):onN w (k+1)=onN w k++(if eL w k then [k] else []):=by
 unfold onN
 rw[List.range_succ,List.filter_append]
 congr 1
 cases h:eL w k<;>simp[h]
theorem mU {w:Int}{k j:Nat}(hj:j<k)(h0:eL w j=false)(h1:∀i,i<j→eL w i=true):yF w k=j:=by
 have:(List.range k).find? (fun i=> !eL w i)=some j:=by
  rw[List.find?_range_eq_some]
  exact⟨by simp[h0],by simpa using hj,fun i hi=>by simp[h1 i hi]⟩
 unfold yF;rw[this]
theorem vt {w:Int}{k:Nat}(h:∀i,i<k→eL w i=true):yF w k= -1:=by
 have:(List.range k).find? (fun i=> !eL w i)=none:=by
  rw[List.find?_range_eq_none]
  intro i hi;simp[h i hi]
 unfold yF;rw[this]
theorem Eo (w:Int)(k:Nat):(yF w k= -1∧∀i,i<k→eL w i=true)∨∃j:Nat,j<k∧yF w k=j∧eL w j=false∧∀i,i<j→eL w i=true:=by
 induction k with
 |zero=>exact .inl ⟨rfl,fun i h=>by omega⟩
 |succ k ih =>
  rcases ih with⟨_,h⟩|⟨j,hj,_,h0,h1⟩
  ·cases hb:eL w k with
   |true =>
    have:∀i,i<k+1→eL w i=true:=fun i hi=>by
     by_cases q:i=k
     ·rw[q];exact hb
     ·exact h i (by omega)
    exact .inl ⟨vt this,this⟩
   |false=>exact .inr ⟨k,by omega,mU (by omega) hb h,hb,h⟩
  ·exact .inr ⟨j,by omega,mU (by omega) h0 h1,h0,h1⟩
theorem LK {w:Int}{k:Nat}(h:∀i,i<k→eL w i=true):(onN w k).length=k:=by
 induction k with
 |zero=>rfl
 |succ k ih=>rw[ph,List.length_append,ih (fun i hi=>h i (by omega)),if_pos (h k (by omega))];rfl
theorem LP {w i:Int}(hi:inR i=true)(hb:eL w i.toNat=false)(k:Nat)(hk:k≤32):(onN (setV w i) k).length=(onN w k).length+if i.toNat<k then 1 else 0:=by
 induction k with
 |zero=>rfl
 |succ k ih =>
  rw[ph,ph,List.length_append,List.length_append,ih (by omega),rE hi k (by omega)]
  by_cases q:i.toNat=k
  ·subst q
   rw[hb]
   simp
  ·rw[decide_eq_false q,Bool.or_false]
   have e:(if i.toNat<k+1 then 1 else 0)=(if i.toNat<k then 1 else 0):=by
    by_cases q2:i.toNat<k
    ·rw[if_pos q2,if_pos (show i.toNat<k+1 by omega)]
    ·rw[if_neg q2,if_neg (show ¬i.toNat<k+1 by omega)]
   rw[e];omega
end Go.Proofs.YtddmeghbmdfgeaaGreatDoor
