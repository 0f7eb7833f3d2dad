/-
  A function that is handed the view, and hands back what lies in blocks of its own.
-/
import Derived.Test.YtddmeghbmdfgeaaGreatDoorFlAh
import Derived.Test.YtddmeghbmdfgeaaGreatDoorFlAe
import Derived.ScopeJumps
import Derived.WalkMore
set_option maxRecDepth 100000
set_option maxHeartbeats 8000000
set_option linter.unusedVariables false
set_option linter.unusedSimpArgs false
set_option linter.unusedSectionVars false
namespace Go.Proofs.YtddmeghbmdfgeaaGreatDoor
open Go.RowKit
def fj {α:Type}(w:World)(F:Nat→Prop)(p:Nat)(kn:Int→Option Int)(Post:α→Value→World→(Nat→Prop)→Prop)(R:Res α)(e:Ending)(w':World):Prop :=
 match R with
 | .need a=>uT w F p a e w'
 | .ok x D=>∃v F',e=.returned v∧Post x v w' F'∧aK w' F' p kn D∧Turned F w w'∧∀k,F' k→F k∨w.heap.size≤k
def gp (b:Nat)(F:Nat→Prop)(w:World)(v:Value)(xs:List Int):Prop:=Rw b w v xs∧(∀k,v.ownBlock=some k→¬F k∧b≤k∧k<w.heap.size)
theorem gp.nil (b:Nat)(F:Nat→Prop)(w:World):gp b F w (.slice none 0 0) []:=⟨Rw.nil _ _,fun k q=>by cases q⟩
theorem Rw.own {b:Nat}{w:World}{v:Value}{xs:List Int}(h:Rw b w v xs){k:Nat}(q:v.ownBlock=some k):b≤k∧k<w.heap.size:=by
 rcases h.2 with⟨rfl,_⟩|⟨g,cap,cur,rfl,hb,hg,_⟩
 ·cases q
 ·have:g=k:=by simpa [Value.ownBlock] using q
  subst this
  exact⟨hb,ac hg⟩
theorem Rw.keepT {b:Nat}{S:Nat→Prop}{w w':World}{v:Value}{xs:List Int}(h:Rw b w v xs)(t:Turned S w w')(hs:∀k,v.ownBlock=some k→¬S k):Rw b w' v xs:=by
 refine⟨h.1,?_⟩
 rcases h.2 with q|⟨g,cap,cur,rfl,hb,hg,r⟩
 ·exact .inl q
 ·exact .inr ⟨g,cap,cur,rfl,hb,(t.block g (ac hg) (hs g rfl)).trans hg,r⟩
theorem gp.more {b:Nat}{F:Nat→Prop}{w w':World}{v:Value}{xs:List Int}(h:gp b F w v xs)(m:ae w w'):gp b F w' v xs :=
 ⟨h.1.more m,fun k q=>⟨(h.2 k q).1,(h.2 k q).2.1,Nat.lt_of_lt_of_le (h.2 k q).2.2 m.size⟩⟩
theorem gp.went {b:Nat}{F F':Nat→Prop}{w w':World}{v:Value}{xs:List Int}(h:gp b F w v xs)(hk:∀k o,¬F k→w.heap[k]?=some o→w'.heap[k]?=some o)(hf:∀k,F' k→F k∨w.heap.size≤k):gp b F' w' v xs:=by
 obtain⟨r,n⟩:=h
 have key:∀k,v.ownBlock=some k→¬F' k:=fun k q z=>by
  rcases hf k z with y|y
  ·exact(n k q).1 y
  ·have:=(n k q).2.2;omega
 rcases r with⟨h1,q|⟨g,cap,cur,rfl,hb,hg,rest⟩⟩
 ·exact⟨⟨h1,.inl q⟩,fun k q'=>by rw[q.1] at q';cases q'⟩
 ·have hg':=hk g _ (n g rfl).1 hg
  exact⟨⟨h1,.inr ⟨g,cap,cur,rfl,hb,hg',rest⟩⟩,fun k q=>by
   have:g=k:=by simpa [Value.ownBlock] using q
   subst this
   exact⟨key g rfl,hb,ac hg'⟩⟩
theorem gp.mono {b b':Nat}{F:Nat→Prop}{w:World}{v:Value}{xs:List Int}(h:gp b F w v xs)(hb:b'≤b):gp b' F w v xs:=⟨h.1.mono hb,fun k q=>⟨(h.2 k q).1,by have:=(h.2 k q).2.1;omega,(h.2 k q).2.2⟩⟩
namespace MidV
variable {W wr w1 w2:World}{F S F':Nat→Prop}{p n:Nat}{kn:Int→Option Int}{D:List KV}
theorem stepR {α:Type}{Post:α→Value→World→(Nat→Prop)→Prop}{Q:α→Prop}{pr:Prg α}{e:Ending}(h:MidV W wr F S p kn n D F')(m:ae wr w1)(hk:OkK kn)(G:bV n Q pr)(he:fj w1 F' p kn Post (pr kn D) e w2):
 (∃a,pr kn D=.need a∧e=.panicked (aY p)∧aQ w2 p a∧Turned (fun b=>F b∨S b) W w2∧∀b o,¬F' b→wr.heap[b]?=some o→w2.heap[b]?=some o) ∨
 (∃x D1 F1 v,pr kn D=.ok x D1∧e=.returned v∧Post x v w2 F1∧MidV W w2 F S p kn n D1 F1∧Q x∧(∀b o,¬F' b→wr.heap[b]?=some o→w2.heap[b]?=some o)∧∀b,F1 b→F' b∨wr.heap.size≤b):=by
 have hm:=h.more m
 have hs:=m.size
 have hK:∀t,Turned F' w1 t→∀b o,¬F' b→wr.heap[b]?=some o→t.heap[b]?=some o:=fun t ht b o nb hb=>(ht.block b (ac (m.block hb)) nb).trans (m.block hb)
 cases hE:pr kn D with
 |need a =>
  rw[hE] at he
  obtain⟨h1,h2,h3⟩:=he
  exact .inl ⟨a,rfl,h1,h2,am hm.turn h3 (fun k q=>(h.from' k q).imp .inl id),hK _ h3⟩
 |ok x D1 =>
  rw[hE] at he
  obtain⟨v,F1,h1,hp,hv,ht,hn⟩:=he
  obtain⟨i1,q1⟩:=G.ok hk h.inv hE
  refine .inr ⟨x,D1,F1,v,rfl,h1,hp,⟨hv,fun k q=>?_,am hm.turn ht (fun k q=>(h.from' k q).imp .inl id),i1⟩,q1,hK _ ht,fun b q=>(hn b q).imp id (fun r=>by omega)⟩
  rcases hn k q with r|r
  ·exact h.from' k r
  ·have:=hm.size;exact .inr (by omega)
theorem grew {v v':Value}{b:Nat}{xs ys:List Int}(h:MidV W wr F S p kn n D F')(hr:gp b F' wr v xs)(hb:W.heap.size≤b)(t:Turned (fun k=>v.ownBlock=some k) wr w1)(hr':Rw b w1 v' ys)(hv':∀k,v'.ownBlock=some k→v.ownBlock=some k∨k=wr.heap.size):MidV W w1 F S p kn n D F'∧gp b F' w1 v' ys:=by
 have lt:=h.view.lt
 have hnc:∀(k:Nat) es cl,v.ownBlock=some k→wr.heap[k]? ≠some (.map es cl):=fun k es cl q z=>by
  rcases hr.1.2 with⟨q',_⟩|⟨g,cap,cur,q',_,hg,_⟩
  ·rw[q'] at q;cases q
  ·rw[q'] at q
   have:g=k:=by simpa [Value.ownBlock] using q
   subst this
   rw[hg] at z;cases z
 refine⟨⟨h.view.keepS t (fun k q e=>(hr.2 k e).1 q) (fun k es cl e q=>hnc k es cl e q),h.from',am h.turn t (fun k q=> .inr (by have:=(hr.2 k q).2.1;omega)),h.inv⟩,hr',fun k q=>?_⟩
 have hl:=hr'.own q
 refine⟨fun z=>?_,hl.1,hl.2⟩
 rcases hv' k q with r|r
 ·exact(hr.2 k r).1 z
 ·have:=lt k z;omega
end MidV
theorem j5 {α:Type}{w w1 w2:World}{F S:Nat→Prop}{p:Nat}{kn:Int→Option Int}{Post:α→Value→World→(Nat→Prop)→Prop}{R:Res α}{a:Int}(m:ae w w1)(hS:∀b,S b→w.heap.size≤b)(hR:R=.need a)(hd:aQ w2 p a)(ht:Turned (fun b=>F b∨S b) w1 w2):fj w F p kn Post R (.panicked (aY p)) w2:=by
 subst hR
 exact⟨rfl,hd,am (Turned.mono m (fun _ _ q=>q.elim)) ht (fun k q=>q.imp id (hS k))⟩
theorem j6 {α:Type}{w w1 w2:World}{F S F':Nat→Prop}{p n:Nat}{kn:Int→Option Int}{Post:α→Value→World→(Nat→Prop)→Prop}{R:Res α}{x:α}{D:List KV}{v:Value}(m:ae w w1)(hS:∀b,S b→w.heap.size≤b)(h:MidV w1 w2 F S p kn n D F')(hR:R=.ok x D)(hp:Post x v w2 F'):fj w F p kn Post R (.returned v) w2:=by
 subst hR
 exact⟨v,F',rfl,hp,h.view,am (Turned.mono m (fun _ _ q=>q.elim)) h.turn (fun k q=>q.imp id (hS k)),fun k q=>(h.from' k q).imp id (fun r=>Nat.le_trans m.size r)⟩
open Go.Sort Go.Maps Go.Shelf
def o9 (b:Nat)(r:List Int×Bool)(v:Value)(w:World)(F:Nat→Prop):Prop:=∃u,v=.tuple #[u,.bool r.2]∧gp b F w u r.1
theorem AN {c:Cfg}(R:c.Ok){n:Nat}(H:cH c.pg c.st n)(F:Nat→Prop)(p:Nat)(kn:Int→Option Int)(D:List KV)(q cl f:Int)(w:World)(hv:aK w F p kn D)(hk:OkK kn)(hD:cF n D):
 Calls Tryz.prog 145 #[.pointer (some ⟨p,0,none⟩),.agg c.arr,.int .i64 q,.int .i64 cl,.int .i64 f] w (fj w F p kn (o9 w.heap.size) (kL c.pg c.st q cl f kn D)):=by
 obtain⟨Rr,hRr⟩:∃Rr,kL c.pg c.st q cl f kn D=Rr:=⟨_,rfl⟩
 rw[hRr]
 obtain⟨w1,e1,hl1,m1,s1⟩:=bg w (.cells c.arr 28)
 have nFl:¬F w.heap.size:=fun q=>by have:=hv.lt _ q;omega
 have MM:=hQQ m1
 have L0:=hQQ hl1
 have M0:Hq (MidV w1 w1 F (fun _=>False) p kn n D F):=hQQ (MidV.begin (hv.more m1) hD)
 have KL:Hq (∀wr D' F',MidV w1 wr F (fun _=>False) p kn n D' F'→wr.heap[w.heap.size]?=some (.cells c.arr 28 (0,0))):=hQQ fun wr D' F' h=>cI h L0.o nFl (fun q=>q)
 have NEED:Hq (∀a w2,Rr=.need a→aQ w2 p a→Turned (fun b=>F b∨False) w1 w2→fj w F p kn (o9 w.heap.size) Rr (.panicked (aY p)) w2):=hQQ fun a w2 e hd ht=>j5 MM.o (fun _ q=>q.elim) e hd ht
 have DONE:Hq (∀x v w2 D' F',Rr=.ok x D'→MidV w1 w2 F (fun _=>False) p kn n D' F'→(o9 w.heap.size) x v w2 F'→fj w F p kn (o9 w.heap.size) Rr (.returned v) w2):=hQQ fun x v w2 D' F' e h hp=>j6 MM.o (fun _ q=>q.elim) h e hp
 have HK:=hQQ hk
 have HR:=hQQ R
 have HH:=hQQ H
 clear hl1 m1 hv hD hk R H nFl
 unfold kL at hRr
 have HRr:=hQQ hRr
 have hfl:=fx c
 have pg1:=HR.o.pg1
 have pg2:=HR.o.pg2
 have hw1:w.heap.size≤w1.heap.size:=by omega
 clear hRr
 go_enter Tryz.func145,Tryz.ntmps145
 go_wp2_with fail
 refine wp_scope_jumps 0 (fun a' w'=>∃(v:Value) (b:Bool) (u12 u13 u14 u15 u16 u17 u18 u19 u20 u21 u22 u23 u24 u25 u26 u27 u28 u29 u30 u31 u32 u33 u34 u35 u36 u37 u38 u39 u40 u41 u42:Value),a'= { tmps:= #[.pointer (some ⟨p,0,none⟩),.agg c.arr,.int .i64 q,.int .i64 cl,.int .i64 f,undef,.pointer (some ⟨w.heap.size,0,none⟩),undef,undef,undef,v,.bool b,u12,u13,u14,u15,u16,u17,u18,u19,u20,u21,u22,u23,u24,u25,u26,u27,u28,u29,u30,u31,u32,u33,u34,u35,u36,u37,u38,u39,u40,u41,u42],defers:= [] } ∧∃(l:List Int) (D4:List KV) (F4:Nat→Prop),Rr=.ok (l,b) D4∧MidV w1 w' F (fun _=>False) p kn n D4 F4∧gp w1.heap.size F4 w' v l) (fun _ _=>0) rfl ?_ ?_
 ·go_wp2_with (refine af rfl 28 _ rfl _ rfl 28 _ _ _ L0.o Tryz.underlying28 rfl (by kernel_rfl) ?_)
  refine(kO HR.o _ cl f).mono ?_
  rintro e w2 ⟨rfl,h2⟩
  have M2:=hQQ (M0.o.more h2)
  have L2:=hQQ (KL.o _ _ _ M2.o)
  clear h2
  go_wp2_with (refine af rfl 28 _ rfl _ rfl 28 _ _ _ L2.o Tryz.underlying28 rfl (by kernel_rfl) ?_)
  refine(dx HR.o _).mono ?_
  rintro e w3 ⟨rfl,h3⟩
  have M3:=hQQ (M2.o.more h3)
  clear h3 M2 L2
  go_wp2_with fail
  go_loopw [10,11,12,21] (fun u10 v11 v12 v21 wr=>∃(v10:Value) (i:Nat) (a:Int) (l:List Int) (D':List KV) (F':Nat→Prop),v10=u10∧v11=.bool false∧v21=.int .i64 (i:Int)∧(i:Int)≤c.pg∧v12=.int .i64 a∧W64 a∧a<n∧MidV w1 wr F (fun _=>False) p kn n D' F'∧gp w1.heap.size F' wr v10 l∧l.length=i∧kK c.pg c.st q (c.pg.toNat-i) a l kn D'=Rr) (fun _ _ _ v21 _=>c.pg.toNat-(intOf v21).toNat)
  case atStart=>exact⟨_,0,_,[],D,F,rfl,rfl,rfl,by omega,rfl,(bG HH.o).2.2,(bG HH.o).2.1,M3.o,gp.nil _ _ _,rfl,HRr.o⟩
  case round =>
   clear M3 HRr
   obtain⟨v10,i,a,l,D',F',rfl,rfl,rfl,hi,rfl,haw,han,MI,RWI,hl,hrest⟩:=hrel
   have MI:=hQQ MI
   have RWI:=hQQ RWI
   have LI:=hQQ (KL.o _ _ _ MI.o)
   have qi:IntKind.i64.wrap ((i:Int)+1)=(i:Int)+1:=aB (by omega) (by omega)
   by_cases hlt:(i:Int)<c.pg
   ·have d3:decide ((i:Int)<c.pg)=true:=by simp[hlt]
    rw[show c.pg.toNat-i=(c.pg.toNat-(i+1))+1 by omega] at hrest
    have RI:=hQQ (show ar (ep c.pg a) (fun x=>if x=q then aA (l,true) else if x= -1 then aA (l,false) else kK c.pg c.st q (c.pg.toNat-(i+1)) (nA c.pg c.st x) (l++ [x])) kn D'=Rr from hrest)
    clear hrest
    go_wp2_with (refine af rfl 28 _ rfl _ rfl 28 _ _ _ LI.o Tryz.underlying28 rfl (by kernel_rfl) ?_)
    refine(lR HR.o HH.o F' p kn D' a haw han wr MI.o.view HK.o MI.o.inv).mono ?_
    intro e w4 he
    rcases MI.o.step (ae.refl _) HK.o (dp HH.o han) he with⟨a',hE,rfl,hd',ht',_⟩|⟨x4,D4,F4,hE,rfl,M4,hq4,hkp,hnw⟩
    ·exact⟨rfl,NEED.o a' w4 (RI.o.symm.trans (ah hE)) hd' ht'⟩
    have R4:=hQQ ((ak hE).symm.trans RI.o)
    have RW4:=hQQ (RWI.o.went hkp hnw)
    have M4:=hQQ M4
    clear he hE hkp hnw
    by_cases ex:x4=q
    ·have d4:(x4==q)=true:=by simp[ex]
     have E4:=hQQ (show Rr=.ok (l,true) D4 from by have:=R4.o;rw[if_pos ex] at this;exact this.symm)
     clear R4 ex
     go_wp2_with fail
     go_step3
     refine⟨rfl,v10,true,_,_,_,_,_,_,_,_,_,_,_,_,_,_,_,_,_,_,_,_,_,_,_,_,_,_,_,_,_,_,_,rfl,⟨l,D4,F4,E4.o,M4.o,RW4.o⟩⟩
    have d4:(x4==q)=false:=by simp[ex]
    by_cases en:x4= -1
    ·have d5:(x4== -1)=true:=by simp[en]
     have E4:=hQQ (show Rr=.ok (l,false) D4 from by have:=R4.o;rw[if_neg ex,if_pos en] at this;exact this.symm)
     clear R4 ex en
     go_wp2_with fail
     go_step3
     refine⟨rfl,v10,false,_,_,_,_,_,_,_,_,_,_,_,_,_,_,_,_,_,_,_,_,_,_,_,_,_,_,_,_,_,_,_,rfl,⟨l,D4,F4,E4.o,M4.o,RW4.o⟩⟩
    have d5:(x4== -1)=false:=by simp[en]
    have hpx:=hq4.resolve_left en
    have P3:=hQQ (CJ (st:=c.st) hpx)
    have NB:=hQQ (eF HH.o hpx)
    have NX:=hQQ (show kK c.pg c.st q (c.pg.toNat-(i+1)) (nA c.pg c.st x4) (l++ [x4]) kn D4=Rr from by have:=R4.o;rw[if_neg ex,if_neg en] at this;exact this)
    clear R4 ex en hq4 hpx haw han
    go_wp2_with fail
    refine aR (TrC c w.heap.size) (by kernel_rfl) ?_
    have MR:=hQQ (M4.o.more ((ae.refl w4).drewN 1))
    have RR:=hQQ (RW4.o.more ((ae.refl w4).drewN 1))
    change dq _ _ _ _ _ _ _ _ (w4.drewN 1)
    generalize w4.drewN 1=wq at MR RR⊢
    clear M4 RW4 MI RWI LI
    generalize hA:Act.mk _ _=A
    have HF:AG 43 A [(6,.pointer (some ⟨w.heap.size,0,none⟩)),(13,.int .i64 x4),(10,v10)]:=by
     rw[←hA];try simp only[pts,List.foldl]
     refine⟨⟨Nat.le_of_ble_eq_true rfl,rfl⟩,?_⟩
     intro z hz;simp only[List.mem_cons,List.not_mem_nil,or_false] at hz;rcases hz with rfl|rfl|rfl<;>rfl
    refine bK (fun a W=>∃(u28 u29 u32 u33 u30 u31 u34 v':Value) (D9:List KV) (F9:Nat→Prop),a=(pts A [(28,u28),(29,u29),(32,u32),(33,u33),(30,u30),(31,u31),(34,u34),(10,v'),(12,.int .i64 (nA c.pg c.st x4))])∧MidV w1 W F (fun _=>False) p kn n D4 F4∧gp w1.heap.size F4 W v' (l++ [x4])) (fun W=>fj w F p kn (o9 w.heap.size) Rr (.panicked (aY p)) W) (aY p) (fun a W hd h=>⟨hd,h⟩) (fun _ _ _ _ _ h=>h) ?_ ?_
    ·rintro a wa ⟨u28,u29,u32,u33,u30,u31,u34,v',_,_,rfl,MS,RS⟩
     rw[←hA];try simp only[pts,List.foldl]
     have MS:=hQQ MS
     have RS:=hQQ RS
     clear HF hA MR RR
     go_wp2_with fail
     go_roundw
     case rel=>exact⟨_,i+1,_,l++ [x4],D4,F4,rfl,rfl,by go_num,by omega,rfl,NB.o.1.2.2,NB.o.1.2.1,MS.o,RS.o,by simp[hl],NX.o⟩
     case measure=>simp[intOf];omega
    intro QQ FINE FIND FINQ
    clear hA
    refine aG (i:=0) (v:=v10) (some 28) rfl rfl (by kernel_rfl) (by kernel_rfl) (by kernel_rfl) (fun c a w=>FINQ c a _ _ w) (KL.o _ _ _ MR.o) (by exact aH (ab rfl) _ rfl (HF.get 2 rfl)) ?_
    replace HF:AG 43 A [(6,.pointer (some ⟨w.heap.size,0,none⟩)),(13,.int .i64 x4)]:=HF.sub (fun z hz=>by simp only[List.mem_cons,List.not_mem_nil,or_false] at hz⊢;rcases hz with h|h;exact .inl h;exact .inr (.inl h))
    replace HF:=HF.put 28 (v10) (by decide) rfl
    generalize hB1:Act.put _ _ _=A at HF⊢
    refine aG (i:=1) (v:=.int .i64 x4) (some 29) rfl rfl (by kernel_rfl) (by kernel_rfl) (by kernel_rfl) (fun c a w=>FINQ c a _ _ w) (KL.o _ _ _ MR.o) (by exact aH (ab rfl) _ rfl (HF.get 2 rfl)) ?_
    replace HF:=HF.put 29 (.int .i64 x4) (by decide) rfl
    generalize hB2:Act.put _ _ _=A at HF⊢
    refine aG (i:=4) (v:=.agg c.arr) (some 32) rfl rfl (by kernel_rfl) (by kernel_rfl) (by kernel_rfl) (fun c a w=>FINQ c a _ _ w) (KL.o _ _ _ MR.o) (by exact aF (C:=TrC c w.heap.size) (ab rfl) 28 _ rfl w.heap.size (HF.get 2 rfl) 28 _ _ _ (fun W hW=>hW) Tryz.underlying28 rfl (by kernel_rfl)) ?_
    replace HF:=HF.put 32 (.agg c.arr) (by decide) rfl
    generalize hB3:Act.put _ _ _=A at HF⊢
    refine aG (i:=5) (v:=.int .i64 x4) (some 33) rfl rfl (by kernel_rfl) (by kernel_rfl) (by kernel_rfl) (fun c a w=>FINQ c a _ _ w) (KL.o _ _ _ MR.o) (by exact aH (ab rfl) _ rfl (HF.get 4 rfl)) ?_
    replace HF:=HF.put 33 (.int .i64 x4) (by decide) rfl
    generalize hB4:Act.put _ _ _=A at HF⊢
    refine az (i:=2) (some 30) (by kernel_rfl) rfl (ab rfl) rfl (fun K hK=>?_)
    refine DZ rfl x4 (HF.get 2 rfl) ?_
    have MRb:=hQQ (MR.o.more ((ae.refl wq).alloc (.cells #[.int .i64 x4] 3)))
    have RRb:=hQQ (RR.o.more ((ae.refl wq).alloc (.cells #[.int .i64 x4] 3)))
    have BL:=hQQ (bh wq (.cells #[.int .i64 x4] 3))
    refine hK _ _ (KL.o _ _ _ MRb.o) ?_
    clear hK K
    generalize hg:wq.heap.size=gb at BL⊢
    generalize wq.alloc (.cells #[.int .i64 x4] 3)=wqb at MRb RRb BL⊢
    clear hg
    replace HF:=HF.put 30 (.slice (some ⟨gb,0,none⟩) 1 1) (by decide) rfl
    generalize hB5:Act.put _ _ _=A at HF⊢
    refine az (i:=3) (some 31) (by kernel_rfl) rfl (ab rfl) rfl (fun K hK=>?_)
    refine CH (xs:=l) x4 _ _ rfl (HF.get 4 rfl) RRb.o.1 (by have:=MRb.o.size;omega) (by omega) (HF.get 0 rfl) BL.o ?_
    intro v' wqba hr' ht' hv'
    obtain⟨mA,rA⟩:=MRb.o.grew RRb.o (Nat.le_refl _) ht' hr' hv'
    have MA:=hQQ mA
    have RA:=hQQ rA
    clear mA rA hr' ht' hv'
    refine hK _ _ (KL.o _ _ _ MA.o) ?_
    clear hK K
    replace HF:=HF.put 31 (v') (by decide) rfl
    generalize hB6:Act.put _ _ _=A at HF⊢
    refine az (i:=6) (some 34) (by kernel_rfl) rfl (ab rfl) rfl (fun K hK=>?_)
    refine bI (v0:=.agg c.arr) (v1:=.int .i64 x4) rfl (HF.get 3 rfl) (HF.get 2 rfl) (enters_of Tryz.func136 (by kernel_rfl) rfl) ?_
    refine(lQ HR.o wqba x4).mono ?_
    rw[P3.o]
    rintro e wqban ⟨rfl,hn'⟩
    have MAn:=hQQ (MA.o.more hn')
    have RAn:=hQQ (RA.o.more hn')
    skip
    clear hn'
    refine hK _ _ (KL.o _ _ _ MAn.o) ?_
    clear hK K
    replace HF:=HF.put 34 (.int .i64 (nA c.pg c.st x4)) (by decide) rfl
    generalize hB7:Act.put _ _ _=A at HF⊢
    refine aG (i:=7) (v:=v') (some 10) rfl rfl (by kernel_rfl) (by kernel_rfl) (by kernel_rfl) (fun c a w=>FINQ c a _ _ w) (KL.o _ _ _ MAn.o) (by exact cy (ab rfl) _ rfl (HF.get 1 rfl)) ?_
    replace HF:=HF.put 10 (v') (by decide) rfl
    generalize hC1:Act.put _ _ _=A at HF⊢
    refine aG (i:=8) (v:=.int .i64 (nA c.pg c.st x4)) (some 12) rfl rfl (by kernel_rfl) (by kernel_rfl) (by kernel_rfl) (fun c a w=>FINQ c a _ _ w) (KL.o _ _ _ MAn.o) (by exact cy (ab rfl) _ rfl (HF.get 1 rfl)) ?_
    replace HF:=HF.put 12 (.int .i64 (nA c.pg c.st x4)) (by decide) rfl
    generalize hC2:Act.put _ _ _=A at HF⊢
    exact bQ (by kernel_rfl) (FINE _ _ ⟨_,_,_,_,_,_,_,v',D4,F4,by rw[←hC2,←hC1,←hB7,←hB6,←hB5,←hB4,←hB3,←hB2,←hB1]<;>rfl,MAn.o,RAn.o⟩)
   ·have hie:(i:Int)=c.pg:=by omega
    have d3:decide ((i:Int)<c.pg)=false:=by simp;omega
    rw[show c.pg.toNat-i=0 by omega] at hrest
    have FIN:=hQQ (DONE.o (l,false) (.tuple #[v10,.bool false]) wr D' F' hrest.symm MI.o ⟨v10,rfl,RWI.o.mono hw1⟩)
    clear hrest
    go_wp2_with fail
    go_step3
    go_wp2_with fail
    go_ret2
    exact FIN.o
 ·rintro a w' ⟨v,b,u12,u13,u14,u15,u16,u17,u18,u19,u20,u21,u22,u23,u24,u25,u26,u27,u28,u29,u30,u31,u32,u33,u34,u35,u36,u37,u38,u39,u40,u41,u42,rfl,l,D4,F4,hE,MS,RS⟩
  have FIN:=hQQ (DONE.o (l,b) (.tuple #[v,.bool b]) w' D4 F4 hE MS ⟨v,rfl,RS.mono hw1⟩)
  clear hE MS RS
  go_wp2_with fail
  go_ret2
  exact FIN.o
theorem Ei {c:Cfg}(R:c.Ok){n:Nat}(H:cH c.pg c.st n)(hn:n≤10000)(F:Nat→Prop)(p:Nat)(kn:Int→Option Int)(D:List KV)(q cl f:Int)(w:World)(hv:aK w F p kn D)(hk:OkK kn)(hD:cF n D):
 Calls Tryz.prog 130 #[.pointer (some ⟨p,0,none⟩),.agg c.arr,.int .i64 q,.int .i64 cl,.int .i64 f] w (aC w F p kn (fun b=> .bool b) (fD c.pg c.st q cl f kn D)):=by
 obtain⟨Rr,hRr⟩:∃Rr,fD c.pg c.st q cl f kn D=Rr:=⟨_,rfl⟩
 rw[hRr]
 obtain⟨w1,e1,hl1,m1,s1⟩:=bg w (.cells c.arr 28)
 have nFl:¬F w.heap.size:=fun q=>by have:=hv.lt _ q;omega
 have MM:=hQQ m1
 have L0:=hQQ hl1
 have M0:Hq (MidV w1 w1 F (fun _=>False) p kn n D F):=hQQ (MidV.begin (hv.more m1) hD)
 have KL:Hq (∀wr D' F',MidV w1 wr F (fun _=>False) p kn n D' F'→wr.heap[w.heap.size]?=some (.cells c.arr 28 (0,0))):=hQQ fun wr D' F' h=>cI h L0.o nFl (fun q=>q)
 have NEED:Hq (∀a w2,Rr=.need a→aQ w2 p a→Turned (fun b=>F b∨False) w1 w2→aC w F p kn (fun b:Bool=>Value.bool b) Rr (.panicked (aY p)) w2):=hQQ fun a w2 e hd ht=>cx MM.o (fun _ q=>q.elim) e hd ht
 have DONE:Hq (∀x w2 D' F',Rr=.ok x D'→MidV w1 w2 F (fun _=>False) p kn n D' F'→aC w F p kn (fun b:Bool=>Value.bool b) Rr (.returned ((fun b:Bool=>Value.bool b) x)) w2):=hQQ fun x w2 D' F' e h=>bZ MM.o (fun _ q=>q.elim) h e
 have HK:=hQQ hk
 have HR:=hQQ R
 have HH:=hQQ H
 clear hl1 m1 hv hD hk R H nFl
 unfold fD at hRr
 cases hq:ag c.pg q with
 |false =>
  rw[hq] at hRr
  have FIN:Hq (∀w2,ae w1 w2→aC w F p kn (fun b:Bool=>Value.bool b) Rr (.returned (.bool false)) w2):=hQQ fun w2 h=>DONE.o false w2 D F hRr.symm (M0.o.more h)
  clear hRr
  go_enter Tryz.func130,Tryz.ntmps130
  go_wp2_with (refine af rfl 28 _ rfl _ rfl 28 _ _ _ L0.o Tryz.underlying28 rfl (by kernel_rfl) ?_)
  refine(io HR.o HH.o q _).mono ?_
  rw[hq]
  rintro e w3 ⟨rfl,h3⟩
  have H3:=hQQ h3
  clear h3
  go_wp2_with fail
  go_ret
  exact FIN.o _ H3.o
 |true =>
  rw[hq] at hRr
  have HRr:=hQQ (show ar (kL c.pg c.st q cl f) (fun r=>if r.2 then ar (ep c.pg (nA c.pg c.st q)) (fun x=>ar (eT c.pg c.st (aI c.pg c.st cl f) (cB r.1) x) fun _=>ar (cP (nA c.pg c.st q) 0) fun _=>ar (cP (vA c.pg c.st q) 0) fun _=>aA true) else aA false) kn D=Rr from hRr)
  have P3:=hQQ (CJ (st:=c.st) hq)
  have P4:=hQQ (GF (st:=c.st) hq)
  have NB:=hQQ (eF HH.o hq)
  have HQ:=hQQ hq
  clear hRr hq
  go_enter Tryz.func130,Tryz.ntmps130
  go_wp2_with (refine af rfl 28 _ rfl _ rfl 28 _ _ _ L0.o Tryz.underlying28 rfl (by kernel_rfl) ?_)
  refine(io HR.o HH.o q _).mono ?_
  rw[HQ.o]
  rintro e w2 ⟨rfl,h2⟩
  have M2:=hQQ (M0.o.more h2)
  have L2:=hQQ (KL.o _ _ _ M2.o)
  clear h2
  go_wp2_with (refine af rfl 28 _ rfl _ rfl 28 _ _ _ L2.o Tryz.underlying28 rfl (by kernel_rfl) ?_)
  refine(AN HR.o HH.o F p kn D q cl f w2 M2.o.view HK.o M2.o.inv).mono ?_
  intro e w3 he
  rcases M2.o.stepR (ae.refl _) HK.o (od HH.o q cl f) he with⟨a',hE,rfl,hd',ht',_⟩|⟨⟨xs,b⟩,D2,F2,v,hE,rfl,⟨u,rfl,hu⟩,M3,hxs,_,_⟩
  ·exact⟨rfl,NEED.o a' w3 (HRr.o.symm.trans (ah hE)) hd' ht'⟩
  have R2:=hQQ ((ak hE).symm.trans HRr.o)
  have HXS:=hQQ (show ∀x∈xs,ag c.pg x=true from hxs.1)
  have hxl:xs.length≤256:=hxs.2
  have M3:=hQQ M3
  have L3:=hQQ (KL.o _ _ _ M3.o)
  have HU:=hQQ (show gp w2.heap.size F2 w3 u xs from hu)
  clear he hE hxs hu M2 L2
  cases b with
  |false =>
   have FIN:=hQQ (DONE.o false w3 D2 F2 R2.o.symm M3.o)
   clear R2
   go_wp2_with fail
   go_ret
   exact FIN.o
  |true =>
   have R2':=hQQ (show ar (ep c.pg (nA c.pg c.st q)) (fun x=>ar (eT c.pg c.st (aI c.pg c.st cl f) (cB xs) x) fun _=>ar (cP (nA c.pg c.st q) 0) fun _=>ar (cP (vA c.pg c.st q) 0) fun _=>aA true) kn D2=Rr from R2.o)
   obtain⟨av,cv,rfl,hrd⟩:=HU.o.1.reads
   by_cases h0:xs.length=0
   ·have hxn:xs= []:=List.length_eq_zero_iff.1 h0
    subst hxn
    clear R2 hrd h0 HU
    go_wp2_with fail
    refine aR (TrC c w.heap.size) (by kernel_rfl) ?_
    have MR:=hQQ (M3.o.more ((ae.refl w3).drewN 1))
    change dq _ _ _ _ _ _ _ _ (w3.drewN 1)
    generalize w3.drewN 1=wr at MR⊢
    generalize hA:Act.mk _ _=A
    have HF:AG 63 A [(0,.pointer (some ⟨p,0,none⟩)),(1,.agg c.arr),(2,.int .i64 q),(3,.int .i64 cl),(4,.int .i64 f),(6,.pointer (some ⟨w.heap.size,0,none⟩)),(13,.int .i64 (-1))]:=by
     rw[←hA];try simp only[pts,List.foldl]
     refine⟨⟨Nat.le_of_ble_eq_true rfl,rfl⟩,?_⟩
     intro z hz;simp only[List.mem_cons,List.not_mem_nil,or_false] at hz;rcases hz with rfl|rfl|rfl|rfl|rfl|rfl|rfl<;>rfl
    refine bK (fun a W=>∃(u39 u40 u41 u42 u43 u45 u46 u47 u48 u49 u44 u50 u51 u52:Value) (D9:List KV) (F9:Nat→Prop),a=(pts A [(39,u39),(40,u40),(41,u41),(42,u42),(43,u43),(45,u45),(46,u46),(47,u47),(48,u48),(49,u49),(44,u44),(50,u50),(51,u51),(52,u52)])∧MidV w1 W F (fun _=>False) p kn n D9 F9∧ar (cP (nA c.pg c.st q) 0) (fun _=>ar (cP (vA c.pg c.st q) 0) fun _=>aA true) kn D9=Rr) (fun W=>aC w F p kn (fun b:Bool=>Value.bool b) Rr (.panicked (aY p)) W) (aY p) (fun a W hd h=>⟨hd,h⟩) (fun _ _ _ _ _ h=>h) ?_ ?_
    ·skip
     rintro a wa ⟨u39,u40,u41,u42,u43,u45,u46,u47,u48,u49,u44,u50,u51,u52,D7,F7,rfl,MS,RS⟩
     rw[←hA];try simp only[pts,List.foldl]
     have MS:=hQQ MS
     have LS:=hQQ (KL.o _ _ _ MS.o)
     have RS:=hQQ RS
     clear HF hA MR M3 R2' L3
     go_wp2_with (refine af rfl 28 _ rfl _ rfl 28 _ _ _ LS.o Tryz.underlying28 rfl (by kernel_rfl) ?_)
     refine(lQ HR.o _ q).mono ?_
     rw[P3.o]
     rintro e w8 ⟨rfl,h8⟩
     have M8:=hQQ (MS.o.more h8)
     clear h8
     go_wp2_with fail
     refine(dl F7 p kn D7 _ 0 w8 M8.o.view (by have:=M8.o.inv.len;omega)).mono ?_
     intro e w9 he
     rcases M8.o.step (ae.refl _) HK.o (aV n NB.o.1.2.2 NB.o.1.2.1 (by unfold W64;omega)) he with⟨a',hE,rfl,hd',ht',_⟩|⟨x9,D9,F9,hE,rfl,M9,hq9,_,_⟩
     ·exact⟨rfl,NEED.o a' w9 (RS.o.symm.trans (ah hE)) hd' ht'⟩
     have L9:=hQQ (KL.o _ _ _ M9)
     have R9:=hQQ ((ak hE).symm.trans RS.o)
     have M9:=hQQ M9
     clear he hE
     go_wp2_with (refine af rfl 28 _ rfl _ rfl 28 _ _ _ L9.o Tryz.underlying28 rfl (by kernel_rfl) ?_)
     refine(p8 HR.o _ q).mono ?_
     rw[P4.o]
     rintro e w10 ⟨rfl,h10⟩
     have M10:=hQQ (M9.o.more h10)
     clear h10
     go_wp2_with fail
     refine(dl F9 p kn D9 _ 0 w10 M10.o.view (by have:=M10.o.inv.len;omega)).mono ?_
     intro e w11 he
     rcases M10.o.step (ae.refl _) HK.o (aV n NB.o.2.2.2 NB.o.2.2.1 (by unfold W64;omega)) he with⟨a',hE,rfl,hd',ht',_⟩|⟨x11,D11,F11,hE,rfl,M11,hq11,_,_⟩
     ·exact⟨rfl,NEED.o a' w11 (R9.o.symm.trans (ah hE)) hd' ht'⟩
     have FIN:=hQQ (DONE.o true w11 D11 F11 (R9.o.symm.trans (ak hE)) M11)
     clear he hE M11
     go_wp2_with fail
     go_ret
     exact FIN.o
    intro QQ FINE FIND FINQ
    clear hA
    refine aG (i:=0) (v:=.pointer (some ⟨p,0,none⟩)) (some 39) rfl rfl (by kernel_rfl) (by kernel_rfl) (by kernel_rfl) (fun c a w=>FINQ c a _ _ w) (KL.o _ _ _ MR.o) (by exact aH (ab rfl) _ rfl (HF.get 0 rfl)) ?_
    replace HF:=HF.put 39 (.pointer (some ⟨p,0,none⟩)) (by decide) rfl
    generalize hB1_39:Act.put _ _ _=A at HF⊢
    refine aG (i:=1) (v:=.agg c.arr) (some 40) rfl rfl (by kernel_rfl) (by kernel_rfl) (by kernel_rfl) (fun c a w=>FINQ c a _ _ w) (KL.o _ _ _ MR.o) (by exact aF (C:=(TrC c w.heap.size)) (ab rfl) 28 _ rfl w.heap.size (HF.get 6 rfl) 28 _ _ _ (fun W hW=>hW) Tryz.underlying28 rfl (by kernel_rfl)) ?_
    replace HF:=HF.put 40 (.agg c.arr) (by decide) rfl
    generalize hB2_40:Act.put _ _ _=A at HF⊢
    refine aG (i:=2) (v:=.agg c.arr) (some 41) rfl rfl (by kernel_rfl) (by kernel_rfl) (by kernel_rfl) (fun c a w=>FINQ c a _ _ w) (KL.o _ _ _ MR.o) (by exact aF (C:=(TrC c w.heap.size)) (ab rfl) 28 _ rfl w.heap.size (HF.get 7 rfl) 28 _ _ _ (fun W hW=>hW) Tryz.underlying28 rfl (by kernel_rfl)) ?_
    replace HF:=HF.put 41 (.agg c.arr) (by decide) rfl
    generalize hB3_41:Act.put _ _ _=A at HF⊢
    refine aG (i:=3) (v:=.int .i64 cl) (some 42) rfl rfl (by kernel_rfl) (by kernel_rfl) (by kernel_rfl) (fun c a w=>FINQ c a _ _ w) (KL.o _ _ _ MR.o) (by exact aH (ab rfl) _ rfl (HF.get 6 rfl)) ?_
    replace HF:=HF.put 42 (.int .i64 cl) (by decide) rfl
    generalize hB4_42:Act.put _ _ _=A at HF⊢
    refine aG (i:=4) (v:=.int .i64 f) (some 43) rfl rfl (by kernel_rfl) (by kernel_rfl) (by kernel_rfl) (fun c a w=>FINQ c a _ _ w) (KL.o _ _ _ MR.o) (by exact aH (ab rfl) _ rfl (HF.get 8 rfl)) ?_
    replace HF:=HF.put 43 (.int .i64 f) (by decide) rfl
    generalize hB5_43:Act.put _ _ _=A at HF⊢
    refine aG (i:=6) (v:=.int .i64 (-1)) (some 45) rfl rfl (by kernel_rfl) (by kernel_rfl) (by kernel_rfl) (fun c a w=>FINQ c a _ _ w) (KL.o _ _ _ MR.o) (by exact aH (ab rfl) _ rfl (HF.get 11 rfl)) ?_
    replace HF:=HF.put 45 (.int .i64 (-1)) (by decide) rfl
    generalize hB6_45:Act.put _ _ _=A at HF⊢
    refine aG (i:=7) (v:=.pointer (some ⟨p,0,none⟩)) (some 46) rfl rfl (by kernel_rfl) (by kernel_rfl) (by kernel_rfl) (fun c a w=>FINQ c a _ _ w) (KL.o _ _ _ MR.o) (by exact aH (ab rfl) _ rfl (HF.get 6 rfl)) ?_
    replace HF:=HF.put 46 (.pointer (some ⟨p,0,none⟩)) (by decide) rfl
    generalize hB7_46:Act.put _ _ _=A at HF⊢
    refine aG (i:=8) (v:=.agg c.arr) (some 47) rfl rfl (by kernel_rfl) (by kernel_rfl) (by kernel_rfl) (fun c a w=>FINQ c a _ _ w) (KL.o _ _ _ MR.o) (by exact aF (C:=(TrC c w.heap.size)) (ab rfl) 28 _ rfl w.heap.size (HF.get 12 rfl) 28 _ _ _ (fun W hW=>hW) Tryz.underlying28 rfl (by kernel_rfl)) ?_
    replace HF:=HF.put 47 (.agg c.arr) (by decide) rfl
    generalize hB8_47:Act.put _ _ _=A at HF⊢
    refine aG (i:=9) (v:=.agg c.arr) (some 48) rfl rfl (by kernel_rfl) (by kernel_rfl) (by kernel_rfl) (fun c a w=>FINQ c a _ _ w) (KL.o _ _ _ MR.o) (by exact aF (C:=(TrC c w.heap.size)) (ab rfl) 28 _ rfl w.heap.size (HF.get 13 rfl) 28 _ _ _ (fun W hW=>hW) Tryz.underlying28 rfl (by kernel_rfl)) ?_
    replace HF:=HF.put 48 (.agg c.arr) (by decide) rfl
    generalize hB9_48:Act.put _ _ _=A at HF⊢
    refine aG (i:=10) (v:=.int .i64 q) (some 49) rfl rfl (by kernel_rfl) (by kernel_rfl) (by kernel_rfl) (fun c a w=>FINQ c a _ _ w) (KL.o _ _ _ MR.o) (by exact aH (ab rfl) _ rfl (HF.get 11 rfl)) ?_
    replace HF:=HF.put 49 (.int .i64 q) (by decide) rfl
    generalize hB10_49:Act.put _ _ _=A at HF⊢
    refine az (i:=5) (some 44) (by kernel_rfl) rfl (ab rfl) rfl (fun K hK=>?_)
    refine dP (v0:=.agg c.arr) (v1:=.int .i64 cl) (v2:=.int .i64 f) rfl (HF.get 7 rfl) (HF.get 6 rfl) (HF.get 5 rfl) (enters_of Tryz.func93 (by kernel_rfl) rfl) ?_
    refine(kO HR.o wr cl f).mono ?_
    rintro e w4 ⟨rfl,h4⟩
    have M4:=hQQ (MR.o.more h4)
    clear h4
    refine hK _ _ (KL.o _ _ _ M4.o) ?_
    clear hK K
    replace HF:=HF.put 44 (.int .i64 (aI c.pg c.st cl f)) (by decide) rfl
    generalize hB11_44:Act.put _ _ _=A at HF⊢
    refine az (i:=11) (some 50) (by kernel_rfl) rfl (ab rfl) rfl (fun K hK=>?_)
    refine bI (v0:=.agg c.arr) (v1:=.int .i64 q) rfl (HF.get 2 rfl) (HF.get 1 rfl) (enters_of Tryz.func136 (by kernel_rfl) rfl) ?_
    refine(lQ HR.o w4 q).mono ?_
    rw[P3.o]
    rintro e w5 ⟨rfl,h5⟩
    have M5:=hQQ (M4.o.more h5)
    clear h5
    refine hK _ _ (KL.o _ _ _ M5.o) ?_
    clear hK K
    replace HF:=HF.put 50 (.int .i64 (nA c.pg c.st q)) (by decide) rfl
    generalize hB12_50:Act.put _ _ _=A at HF⊢
    refine az (i:=12) (some 51) (by kernel_rfl) rfl (ab rfl) rfl (fun K hK=>?_)
    refine dP (v0:=.pointer (some ⟨p,0,none⟩)) (v1:=.agg c.arr) (v2:=.int .i64 (nA c.pg c.st q)) rfl (HF.get 5 rfl) (HF.get 4 rfl) (HF.get 0 rfl) (enters_of Tryz.func92 (by kernel_rfl) rfl) ?_
    refine(lR HR.o HH.o F2 p kn D2 (nA c.pg c.st q) NB.o.1.2.2 NB.o.1.2.1 w5 M5.o.view HK.o M5.o.inv).mono ?_
    intro e w6 he
    rcases M5.o.step (ae.refl _) HK.o (dp HH.o NB.o.1.2.1) he with⟨a',hE,rfl,hd',ht',_⟩|⟨x6,D6,F6,hE,rfl,M6,hq6,_,_⟩
    ·exact FIND _ _ HF.1.2 (NEED.o a' w6 (R2'.o.symm.trans (ah hE)) hd' ht')
    have R6:=hQQ ((ak hE).symm.trans R2'.o)
    have M6:=hQQ M6
    clear he hE
    refine hK _ _ (KL.o _ _ _ M6.o) ?_
    clear hK K
    replace HF:=HF.put 51 (.int .i64 x6) (by decide) rfl
    generalize hB13_51:Act.put _ _ _=A at HF⊢
    refine az (i:=13) (some 52) (by kernel_rfl) rfl (ab rfl) rfl (fun K hK=>?_)
    refine j2 (v0:=.pointer (some ⟨p,0,none⟩)) (v1:=.agg c.arr) (v2:=.int .i64 (aI c.pg c.st cl f)) (v3:=.int .i64 (-1)) (v4:=.int .i64 x6) rfl (HF.get 12 rfl) (HF.get 11 rfl) (HF.get 2 rfl) (HF.get 7 rfl) (HF.get 0 rfl) (enters_of Tryz.func146 (by kernel_rfl) rfl) ?_
    refine(rD HR.o HH.o hn F6 p kn D6 (aI c.pg c.st cl f) (-1) x6 (bG HH.o).2.2 (bG HH.o).2.1 (.inl rfl) hq6 w6 M6.o.view HK.o M6.o.inv).mono ?_
    intro e w7 he
    rcases M6.o.step (ae.refl _) HK.o (dU HH.o (bG HH.o).2.2 (bG HH.o).2.1 (.inl rfl) hq6) he with⟨a',hE,rfl,hd',ht',_⟩|⟨x7,D7,F7,hE,rfl,M7,hq7,_,_⟩
    ·exact FIND _ _ HF.1.2 (NEED.o a' w7 (R6.o.symm.trans (ah hE)) hd' ht')
    have R7:=hQQ ((ak hE).symm.trans R6.o)
    have M7:=hQQ M7
    clear he hE
    refine hK _ _ (KL.o _ _ _ M7.o) ?_
    clear hK K
    replace HF:=HF.put 52 (.tuple #[]) (by decide) rfl
    generalize hB14_52:Act.put _ _ _=A at HF⊢
    exact bQ (by kernel_rfl) (FINE _ _ ⟨(.pointer (some ⟨p,0,none⟩)),(.agg c.arr),(.agg c.arr),(.int .i64 cl),(.int .i64 f),(.int .i64 (-1)),(.pointer (some ⟨p,0,none⟩)),(.agg c.arr),(.agg c.arr),(.int .i64 q),(.int .i64 (aI c.pg c.st cl f)),(.int .i64 (nA c.pg c.st q)),(.int .i64 x6),(.tuple #[]),D7,F7,by rw[←hB14_52,←hB13_51,←hB12_50,←hB11_44,←hB10_49,←hB9_48,←hB8_47,←hB7_46,←hB6_45,←hB5_43,←hB4_42,←hB3_41,←hB2_40,←hB1_39]<;>rfl,M7.o,R7.o⟩)
   ·obtain⟨g,rfl,_,_,hcell⟩:=hrd 0 (by omega)
    have d0:decide ((0:Int)<(xs.length:Int))=true:=by simp;omega
    have hlast:xs.getD (xs.length-1) 0=cB xs:=by
     unfold cB
     rw[List.getD_eq_getElem?_getD,List.getD_eq_getElem?_getD,List.getElem?_eq_getElem (by omega)]
     rfl
    have hc:=hcell (xs.length-1) (by omega)
    rw[hlast] at hc
    obtain⟨m,hm⟩:∃m:Nat,xs.length=m+1:=⟨xs.length-1,by omega⟩
    rw[hm] at hc⊢
    have hc:w3.cell? ⟨g,m,none⟩=some (.int .i64 (cB xs)):=hc
    have hm9:m<9000000000000000000:=by omega
    have q1:IntKind.i64.wrap (((m+1:Nat):Int)-1)=(m:Int):=by rw[show((m+1:Nat):Int)-1=(m:Int) by omega];exact aB (by omega) (by omega)
    have d1:decide ((0:Int)<((m+1:Nat):Int))=true:=by simp
    clear R2 hrd h0 HU hcell hlast hm d0
    go_wp2_with fail
    clear hc
    refine aR (TrC c w.heap.size) (by kernel_rfl) ?_
    have MR:=hQQ (M3.o.more ((ae.refl w3).drewN 1))
    change dq _ _ _ _ _ _ _ _ (w3.drewN 1)
    generalize w3.drewN 1=wr at MR⊢
    generalize hA:Act.mk _ _=A
    have HF:AG 63 A [(0,.pointer (some ⟨p,0,none⟩)),(1,.agg c.arr),(2,.int .i64 q),(3,.int .i64 cl),(4,.int .i64 f),(6,.pointer (some ⟨w.heap.size,0,none⟩)),(13,.int .i64 (cB xs))]:=by
     rw[←hA];try simp only[pts,List.foldl]
     refine⟨⟨Nat.le_of_ble_eq_true rfl,rfl⟩,?_⟩
     intro z hz;simp only[List.mem_cons,List.not_mem_nil,or_false] at hz;rcases hz with rfl|rfl|rfl|rfl|rfl|rfl|rfl<;>rfl
    refine bK (fun a W=>∃(u39 u40 u41 u42 u43 u45 u46 u47 u48 u49 u44 u50 u51 u52:Value) (D9:List KV) (F9:Nat→Prop),a=(pts A [(39,u39),(40,u40),(41,u41),(42,u42),(43,u43),(45,u45),(46,u46),(47,u47),(48,u48),(49,u49),(44,u44),(50,u50),(51,u51),(52,u52)])∧MidV w1 W F (fun _=>False) p kn n D9 F9∧ar (cP (nA c.pg c.st q) 0) (fun _=>ar (cP (vA c.pg c.st q) 0) fun _=>aA true) kn D9=Rr) (fun W=>aC w F p kn (fun b:Bool=>Value.bool b) Rr (.panicked (aY p)) W) (aY p) (fun a W hd h=>⟨hd,h⟩) (fun _ _ _ _ _ h=>h) ?_ ?_
    ·skip
     rintro a wa ⟨u39,u40,u41,u42,u43,u45,u46,u47,u48,u49,u44,u50,u51,u52,D7,F7,rfl,MS,RS⟩
     rw[←hA];try simp only[pts,List.foldl]
     have MS:=hQQ MS
     have LS:=hQQ (KL.o _ _ _ MS.o)
     have RS:=hQQ RS
     clear HF hA MR M3 R2' L3
     go_wp2_with (refine af rfl 28 _ rfl _ rfl 28 _ _ _ LS.o Tryz.underlying28 rfl (by kernel_rfl) ?_)
     refine(lQ HR.o _ q).mono ?_
     rw[P3.o]
     rintro e w8 ⟨rfl,h8⟩
     have M8:=hQQ (MS.o.more h8)
     clear h8
     go_wp2_with fail
     refine(dl F7 p kn D7 _ 0 w8 M8.o.view (by have:=M8.o.inv.len;omega)).mono ?_
     intro e w9 he
     rcases M8.o.step (ae.refl _) HK.o (aV n NB.o.1.2.2 NB.o.1.2.1 (by unfold W64;omega)) he with⟨a',hE,rfl,hd',ht',_⟩|⟨x9,D9,F9,hE,rfl,M9,hq9,_,_⟩
     ·exact⟨rfl,NEED.o a' w9 (RS.o.symm.trans (ah hE)) hd' ht'⟩
     have L9:=hQQ (KL.o _ _ _ M9)
     have R9:=hQQ ((ak hE).symm.trans RS.o)
     have M9:=hQQ M9
     clear he hE
     go_wp2_with (refine af rfl 28 _ rfl _ rfl 28 _ _ _ L9.o Tryz.underlying28 rfl (by kernel_rfl) ?_)
     refine(p8 HR.o _ q).mono ?_
     rw[P4.o]
     rintro e w10 ⟨rfl,h10⟩
     have M10:=hQQ (M9.o.more h10)
     clear h10
     go_wp2_with fail
     refine(dl F9 p kn D9 _ 0 w10 M10.o.view (by have:=M10.o.inv.len;omega)).mono ?_
     intro e w11 he
     rcases M10.o.step (ae.refl _) HK.o (aV n NB.o.2.2.2 NB.o.2.2.1 (by unfold W64;omega)) he with⟨a',hE,rfl,hd',ht',_⟩|⟨x11,D11,F11,hE,rfl,M11,hq11,_,_⟩
     ·exact⟨rfl,NEED.o a' w11 (R9.o.symm.trans (ah hE)) hd' ht'⟩
     have FIN:=hQQ (DONE.o true w11 D11 F11 (R9.o.symm.trans (ak hE)) M11)
     clear he hE M11
     go_wp2_with fail
     go_ret
     exact FIN.o
    intro QQ FINE FIND FINQ
    clear hA
    refine aG (i:=0) (v:=.pointer (some ⟨p,0,none⟩)) (some 39) rfl rfl (by kernel_rfl) (by kernel_rfl) (by kernel_rfl) (fun c a w=>FINQ c a _ _ w) (KL.o _ _ _ MR.o) (by exact aH (ab rfl) _ rfl (HF.get 0 rfl)) ?_
    replace HF:=HF.put 39 (.pointer (some ⟨p,0,none⟩)) (by decide) rfl
    generalize hB1_39:Act.put _ _ _=A at HF⊢
    refine aG (i:=1) (v:=.agg c.arr) (some 40) rfl rfl (by kernel_rfl) (by kernel_rfl) (by kernel_rfl) (fun c a w=>FINQ c a _ _ w) (KL.o _ _ _ MR.o) (by exact aF (C:=(TrC c w.heap.size)) (ab rfl) 28 _ rfl w.heap.size (HF.get 6 rfl) 28 _ _ _ (fun W hW=>hW) Tryz.underlying28 rfl (by kernel_rfl)) ?_
    replace HF:=HF.put 40 (.agg c.arr) (by decide) rfl
    generalize hB2_40:Act.put _ _ _=A at HF⊢
    refine aG (i:=2) (v:=.agg c.arr) (some 41) rfl rfl (by kernel_rfl) (by kernel_rfl) (by kernel_rfl) (fun c a w=>FINQ c a _ _ w) (KL.o _ _ _ MR.o) (by exact aF (C:=(TrC c w.heap.size)) (ab rfl) 28 _ rfl w.heap.size (HF.get 7 rfl) 28 _ _ _ (fun W hW=>hW) Tryz.underlying28 rfl (by kernel_rfl)) ?_
    replace HF:=HF.put 41 (.agg c.arr) (by decide) rfl
    generalize hB3_41:Act.put _ _ _=A at HF⊢
    refine aG (i:=3) (v:=.int .i64 cl) (some 42) rfl rfl (by kernel_rfl) (by kernel_rfl) (by kernel_rfl) (fun c a w=>FINQ c a _ _ w) (KL.o _ _ _ MR.o) (by exact aH (ab rfl) _ rfl (HF.get 6 rfl)) ?_
    replace HF:=HF.put 42 (.int .i64 cl) (by decide) rfl
    generalize hB4_42:Act.put _ _ _=A at HF⊢
    refine aG (i:=4) (v:=.int .i64 f) (some 43) rfl rfl (by kernel_rfl) (by kernel_rfl) (by kernel_rfl) (fun c a w=>FINQ c a _ _ w) (KL.o _ _ _ MR.o) (by exact aH (ab rfl) _ rfl (HF.get 8 rfl)) ?_
    replace HF:=HF.put 43 (.int .i64 f) (by decide) rfl
    generalize hB5_43:Act.put _ _ _=A at HF⊢
    refine aG (i:=6) (v:=.int .i64 (cB xs)) (some 45) rfl rfl (by kernel_rfl) (by kernel_rfl) (by kernel_rfl) (fun c a w=>FINQ c a _ _ w) (KL.o _ _ _ MR.o) (by exact aH (ab rfl) _ rfl (HF.get 11 rfl)) ?_
    replace HF:=HF.put 45 (.int .i64 (cB xs)) (by decide) rfl
    generalize hB6_45:Act.put _ _ _=A at HF⊢
    refine aG (i:=7) (v:=.pointer (some ⟨p,0,none⟩)) (some 46) rfl rfl (by kernel_rfl) (by kernel_rfl) (by kernel_rfl) (fun c a w=>FINQ c a _ _ w) (KL.o _ _ _ MR.o) (by exact aH (ab rfl) _ rfl (HF.get 6 rfl)) ?_
    replace HF:=HF.put 46 (.pointer (some ⟨p,0,none⟩)) (by decide) rfl
    generalize hB7_46:Act.put _ _ _=A at HF⊢
    refine aG (i:=8) (v:=.agg c.arr) (some 47) rfl rfl (by kernel_rfl) (by kernel_rfl) (by kernel_rfl) (fun c a w=>FINQ c a _ _ w) (KL.o _ _ _ MR.o) (by exact aF (C:=(TrC c w.heap.size)) (ab rfl) 28 _ rfl w.heap.size (HF.get 12 rfl) 28 _ _ _ (fun W hW=>hW) Tryz.underlying28 rfl (by kernel_rfl)) ?_
    replace HF:=HF.put 47 (.agg c.arr) (by decide) rfl
    generalize hB8_47:Act.put _ _ _=A at HF⊢
    refine aG (i:=9) (v:=.agg c.arr) (some 48) rfl rfl (by kernel_rfl) (by kernel_rfl) (by kernel_rfl) (fun c a w=>FINQ c a _ _ w) (KL.o _ _ _ MR.o) (by exact aF (C:=(TrC c w.heap.size)) (ab rfl) 28 _ rfl w.heap.size (HF.get 13 rfl) 28 _ _ _ (fun W hW=>hW) Tryz.underlying28 rfl (by kernel_rfl)) ?_
    replace HF:=HF.put 48 (.agg c.arr) (by decide) rfl
    generalize hB9_48:Act.put _ _ _=A at HF⊢
    refine aG (i:=10) (v:=.int .i64 q) (some 49) rfl rfl (by kernel_rfl) (by kernel_rfl) (by kernel_rfl) (fun c a w=>FINQ c a _ _ w) (KL.o _ _ _ MR.o) (by exact aH (ab rfl) _ rfl (HF.get 11 rfl)) ?_
    replace HF:=HF.put 49 (.int .i64 q) (by decide) rfl
    generalize hB10_49:Act.put _ _ _=A at HF⊢
    refine az (i:=5) (some 44) (by kernel_rfl) rfl (ab rfl) rfl (fun K hK=>?_)
    refine dP (v0:=.agg c.arr) (v1:=.int .i64 cl) (v2:=.int .i64 f) rfl (HF.get 7 rfl) (HF.get 6 rfl) (HF.get 5 rfl) (enters_of Tryz.func93 (by kernel_rfl) rfl) ?_
    refine(kO HR.o wr cl f).mono ?_
    rintro e w4 ⟨rfl,h4⟩
    have M4:=hQQ (MR.o.more h4)
    clear h4
    refine hK _ _ (KL.o _ _ _ M4.o) ?_
    clear hK K
    replace HF:=HF.put 44 (.int .i64 (aI c.pg c.st cl f)) (by decide) rfl
    generalize hB11_44:Act.put _ _ _=A at HF⊢
    refine az (i:=11) (some 50) (by kernel_rfl) rfl (ab rfl) rfl (fun K hK=>?_)
    refine bI (v0:=.agg c.arr) (v1:=.int .i64 q) rfl (HF.get 2 rfl) (HF.get 1 rfl) (enters_of Tryz.func136 (by kernel_rfl) rfl) ?_
    refine(lQ HR.o w4 q).mono ?_
    rw[P3.o]
    rintro e w5 ⟨rfl,h5⟩
    have M5:=hQQ (M4.o.more h5)
    clear h5
    refine hK _ _ (KL.o _ _ _ M5.o) ?_
    clear hK K
    replace HF:=HF.put 50 (.int .i64 (nA c.pg c.st q)) (by decide) rfl
    generalize hB12_50:Act.put _ _ _=A at HF⊢
    refine az (i:=12) (some 51) (by kernel_rfl) rfl (ab rfl) rfl (fun K hK=>?_)
    refine dP (v0:=.pointer (some ⟨p,0,none⟩)) (v1:=.agg c.arr) (v2:=.int .i64 (nA c.pg c.st q)) rfl (HF.get 5 rfl) (HF.get 4 rfl) (HF.get 0 rfl) (enters_of Tryz.func92 (by kernel_rfl) rfl) ?_
    refine(lR HR.o HH.o F2 p kn D2 (nA c.pg c.st q) NB.o.1.2.2 NB.o.1.2.1 w5 M5.o.view HK.o M5.o.inv).mono ?_
    intro e w6 he
    rcases M5.o.step (ae.refl _) HK.o (dp HH.o NB.o.1.2.1) he with⟨a',hE,rfl,hd',ht',_⟩|⟨x6,D6,F6,hE,rfl,M6,hq6,_,_⟩
    ·exact FIND _ _ HF.1.2 (NEED.o a' w6 (R2'.o.symm.trans (ah hE)) hd' ht')
    have R6:=hQQ ((ak hE).symm.trans R2'.o)
    have M6:=hQQ M6
    clear he hE
    refine hK _ _ (KL.o _ _ _ M6.o) ?_
    clear hK K
    replace HF:=HF.put 51 (.int .i64 x6) (by decide) rfl
    generalize hB13_51:Act.put _ _ _=A at HF⊢
    refine az (i:=13) (some 52) (by kernel_rfl) rfl (ab rfl) rfl (fun K hK=>?_)
    refine j2 (v0:=.pointer (some ⟨p,0,none⟩)) (v1:=.agg c.arr) (v2:=.int .i64 (aI c.pg c.st cl f)) (v3:=.int .i64 (cB xs)) (v4:=.int .i64 x6) rfl (HF.get 12 rfl) (HF.get 11 rfl) (HF.get 2 rfl) (HF.get 7 rfl) (HF.get 0 rfl) (enters_of Tryz.func146 (by kernel_rfl) rfl) ?_
    refine(rD HR.o HH.o hn F6 p kn D6 (aI c.pg c.st cl f) (cB xs) x6 (bG HH.o).2.2 (bG HH.o).2.1 (kN HH.o HXS.o) hq6 w6 M6.o.view HK.o M6.o.inv).mono ?_
    intro e w7 he
    rcases M6.o.step (ae.refl _) HK.o (dU HH.o (bG HH.o).2.2 (bG HH.o).2.1 (kN HH.o HXS.o) hq6) he with⟨a',hE,rfl,hd',ht',_⟩|⟨x7,D7,F7,hE,rfl,M7,hq7,_,_⟩
    ·exact FIND _ _ HF.1.2 (NEED.o a' w7 (R6.o.symm.trans (ah hE)) hd' ht')
    have R7:=hQQ ((ak hE).symm.trans R6.o)
    have M7:=hQQ M7
    clear he hE
    refine hK _ _ (KL.o _ _ _ M7.o) ?_
    clear hK K
    replace HF:=HF.put 52 (.tuple #[]) (by decide) rfl
    generalize hB14_52:Act.put _ _ _=A at HF⊢
    exact bQ (by kernel_rfl) (FINE _ _ ⟨(.pointer (some ⟨p,0,none⟩)),(.agg c.arr),(.agg c.arr),(.int .i64 cl),(.int .i64 f),(.int .i64 (cB xs)),(.pointer (some ⟨p,0,none⟩)),(.agg c.arr),(.agg c.arr),(.int .i64 q),(.int .i64 (aI c.pg c.st cl f)),(.int .i64 (nA c.pg c.st q)),(.int .i64 x6),(.tuple #[]),D7,F7,by rw[←hB14_52,←hB13_51,←hB12_50,←hB11_44,←hB10_49,←hB9_48,←hB8_47,←hB7_46,←hB6_45,←hB5_43,←hB4_42,←hB3_41,←hB2_40,←hB1_39]<;>rfl,M7.o,R7.o⟩)
theorem yD {c:Cfg}(R:c.Ok){n:Nat}(H:cH c.pg c.st n)(p:Nat)(nd a:Int)(w:World)(hd:aQ w p nd):
 Calls Tryz.prog 92 #[.pointer (some ⟨p,0,none⟩),.agg c.arr,.int .i64 a] w (aU w (.int .i64 (-1))):=by
 obtain⟨w1,e1,hl1,m1,s1⟩:=bg w (.cells c.arr 28)
 have MM:=hQQ m1
 have L0:=hQQ hl1
 have DD:Hq (∀W,ae w1 W→aQ W p nd):=hQQ fun W m=>(hd.keep m1 (fun q=>q)).keep m (fun q=>q)
 have HR:=hQQ R
 have HH:=hQQ H
 clear hl1 m1 hd R H
 have q0:IntKind.i64.wrap (0-1)= -1:=by decide
 have hb:ag c.pg (-1)=false:=by
  cases e:ag c.pg (-1) with
  |false=>rfl
  |true=>have:=ay.1 e;omega
 by_cases a0:a=0
 ·have d0:(a==0)=true:=by simp[a0]
  clear a0
  go_enter Tryz.func92,Tryz.ntmps92
  go_wp2_with fail
  go_ret
  exact⟨rfl,MM.o⟩
 ·have d0:(a==0)=false:=by simp[a0]
  clear a0
  go_enter Tryz.func92,Tryz.ntmps92
  go_wp2_with fail
  refine(uU p nd a w1 (DD.o _ (ae.refl _))).mono ?_
  rintro e w2 ⟨rfl,rfl⟩
  go_wp2_with (refine af rfl 28 _ rfl _ rfl 28 _ _ _ L0.o Tryz.underlying28 rfl (by kernel_rfl) ?_)
  refine(io HR.o HH.o (-1) _).mono ?_
  rw[hb]
  rintro e w3 ⟨rfl,h3⟩
  have FIN:=hQQ (MM.o.trans h3)
  clear h3
  go_wp2_with fail
  go_ret
  exact⟨rfl,FIN.o⟩
theorem CM {c:Cfg}(R:c.Ok){n:Nat}(H:cH c.pg c.st n)(p:Nat)(nd h x y:Int)(w:World)(hd:aQ w p nd):
 Calls Tryz.prog 146 #[.pointer (some ⟨p,0,none⟩),.agg c.arr,.int .i64 h,.int .i64 x,.int .i64 y] w (aU w (.tuple #[])):=by
 obtain⟨w1,e1,hl1,m1,s1⟩:=bg w (.cells c.arr 28)
 have MM:=hQQ m1
 have L0:=hQQ hl1
 have DD:Hq (∀W,ae w1 W→aQ W p nd):=hQQ fun W m=>(hd.keep m1 (fun q=>q)).keep m (fun q=>q)
 have HR:=hQQ R
 have HH:=hQQ H
 clear hl1 m1 hd R H
 have M0:Hq (ae w1 w1):=hQQ (ae.refl _)
 by_cases ex:x= -1
 ·have d0:(x== -1)=true:=by simp[ex]
  clear ex
  go_enter Tryz.func146,Tryz.ntmps146
  go_wp2_with fail
  refine(kC p nd _ _ _ (DD.o _ M0.o)).mono ?_
  rintro e w2 ⟨rfl,rfl⟩
  by_cases ey:y= -1
  ·have d1:(y != -1)=false:=by simp[ey]
   have d2:(y== -1)=true:=by simp[ey]
   have FIN:=hQQ (MM.o.trans M0.o)
   clear ey
   go_wp2_with fail
   go_end0
   exact⟨rfl,FIN.o⟩
  ·have d1:(y != -1)=true:=by simpa using ey
   have d2:(y== -1)=false:=by simpa using ey
   clear ey
   go_wp2_with (refine af rfl 28 _ rfl _ rfl 28 _ _ _ L0.o Tryz.underlying28 rfl (by kernel_rfl) ?_)
   refine(p8 HR.o _ y).mono ?_
   rintro e w7 ⟨rfl,h7⟩
   have M7:=hQQ (M0.o.trans h7)
   have L7:=hQQ (h7.block L0.o)
   clear h7
   have FIN:=hQQ (MM.o.trans M7.o)
   go_wp2_with fail
   refine(kC p nd _ _ _ (DD.o _ M7.o)).mono ?_
   rintro e w8 ⟨rfl,rfl⟩
   go_wp2_with fail
   go_end0
   exact⟨rfl,FIN.o⟩
 ·have d0:(x== -1)=false:=by simp[ex]
  clear ex
  go_enter Tryz.func146,Tryz.ntmps146
  go_wp2_with (refine af rfl 28 _ rfl _ rfl 28 _ _ _ L0.o Tryz.underlying28 rfl (by kernel_rfl) ?_)
  refine(lQ HR.o _ x).mono ?_
  rintro e w5 ⟨rfl,h5⟩
  have M5:=hQQ (M0.o.trans h5)
  have L5:=hQQ (h5.block L0.o)
  clear h5
  go_wp2_with fail
  refine(kC p nd _ _ _ (DD.o _ M5.o)).mono ?_
  rintro e w2 ⟨rfl,rfl⟩
  by_cases ey:y= -1
  ·have d1:(y != -1)=false:=by simp[ey]
   have d2:(y== -1)=true:=by simp[ey]
   have FIN:=hQQ (MM.o.trans M5.o)
   clear ey
   go_wp2_with fail
   go_end0
   exact⟨rfl,FIN.o⟩
  ·have d1:(y != -1)=true:=by simpa using ey
   have d2:(y== -1)=false:=by simpa using ey
   clear ey
   go_wp2_with (refine af rfl 28 _ rfl _ rfl 28 _ _ _ L5.o Tryz.underlying28 rfl (by kernel_rfl) ?_)
   refine(p8 HR.o _ y).mono ?_
   rintro e w7 ⟨rfl,h7⟩
   have M7:=hQQ (M5.o.trans h7)
   have L7:=hQQ (h7.block L5.o)
   clear h7
   have FIN:=hQQ (MM.o.trans M7.o)
   go_wp2_with fail
   refine(kC p nd _ _ _ (DD.o _ M7.o)).mono ?_
   rintro e w8 ⟨rfl,rfl⟩
   go_wp2_with fail
   go_end0
   exact⟨rfl,FIN.o⟩
theorem AP {c:Cfg}(R:c.Ok){n:Nat}(H:cH c.pg c.st n)(p:Nat)(nd q cl f:Int)(hq:ag c.pg q=true)(w:World)(hd:aQ w p nd):
 Calls Tryz.prog 145 #[.pointer (some ⟨p,0,none⟩),.agg c.arr,.int .i64 q,.int .i64 cl,.int .i64 f] w (aU w (.tuple #[.slice none 0 0,.bool false])):=by
 obtain⟨w1,e1,hl1,m1,s1⟩:=bg w (.cells c.arr 28)
 have MM:=hQQ m1
 have L0:=hQQ hl1
 have DD:Hq (∀W,ae w1 W→aQ W p nd):=hQQ fun W m=>(hd.keep m1 (fun q=>q)).keep m (fun q=>q)
 have HR:=hQQ R
 have HH:=hQQ H
 clear hl1 m1 hd R H
 have hfl:=fx c
 have pg1:=HR.o.pg1
 have pg2:=HR.o.pg2
 have hqp:=ay.1 hq
 have d4:(-1==q)=false:=by simp;omega
 have M0:Hq (ae w1 w1):=hQQ (ae.refl _)
 clear hq
 go_enter Tryz.func145,Tryz.ntmps145
 go_wp2_with fail
 refine wp_scope_jumps 0 (fun a' w'=>∃(u12 u13 u14 u15 u16 u17 u18 u19 u20 u21 u22 u23 u24 u25 u26 u27 u28 u29 u30 u31 u32 u33 u34 u35 u36 u37 u38 u39 u40 u41 u42:Value),a'= { tmps:= #[.pointer (some ⟨p,0,none⟩),.agg c.arr,.int .i64 q,.int .i64 cl,.int .i64 f,undef,.pointer (some ⟨w.heap.size,0,none⟩),undef,undef,undef,.slice none 0 0,.bool false,u12,u13,u14,u15,u16,u17,u18,u19,u20,u21,u22,u23,u24,u25,u26,u27,u28,u29,u30,u31,u32,u33,u34,u35,u36,u37,u38,u39,u40,u41,u42],defers:= [] } ∧ae w1 w') (fun _ _=>0) rfl ?_ ?_
 ·go_wp2_with (refine af rfl 28 _ rfl _ rfl 28 _ _ _ L0.o Tryz.underlying28 rfl (by kernel_rfl) ?_)
  refine(kO HR.o _ cl f).mono ?_
  rintro e w2 ⟨rfl,h2⟩
  have M2:=hQQ (M0.o.trans h2)
  have L2:=hQQ (h2.block L0.o)
  clear h2
  go_wp2_with (refine af rfl 28 _ rfl _ rfl 28 _ _ _ L2.o Tryz.underlying28 rfl (by kernel_rfl) ?_)
  refine(dx HR.o _).mono ?_
  rintro e w3 ⟨rfl,h3⟩
  have M3:=hQQ (M2.o.trans h3)
  have L3:=hQQ (h3.block L2.o)
  clear h3
  go_wp2_with fail
  go_loopw [10,11,12,21] (fun v10 v11 v12 v21 wr=>v10=.slice none 0 0∧v11=.bool false∧v21=.int .i64 0∧v12=.int .i64 (aI c.pg c.st cl f)∧ae w1 wr) (fun _ _ _ _ _=>0)
  case atStart=>exact⟨rfl,rfl,rfl,rfl,M3.o⟩
  case round =>
   clear M3 L3
   obtain⟨rfl,rfl,rfl,rfl,mr⟩:=hrel
   have MI:=hQQ mr
   have LI:=hQQ (mr.block L0.o)
   clear mr
   have d3:decide ((0:Int)<c.pg)=true:=by simp;omega
   go_wp2_with (refine af rfl 28 _ rfl _ rfl 28 _ _ _ LI.o Tryz.underlying28 rfl (by kernel_rfl) ?_)
   refine(yD HR.o HH.o p nd _ wr (DD.o _ MI.o)).mono ?_
   rintro e w4 ⟨rfl,h4⟩
   have M4:=hQQ (MI.o.trans h4)
   clear h4
   go_wp2_with fail
   go_step3
   refine⟨rfl,_,_,_,_,_,_,_,_,_,_,_,_,_,_,_,_,_,_,_,_,_,_,_,_,_,_,_,_,_,_,_,rfl,M4.o⟩
 ·rintro a w' ⟨u12,u13,u14,u15,u16,u17,u18,u19,u20,u21,u22,u23,u24,u25,u26,u27,u28,u29,u30,u31,u32,u33,u34,u35,u36,u37,u38,u39,u40,u41,u42,rfl,mf⟩
  have FIN:=hQQ (MM.o.trans mf)
  clear mf
  go_wp2_with fail
  go_ret2
  exact⟨rfl,FIN.o⟩
theorem Ej {c:Cfg}(R:c.Ok){n:Nat}(H:cH c.pg c.st n)(p:Nat)(nd q k f:Int)(w:World)(hd:aQ w p nd):
 Calls Tryz.prog 130 #[.pointer (some ⟨p,0,none⟩),.agg c.arr,.int .i64 q,.int .i64 k,.int .i64 f] w (aU w (.bool false)):=by
 obtain⟨w1,e1,hl1,m1,s1⟩:=bg w (.cells c.arr 28)
 have MM:=hQQ m1
 have L0:=hQQ hl1
 have DD:Hq (∀W,ae w1 W→aQ W p nd):=hQQ fun W m=>(hd.keep m1 (fun q=>q)).keep m (fun q=>q)
 have HR:=hQQ R
 have HH:=hQQ H
 clear hl1 m1 hd R H
 go_enter Tryz.func130,Tryz.ntmps130
 go_wp2_with (refine af rfl 28 _ rfl _ rfl 28 _ _ _ L0.o Tryz.underlying28 rfl (by kernel_rfl) ?_)
 refine(io HR.o HH.o q _).mono ?_
 cases hq:ag c.pg q with
 |false =>
  rintro e w2 ⟨rfl,h2⟩
  have FIN:=hQQ (MM.o.trans h2)
  clear h2
  go_wp2_with fail
  go_ret
  exact⟨rfl,FIN.o⟩
 |true =>
  rintro e w2 ⟨rfl,h2⟩
  have M2:=hQQ h2
  have L2:=hQQ (h2.block L0.o)
  clear h2
  go_wp2_with (refine af rfl 28 _ rfl _ rfl 28 _ _ _ L2.o Tryz.underlying28 rfl (by kernel_rfl) ?_)
  refine(AP HR.o HH.o p nd q k f hq w2 (DD.o _ M2.o)).mono ?_
  rintro e w3 ⟨rfl,h3⟩
  have FIN:=hQQ (MM.o.trans (M2.o.trans h3))
  clear h3
  go_wp2_with fail
  go_ret
  exact⟨rfl,FIN.o⟩
theorem JH {c:Cfg}(R:c.Ok){n:Nat}(H:cH c.pg c.st n)(p:Nat)(nd q k f:Int)(w:World)(hd:aQ w p nd):
 Calls Tryz.prog 131 #[.pointer (some ⟨p,0,none⟩),.agg c.arr,.int .i64 q,.int .i64 k,.int .i64 f] w (aU w (.bool (aI c.pg c.st k f != 0 && ag c.pg q))):=by
 obtain⟨w1,e1,hl1,m1,s1⟩:=bg w (.cells c.arr 28)
 have MM:=hQQ m1
 have L0:=hQQ hl1
 have DD:Hq (∀W,ae w1 W→aQ W p nd):=hQQ fun W m=>(hd.keep m1 (fun q=>q)).keep m (fun q=>q)
 have HR:=hQQ R
 have HH:=hQQ H
 clear hl1 m1 hd R H
 obtain⟨hv,hhv⟩:∃hv,aI c.pg c.st k f=hv:=⟨_,rfl⟩
 have YH:=hQQ (fun W=>kO HR.o W k f)
 rw[hhv] at YH⊢
 clear hhv
 go_enter Tryz.func131,Tryz.ntmps131
 go_wp2_with (refine af rfl 28 _ rfl _ rfl 28 _ _ _ L0.o Tryz.underlying28 rfl (by kernel_rfl) ?_)
 refine(YH.o _).mono ?_
 rintro e w2 ⟨rfl,h2⟩
 have M2:=hQQ h2
 have L2:=hQQ (h2.block L0.o)
 clear h2
 by_cases hz:hv=0
 ·have d0:(hv==0)=true:=by simp[hz]
  have FIN:=hQQ (MM.o.trans M2.o)
  have HZ:=hQQ (show(hv != 0 && ag c.pg q)=false by simp[hz])
  clear hz
  go_wp2_with fail
  go_ret
  exact⟨by rw[HZ.o];rfl,FIN.o⟩
 have d0:(hv==0)=false:=by simp[hz]
 have HZ:=hQQ (show(hv != 0 && ag c.pg q)=ag c.pg q by simp[hz])
 clear hz
 go_wp2_with (refine af rfl 28 _ rfl _ rfl 28 _ _ _ L2.o Tryz.underlying28 rfl (by kernel_rfl) ?_)
 refine(io HR.o HH.o q _).mono ?_
 cases hq:ag c.pg q with
 |false =>
  rintro e w3 ⟨rfl,h3⟩
  have FIN:=hQQ (MM.o.trans (M2.o.trans h3))
  clear h3
  go_wp2_with fail
  go_ret
  exact⟨by rw[HZ.o,hq];rfl,FIN.o⟩
 |true =>
  rintro e w3 ⟨rfl,h3⟩
  have M3:=hQQ (M2.o.trans h3)
  have L3:=hQQ (h3.block L2.o)
  clear h3
  have DL:=hQQ (fun W (hW:ae w3 W)=>yD HR.o HH.o p nd hv W (DD.o _ (M3.o.trans hW)))
  have DJ:=hQQ (fun W (hW:ae w3 W)=>CM HR.o HH.o p nd hv q (-1) W (DD.o _ (M3.o.trans hW)))
  go_wp2_with fail
  refine bU (by kernel_rfl) (by kernel_rfl) ?_
  iterate 1
   with_reducible refine wpQuiet_step (fun K hK=>?_)
   go_simp
   first
   |(refine hK _ ?_;clear hK K)
   |(apply Exists.intro
     refine⟨fun W hW=>?_,hK _ ?_⟩
     first
     |(go_simp;try rfl)
     clear hK K)
  refine aP rfl 28 _ rfl _ rfl 28 _ _ _ (fun W hW=>hW.block L3.o) Tryz.underlying28 rfl (by kernel_rfl) ?_
  iterate 3
   with_reducible refine wpQuiet_step (fun K hK=>?_)
   go_simp
   first
   |(refine hK _ ?_;clear hK K)
   |(apply Exists.intro
     refine⟨fun W hW=>?_,hK _ ?_⟩
     first
     |(go_simp;try rfl)
     clear hK K)
  refine aP rfl 28 _ rfl _ rfl 28 _ _ _ (fun W hW=>hW.block L3.o) Tryz.underlying28 rfl (by kernel_rfl) ?_
  iterate 2
   with_reducible refine wpQuiet_step (fun K hK=>?_)
   go_simp
   first
   |(refine hK _ ?_;clear hK K)
   |(apply Exists.intro
     refine⟨fun W hW=>?_,hK _ ?_⟩
     first
     |(go_at_call 92;exact Calls.more hW (DL.o W hW))
     |(go_simp;try rfl)
     clear hK K)
  iterate 1
   with_reducible refine wpQuiet_step (fun K hK=>?_)
   go_simp
   first
   |(refine hK _ ?_;clear hK K)
   |(apply Exists.intro
     refine⟨fun W hW=>?_,hK _ ?_⟩
     first
     |(go_at_call 146;exact Calls.more hW (DJ.o W hW))
     |(go_simp;try rfl)
     clear hK K)
  refine wpQuiet_nil ?_
  intro w5 h5
  have M5:=hQQ (M3.o.trans h5)
  have L5:=hQQ (h5.block L3.o)
  clear h5
  go_wp2_with (refine af rfl 28 _ rfl _ rfl 28 _ _ _ L5.o Tryz.underlying28 rfl (by kernel_rfl) ?_)
  refine(CM HR.o HH.o p nd hv (-1) q w5 (DD.o _ M5.o)).mono ?_
  rintro e w6 ⟨rfl,h6⟩
  have FIN:=hQQ (MM.o.trans (M5.o.trans h6))
  clear h6
  go_wp2_with fail
  go_ret
  exact⟨by rw[HZ.o,hq];rfl,FIN.o⟩
theorem AQ {c:Cfg}(R:c.Ok)(w:World)(k:Int):Calls Tryz.prog 90 #[.agg c.arr,.int .i64 k] w (aU w (.int .i64 (dE c.pg c.st 0 k))):=Nh R w k
theorem pc {c:Cfg}(R:c.Ok)(w:World)(k:Int):Calls Tryz.prog 134 #[.agg c.arr,.int .i64 k] w (aU w (.int .i64 (dE c.pg c.st 1 k))):=FX R w k
theorem Ly {c:Cfg}(R:c.Ok)(w:World)(k:Int):Calls Tryz.prog 108 #[.agg c.arr,.int .i64 k] w (aU w (.int .i64 (dE c.pg c.st 2 k))):=KQ R w k
theorem sL {c:Cfg}(R:c.Ok){n:Nat}(H:PgIn c.pg c.st n)(F:Nat→Prop)(p:Nat)(kn:Int→Option Int)(D:List KV)(q:Int)(w:World)(hv:aK w F p kn D)(hk:OkK kn)(hD:cF n D):
 Calls Tryz.prog 51 #[.pointer (some ⟨p,0,none⟩),.agg c.arr,.int .i64 q] w (aC w F p kn (fun x=> .int .i64 x) (fg c.pg c.st q kn D)):=by
 obtain⟨Rr,hRr⟩:∃Rr,fg c.pg c.st q kn D=Rr:=⟨_,rfl⟩
 rw[hRr]
 obtain⟨w1,e1,hl1,m1,s1⟩:=bg w (.cells c.arr 28)
 have nFl:¬F w.heap.size:=fun q=>by have:=hv.lt _ q;omega
 have MM:=hQQ m1
 have L0:=hQQ hl1
 have M0:Hq (MidV w1 w1 F (fun _=>False) p kn n D F):=hQQ (MidV.begin (hv.more m1) hD)
 have KL:Hq (∀wr D' F',MidV w1 wr F (fun _=>False) p kn n D' F'→wr.heap[w.heap.size]?=some (.cells c.arr 28 (0,0))):=hQQ fun wr D' F' h=>cI h L0.o nFl (fun q=>q)
 have NEED:Hq (∀a w2,Rr=.need a→aQ w2 p a→Turned (fun b=>F b∨False) w1 w2→aC w F p kn (fun x:Int=>Value.int .i64 x) Rr (.panicked (aY p)) w2):=hQQ fun a w2 e hd ht=>cx MM.o (fun _ q=>q.elim) e hd ht
 have DONE:Hq (∀x w2 D' F',Rr=.ok x D'→MidV w1 w2 F (fun _=>False) p kn n D' F'→aC w F p kn (fun x:Int=>Value.int .i64 x) Rr (.returned ((fun x:Int=>Value.int .i64 x) x)) w2):=hQQ fun x w2 D' F' e h=>bZ MM.o (fun _ q=>q.elim) h e
 have HK:=hQQ hk
 have HR:=hQQ R
 have HH:=hQQ H
 clear hl1 m1 hv hD hk R H nFl
 unfold fg at hRr
 cases h:ag c.pg q with
 |false =>
  rw[h] at hRr
  have FIN:Hq (∀w2,ae w1 w2→aC w F p kn (fun x:Int=>Value.int .i64 x) Rr (.returned (.int .i64 (-1))) w2):=hQQ fun w2 m=>DONE.o (-1) w2 D F hRr.symm (M0.o.more m)
  clear hRr
  go_enter Tryz.func51,Tryz.ntmps51
  go_wp2_with (refine af rfl 28 _ rfl _ rfl 28 _ _ _ L0.o Tryz.underlying28 rfl (by kernel_rfl) ?_)
  refine(AQ HR.o _ q).mono ?_
  rw[K6 h]
  rintro e w2 ⟨rfl,h2⟩
  have H2:=hQQ h2
  clear h2
  go_wp2_with fail
  go_ret
  exact FIN.o _ H2.o
 |true =>
  rw[h] at hRr
  have hRr2:cW (kA c.pg c.st q) kn D=Rr:=hRr
  obtain⟨⟨ha,_,hw⟩,_⟩:=cu HH.o h
  have nz:(kA c.pg c.st q==0)=false:=by simp;omega
  have RA:=hQQ (fun w2 (m:ae w1 w2)=>jf F p kn D (kA c.pg c.st q) w2 (M0.o.view.more m) hw)
  have HRr:=hQQ hRr2
  clear hRr hRr2 hw ha
  go_enter Tryz.func51,Tryz.ntmps51
  go_wp2_with (refine af rfl 28 _ rfl _ rfl 28 _ _ _ L0.o Tryz.underlying28 rfl (by kernel_rfl) ?_)
  refine(AQ HR.o _ q).mono ?_
  rw[K5 h]
  rintro e w2 ⟨rfl,h2⟩
  have H2:=hQQ h2
  clear h2
  go_wp2_with fail
  refine(RA.o _ H2.o).mono ?_
  rw[HRr.o]
  intro e w3 he
  rcases jh he with⟨a,_,rfl⟩|⟨x,D',_,rfl⟩
  ·exact⟨rfl,he.after (MM.o.trans H2.o)⟩
  ·have FIN:=hQQ (he.after (MM.o.trans H2.o))
   clear he
   go_wp2_with fail
   go_ret
   exact FIN.o
theorem yE {c:Cfg}(R:c.Ok){n:Nat}(H:PgIn c.pg c.st n)(hn:n≤10000)(F:Nat→Prop)(p:Nat)(kn:Int→Option Int)(D:List KV)(q k x:Int)(hq:ag c.pg q=true)(hk':W64 k)(hx:W64 x)(w:World)(hv:aK w F p kn D)(hk:OkK kn)(hD:cF n D):
 Calls Tryz.prog 150 #[.pointer (some ⟨p,0,none⟩),.agg c.arr,.int .i64 q,.int .i64 k,.int .i64 x] w (aC w F p kn (fun _:Unit=> .tuple #[]) (ls c.pg c.st q k x kn D)):=by
 obtain⟨Rr,hRr⟩:∃Rr,ls c.pg c.st q k x kn D=Rr:=⟨_,rfl⟩
 rw[hRr]
 obtain⟨w1,e1,hl1,m1,s1⟩:=bg w (.cells c.arr 28)
 have nFl:¬F w.heap.size:=fun q=>by have:=hv.lt _ q;omega
 have MM:=hQQ m1
 have L0:=hQQ hl1
 have M0:Hq (MidV w1 w1 F (fun _=>False) p kn n D F):=hQQ (MidV.begin (hv.more m1) hD)
 have KL:Hq (∀wr D' F',MidV w1 wr F (fun _=>False) p kn n D' F'→wr.heap[w.heap.size]?=some (.cells c.arr 28 (0,0))):=hQQ fun wr D' F' h=>cI h L0.o nFl (fun q=>q)
 have NEED:Hq (∀a w2,Rr=.need a→aQ w2 p a→Turned (fun b=>F b∨False) w1 w2→aC w F p kn (fun _:Unit=>Value.tuple #[]) Rr (.panicked (aY p)) w2):=hQQ fun a w2 e hd ht=>cx MM.o (fun _ q=>q.elim) e hd ht
 have DONE:Hq (∀x w2 D' F',Rr=.ok x D'→MidV w1 w2 F (fun _=>False) p kn n D' F'→aC w F p kn (fun _:Unit=>Value.tuple #[]) Rr (.returned ((fun _:Unit=>Value.tuple #[]) x)) w2):=hQQ fun x w2 D' F' e h=>bZ MM.o (fun _ q=>q.elim) h e
 have HK:=hQQ hk
 have HR:=hQQ R
 have HH:=hQQ H
 clear hl1 m1 hv hD hk R H nFl
 unfold ls at hRr
 have HRr:=hQQ hRr
 obtain⟨⟨_,a1,a2⟩,⟨_,b1,b2⟩,_,c1,c2⟩:=cu HH.o hq
 have G0:=hQQ (aV n a2 a1 hk')
 have G1:=hQQ (aV n b2 b1 hx)
 have G2:=hQQ (aV n c2 c1 (show W64 0 by unfold W64;omega))
 have p0:=K5 (st:=c.st) hq
 have p1:=sG (st:=c.st) hq
 have p2:=CI (st:=c.st) hq
 have P0:=hQQ p0
 have P1:=hQQ p1
 have P2:=hQQ p2
 clear hRr a1 a2 b1 b2 c1 c2 p0 p1 p2 hk' hx
 go_enter Tryz.func150,Tryz.ntmps150
 go_wp2_with (refine af rfl 28 _ rfl _ rfl 28 _ _ _ L0.o Tryz.underlying28 rfl (by kernel_rfl) ?_)
 refine(AQ HR.o _ q).mono ?_
 rw[P0.o]
 rintro e w2 ⟨rfl,h2⟩
 have M2:=hQQ (M0.o.more h2)
 have L2:=hQQ (KL.o _ _ _ M2.o)
 clear h2
 go_wp2_with fail
 refine(dl F p kn D _ k w2 M2.o.view (by have:=M2.o.inv.len;omega)).mono ?_
 intro e w3 he
 rcases M2.o.step (ae.refl _) HK.o G0.o he with⟨a',hE,rfl,hd',ht',_⟩|⟨x3,D3,F3,hE,rfl,M3,hq3,_,_⟩
 ·exact⟨rfl,NEED.o a' w3 (HRr.o.symm.trans (ah hE)) hd' ht'⟩
 have L3:=hQQ (KL.o _ _ _ M3)
 have R3:=hQQ ((ak hE).symm.trans HRr.o)
 have M3:=hQQ M3
 clear he hE
 go_wp2_with (refine af rfl 28 _ rfl _ rfl 28 _ _ _ L3.o Tryz.underlying28 rfl (by kernel_rfl) ?_)
 refine(pc HR.o _ q).mono ?_
 rw[P1.o]
 rintro e w4 ⟨rfl,h4⟩
 have M4:=hQQ (M3.o.more h4)
 have L4:=hQQ (KL.o _ _ _ M4.o)
 clear h4
 go_wp2_with fail
 refine(dl F3 p kn D3 _ x w4 M4.o.view (by have:=M4.o.inv.len;omega)).mono ?_
 intro e w5 he
 rcases M4.o.step (ae.refl _) HK.o G1.o he with⟨a',hE,rfl,hd',ht',_⟩|⟨x5,D5,F5,hE,rfl,M5,hq5,_,_⟩
 ·exact⟨rfl,NEED.o a' w5 (R3.o.symm.trans (ah hE)) hd' ht'⟩
 have L5:=hQQ (KL.o _ _ _ M5)
 have R5:=hQQ ((ak hE).symm.trans R3.o)
 have M5:=hQQ M5
 clear he hE
 go_wp2_with (refine af rfl 28 _ rfl _ rfl 28 _ _ _ L5.o Tryz.underlying28 rfl (by kernel_rfl) ?_)
 refine(Ly HR.o _ q).mono ?_
 rw[P2.o]
 rintro e w6 ⟨rfl,h6⟩
 have M6:=hQQ (M5.o.more h6)
 clear h6
 go_wp2_with fail
 refine(dl F5 p kn D5 _ 0 w6 M6.o.view (by have:=M6.o.inv.len;omega)).mono ?_
 intro e w7 he
 rcases M6.o.step (ae.refl _) HK.o G2.o he with⟨a',hE,rfl,hd',ht',_⟩|⟨x7,D7,F7,hE,rfl,M7,hq7,_,_⟩
 ·exact⟨rfl,NEED.o a' w7 (R5.o.symm.trans hE) hd' ht'⟩
 have FIN:=hQQ (DONE.o () w7 D7 F7 (R5.o.symm.trans hE) M7)
 clear he hE M7
 go_wp2_with fail
 go_end0
 exact FIN.o
theorem qc (k:Int)(w:World):Calls Tryz.prog 156 #[.int .i64 k] w (aU w (.bool (n6 k))):=by
 by_cases h:1≤k
 ·rw[show n6 k=decide (k≤5) by unfold n6;simp[h]]
  have d0:decide (1≤k)=true:=by simp[h]
  go_enter Tryz.func156,Tryz.ntmps156
  go_wp2_with fail
  go_ret
  exact⟨rfl,ae.refl _⟩
 ·rw[show n6 k=false by unfold n6;simp[h]]
  have d0:decide (1≤k)=false:=by simp[h]
  go_enter Tryz.func156,Tryz.ntmps156
  go_wp2_with fail
  go_ret
  exact⟨rfl,ae.refl _⟩
theorem GH (k m:Int)(w:World):Calls Tryz.prog 159 #[.int .i64 k,.int .i64 m] w (aU w (.bool (oa k m))):=by
 by_cases h:k=6
 ·subst h
  rw[show oa 6 m=true by unfold oa;simp]
  go_enter Tryz.func159,Tryz.ntmps159
  go_wp2_with fail
  go_ret
  exact⟨rfl,ae.refl _⟩
 ·have d0:(k==6)=false:=by simp[h]
  have d1:(m==1)=decide (m=1):=by by_cases q:m=1<;>simp[q]
  cases hc:n6 k with
  |true =>
   rw[show oa k m=decide (m=1) by unfold oa;simp[h,hc]]
   go_enter Tryz.func159,Tryz.ntmps159
   go_wp2_with fail
   refine(qc k _).mono ?_
   rw[hc]
   rintro e w2 ⟨rfl,h2⟩
   have H2:=hQQ h2
   clear h2
   go_wp2_with fail
   go_ret
   exact⟨rfl,H2.o⟩
  |false =>
   rw[show oa k m=false by unfold oa;simp[h,hc]]
   go_enter Tryz.func159,Tryz.ntmps159
   go_wp2_with fail
   refine(qc k _).mono ?_
   rw[hc]
   rintro e w2 ⟨rfl,h2⟩
   have H2:=hQQ h2
   clear h2
   go_wp2_with fail
   go_ret
   exact⟨rfl,H2.o⟩
end Go.Proofs.YtddmeghbmdfgeaaGreatDoor
