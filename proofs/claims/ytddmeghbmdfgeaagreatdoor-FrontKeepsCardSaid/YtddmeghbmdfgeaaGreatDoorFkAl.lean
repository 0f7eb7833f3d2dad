/-
  A row of Booleans: which addresses were seen.
-/
import Derived.Test.YtddmeghbmdfgeaaGreatDoorFkAk
import Derived.Test.YtddmeghbmdfgeaaGreatDoorFkAe
import Derived.Test.YtddmeghbmdfgeaaGreatDoorFkAa
import Derived.ProofKit
import Derived.Deep.Fields
set_option maxRecDepth 100000
set_option maxHeartbeats 8000000
set_option linter.all false
namespace Go.Proofs.YtddmeghbmdfgeaaGreatDoor
open Go.RowKit Go.Sort Go.Maps Go.Shelf
def SnR (w:World)(g n:Nat)(seen:List Int):Prop:=∃cur:Array Value,w.heap[g]?=some (.cells cur 4 (0,0))∧cur.size=n∧∀i,i<n→cur[i]?=some (.bool (decide ((i:Int)∈seen)))
theorem SnR.keep {w w':World}{g n:Nat}{seen:List Int}{S:Nat→Prop}(h:SnR w g n seen)(t:Turned S w w')(ng:¬S g):SnR w' g n seen:=by
 obtain⟨cur,h1,h2,h3⟩:=h
 exact⟨cur,(t.block g (ac h1) ng).trans h1,h2,h3⟩
theorem SnR.at {w:World}{g n:Nat}{seen:List Int}(h:SnR w g n seen){a:Int}(h0:0≤a)(h1:a<n):w.cell? ⟨g,a.toNat,none⟩=some (.bool (decide (a∈seen)))∧w.frozen? ⟨g,a.toNat,none⟩=false:=by
 obtain⟨cur,q1,q2,q3⟩:=h
 have:=q3 a.toNat (by omega)
 rw[show((a.toNat:Nat):Int)=a by omega] at this
 exact⟨by simp only[World.cell?,q1];simpa using this,frozen_of_row w g _ _ _ q1⟩
theorem SnR.put {w:World}{g n:Nat}{seen:List Int}(h:SnR w g n seen){a:Int}(h0:0≤a)(h1:a<n):SnR (w.setCell ⟨g,a.toNat,none⟩ (.bool true)) g n (a::seen):=by
 obtain⟨cur,q1,q2,q3⟩:=h
 refine⟨cur.setIfInBounds a.toNat (.bool true),heap_setCell_same w g a.toNat _ _ _ q1,by simpa using q2,fun i hi=>?_⟩
 rw[Array.getElem?_setIfInBounds]
 by_cases e:a.toNat=i
 ·rw[if_pos e,if_pos (by omega)]
  have:((i:Nat):Int)=a:=by omega
  simp[this]
 ·rw[if_neg e,q3 i hi]
  have:¬((i:Nat):Int)=a:=by omega
  simp[this]
theorem GF:∃i:TypeInfo,Tryz.prog.info? 4=some i∧i.zero=some (.bool false)∧i.size=1∧i.bytes=1:=by
 have h1:(Tryz.prog.info? 4).map (·.size)=some 1:=by kernel_rfl
 have h2:(Tryz.prog.info? 4).bind (·.zero)=some (.bool false):=by kernel_rfl
 have h3:(Tryz.prog.info? 4).map (·.bytes)=some 1:=by kernel_rfl
 cases q:Tryz.prog.info? 4 with
 |none=>rw[q] at h1;simp at h1
 |some i=>rw[q] at h1 h2 h3;exact⟨i,rfl,by simpa using h2,by simpa using h1,by simpa using h3⟩
theorem uS (k:Nat)(hk:k≤1000000)(w:World):∃w',(Instr.makeSlice 44 (.int .i64 (k:Int)) (.int .i64 (k:Int))).run Tryz.prog w=.ok (.slice (some ⟨w.heap.size,0,none⟩) k k) w'∧SnR w' w.heap.size k []∧ae w w'∧w'.heap.size=w.heap.size+1:=by
 obtain⟨i,hi,hz,hs,hb⟩:=GF
 have:=run_make (P:=Tryz.prog) w 44 4 i (.bool false) Tryz.underlying44 hi hz .i64 .i64 k k (by omega) (by omega) (by rw[hb];omega) (by omega)
 rw[this]
 simp only[Int.toNat_natCast,hs,Nat.mul_one]
 refine⟨_,rfl,⟨madeCells (Value.bool false).cells k,a7 w _,by simp[size_madeCells,Value.cells],fun j hj=>?_⟩,(ae.refl w).alloc _,by simp⟩
 have:j<(madeCells (Value.bool false).cells k).size:=by simp[size_madeCells,Value.cells];exact hj
 rw[Array.getElem?_eq_getElem this]
 simp[madeCells,Value.cells,Nat.mod_one]
def kk2 (d:Cfg)(r:Bool)(m:Nat)(y:Bool):Prg Bool:=if y then ak (yv d.us d.pg d.st (32 * d.pg).toNat d.us 0) fun t=>ay (r && t==(m:Int)) else ay false
def kk1 (d:Cfg)(n:Nat)(s:FSt)(r:Bool):Prg Bool:=ak (mP (famL (famC d) (famC d).m) []) fun ks=>ak (ksP d.us d.pg d.st n (s.O.map (·.1)++(c7 s.P0 5++(c7 s.P1 5++ks))) []) (kk2 d r (s.O.map (·.1)++(c7 s.P0 5++(c7 s.P1 5++ks))).length)
theorem LY {l:List Bl}{j:Nat}{b:Bl}(h:l[j]?=some b):(l.take (j+1)).map (·.1)=(l.take j).map (·.1)++ [b.1]:=by
 rw[List.take_add_one,h]
 simp
structure Kk6 (c:Cfg)(o:Value)(g1 g i:Nat)(x:Int)(W:World):Prop where
 st:W.rangeAt g1 0 c.arr.toList
 o:W.cell? ⟨g1,35,none⟩=some o
 x:W.cell? ⟨g,i,none⟩=some (.int .i64 x)
structure KkZ (c:Cfg)(v:Value)(fs:Nat→Nat→Value)(o ok:Value)(s:FSt)(g1 g2 bt n gs:Nat)(seen:List Int)(b:Bool)(F:Nat→Prop)(w:World):Prop where
 y:EmY c v fs o ok s g1 g2 bt w
 bl:BlR 0 w o s.O
 bx:j7 g2 w b
 sn:SnR w gs n seen
 nf:¬F gs
 lt:g2<gs
theorem MidV.setQ {W wr:World}{F S F':Nat→Prop}{p n:Nat}{kn:Int→Option Int}{D:List KV}(h:MidV W wr F S p kn n D F'){b i:Nat}(hb:W.heap.size≤b)(nF:¬F' b){cs:Array Value}{t:TypeId}{fr:Nat×Nat}(hc:wr.heap[b]?=some (.cells cs t fr))(v:Value):MidV W (wr.setCell ⟨b,i,none⟩ v) F S p kn n D F':=by
 have t:Turned (fun k=>k=b) wr (wr.setCell ⟨b,i,none⟩ v):=Turned.setCell (Turned.refl _ _) _ _ (fun _=>rfl)
 exact⟨h.view.keepS t (fun k q e=>nF (e▸q)) (fun k es cl e q=>by subst e;rw[hc] at q;cases q),h.from',am h.turn t (fun k q=> .inr (by subst q;exact hb)),h.inv⟩
theorem dm.offT {b:Nat}{F S:Nat→Prop}{w w':World}{v:Value}{xs:List Int}(h:dm b F w v xs)(t:Turned S w w')(n:∀q,v.ownBlock=some q→¬S q):dm b F w' v xs:=by
 refine⟨⟨h.1.1,?_⟩,fun k q=>⟨(h.2 k q).1,(h.2 k q).2.1,Nat.lt_of_lt_of_le (h.2 k q).2.2 t.size⟩⟩
 rcases h.1.2 with q|⟨g,cap,cur,rfl,h2,h3,h4⟩
 ·exact .inl q
 ·exact .inr ⟨g,cap,cur,rfl,h2,(t.block g (ac h3) (n g rfl)).trans h3,h4⟩
theorem dm.setG {b g i:Nat}{F:Nat→Prop}{w:World}{v:Value}{xs:List Int}(h:dm b F w v xs)(hg:g<b)(u:Value):dm b F (w.setCell ⟨g,i,none⟩ u) v xs :=
 h.offT (S:=fun k=>k=g) (Turned.setCell (Turned.refl _ _) _ _ (fun _=>rfl)) fun q e z=>by have:=(h.2 q e).2.1;omega
theorem dm.setH {g i:Nat}{F:Nat→Prop}{w:World}{v:Value}{xs:List Int}(h:dm (g+1) F w v xs)(u:Value):dm (g+1) F (w.setCell ⟨g,i,none⟩ u) v xs:=h.setG (Nat.lt_succ_self g) u
theorem dm.cell {b:Nat}{F:Nat→Prop}{w:World}{g cap:Nat}{xs:List Int}(h:dm b F w (.slice (some ⟨g,0,none⟩) xs.length cap) xs){j:Nat}{x:Int}(hx:xs[j]?=some x):w.cell? ⟨g,j,none⟩=some (.int .i64 x):=by
 have hl:=(List.getElem?_eq_some_iff.1 hx).1
 rcases h.1.2 with⟨q,_⟩|⟨g',cap',cur,q,h2,h3,h4,_,h6,h7⟩
 ·cases q
 ·cases q
  have e:(cur.toList.take (xs.length * 1))[j]?=some (.int .i64 x):=by rw[h7];simp[hx]
  rw[List.getElem?_take,if_pos (by omega)] at e
  simp[World.cell?,h3]
  simpa using e
theorem dm.ptr {b:Nat}{F:Nat→Prop}{w:World}{a:Option Addr}{cap:Nat}{xs:List Int}(h:dm b F w (.slice a xs.length cap) xs){j:Nat}(hx:j<xs.length):∃g,a=some ⟨g,0,none⟩:=by
 rcases h.1.2 with⟨q,q2⟩|⟨g',cap',cur,q,_⟩
 ·omega
 ·cases q
  exact⟨_,rfl⟩
section
variable {c:Cfg}{v:Value}{fs:Nat→Nat→Value}{o ok:Value}{s:FSt}{g1 g2 bt n gs:Nat}{seen:List Int}{b:Bool}{F F1 S:Nat→Prop}{w w':World}
theorem KkZ.turn (h:KkZ c v fs o ok s g1 g2 bt n gs seen b F w)(bq:∀q,o.ownBlock=some q→q<g2)(t:Turned S w w')(m:∀k,S k→gs<k):KkZ c v fs o ok s g1 g2 bt n gs seen b F w' :=
 have hb:j7 g2 w' b:=(t.block g2 (ac h.bx) (fun q=>by have:=m _ q;have:=h.lt;omega)).trans h.bx
 ⟨h.y.keep t (fun k q=>by have:=m _ q;have:=h.lt;omega) ⟨_,hb⟩,h.bl.off t (fun q e z=>by have:=bq q e;have:=m _ z;have:=h.lt;omega),hb,h.sn.keep t (fun q=>by have:=m _ q;omega),h.nf,h.lt⟩
theorem KkZ.more (h:KkZ c v fs o ok s g1 g2 bt n gs seen b F w)(bq:∀q,o.ownBlock=some q→q<g2)(m:ae w w'):KkZ c v fs o ok s g1 g2 bt n gs seen b F w':=h.turn bq m (fun _ q=>q.elim)
theorem KkZ.stay (h:KkZ c v fs o ok s g1 g2 bt n gs seen b F w)(bq:∀q,o.ownBlock=some q→q<g2)(ng:∀q,F q→g2<q)(k:∀g o,¬F g→w.heap[g]?=some o→w'.heap[g]?=some o)(m:∀g,F1 g→F g∨w.heap.size≤g)(y:EmY c v fs o ok s g1 g2 bt w'∧BlR 0 w' o s.O):KkZ c v fs o ok s g1 g2 bt n gs seen b F1 w':=by
 obtain⟨cur,q1,q2,q3⟩:=h.sn
 exact⟨y.1,y.2,k _ _ (fun q=>by have:=ng _ q;omega) h.bx,⟨cur,k _ _ h.nf q1,q2,q3⟩,fun q=>by rcases m _ q with r|r;exact h.nf r;have:=ac q1;omega,h.lt⟩
theorem KkZ.setB (h:KkZ c v fs o ok s g1 g2 bt n gs seen b F w)(bq:∀q,o.ownBlock=some q→q<g2)(x:Bool):KkZ c v fs o ok s g1 g2 bt n gs seen x F (w.setCell ⟨g2,0,none⟩ (.bool x)):=by
 have t:Turned (fun k=>k=g2) w (w.setCell ⟨g2,0,none⟩ (.bool x)):=Turned.setCell (Turned.refl _ w) _ _ (fun _=>rfl)
 have hb:=pk h.bx x
 exact⟨h.y.keep t (fun k q=>by omega) ⟨_,hb⟩,h.bl.off t (fun q e z=>by have:=bq q e;omega),hb,h.sn.keep t (fun q=>by have:=h.lt;omega),h.nf,h.lt⟩
theorem KkZ.putS (h:KkZ c v fs o ok s g1 g2 bt n gs seen b F w)(bq:∀q,o.ownBlock=some q→q<g2){a:Int}(h0:0≤a)(h1:a<n):KkZ c v fs o ok s g1 g2 bt n gs (a::seen) b F (w.setCell ⟨gs,a.toNat,none⟩ (.bool true)):=by
 have t:Turned (fun k=>k=gs) w (w.setCell ⟨gs,a.toNat,none⟩ (.bool true)):=Turned.setCell (Turned.refl _ w) _ _ (fun _=>rfl)
 have hb:j7 g2 (w.setCell ⟨gs,a.toNat,none⟩ (.bool true)) b:=(t.block g2 (ac h.bx) (by have:=h.lt;omega)).trans h.bx
 exact⟨h.y.keep t (fun k q=>by have:=h.lt;omega) ⟨_,hb⟩,h.bl.off t (fun q e z=>by have:=bq q e;have:=h.lt;omega),hb,h.sn.put h0 h1,h.nf,h.lt⟩
theorem KkZ.blk {g:Nat}{co:Nat}{j:Nat}{x:Bl}(h:KkZ c v fs (.slice (some ⟨g,0,none⟩) s.O.length co) ok s g1 g2 bt n gs seen b F w)(hx:s.O[j]?=some x):w.cell? ⟨g,j * 2,none⟩=some (.int .i64 x.1)∧w.cell? ⟨g,j * 2+1,none⟩=some (.int .i64 x.2):=by
 obtain⟨a,cap,q0,_,_,hat⟩:=h.bl.at
 obtain⟨g',q1,q2⟩:=hat j x hx
 cases q0
 cases q1
 exact q2
end
theorem Oi {c:Cfg}(R:c.Ok){n bt:Nat}(H:cB c.pg c.st n)(hw:(n:Int)=c.words)(hn:n≤1000)(F:Nat→Prop)(p g1 g2 gz cz:Nat)(kn:Int→Option Int)(W0:World)(s:FSt)(oks:OkS c s)(v:Value)(fs:Nat→Nat→Value)(o2 ok:Value)(hvz:v=.slice (some ⟨gz,0,none⟩) n cz)(hLen:s.O.length+(c7 s.P0 5).length+(c7 s.P1 5).length≤100000)(hv:aD W0 F p kn [])(hk:OkK kn)(hY:EmY c v fs o2 ok s g1 g2 bt W0)(hbl:BlR 0 W0 o2 s.O)(hbq:∀q,o2.ownBlock=some q→q<g2)(hF:∀q,F q→g2<q)
 (ht:∀z D,keP c n s kn []=.ok z D→z=true):
 Calls Tryz.prog 10 #[.pointer (some ⟨p,0,none⟩),.pointer (some ⟨g2,0,none⟩),.pointer (some ⟨g1,0,none⟩)] W0 (gj W0 F (fun b=>b=g2) (fun w'=>EmY c v fs o2 ok s g1 g2 bt w'∧BlR 0 w' o2 s.O) (fun w'=>j7 g2 w' true) p kn (eP (keP c n s kn []))):=by
 obtain⟨Rr,hR⟩:∃Rr,keP c n s kn []=Rr:=⟨_,rfl⟩
 rw[hR] at ht⊢
 obtain⟨ao,co,rfl,_,_,_⟩:=hbl.at
 obtain⟨b0,hb0⟩:=hY.bx
 have l2:=ac hb0
 have HT:=hQQ ht
 have HK:=hQQ hk
 have HR:=hQQ R
 have HH:=hQQ H
 have HW:=hQQ hw
 have HN:Hq (n≤10000):=hQQ (by omega)
 have HN1:=hQQ hn
 have OKS:=hQQ oks
 have BQ:=hQQ hbq
 have HLEN:=hQQ hLen
 have L2:Hq (g2<W0.heap.size+1):=hQQ (by omega)
 have KT:Hq (∀wr,Turned (fun b=>F b∨b=g2) W0 wr→(∃b,j7 g2 wr b)→EmY c v fs (.slice ao s.O.length co) ok s g1 g2 bt wr∧BlR 0 wr (.slice ao s.O.length co) s.O):=hQQ fun wr t b=>⟨hY.keep t (by rintro k (z|z);have:=hF k z;omega;omega) b,hbl.off t (fun q e z=>by have:=hbq q e;rcases z with z|z;have:=hF q z;omega;omega)⟩
 have FG:Hq (∀wr D' F',MidV W0 wr F (fun b=>b=g2) p kn n D' F'→∀q,F' q→g2<q):=hQQ fun wr D' F' h q hq=>by rcases h.from' q hq with r|r;exact hF q r;omega
 have N2:Hq (∀wr D' F',MidV W0 wr F (fun b=>b=g2) p kn n D' F'→¬F' g2):=hQQ fun wr D' F' h q=>by have:=FG.o _ _ _ h _ q;omega
 have NZ:Hq (∀wr D' F',MidV W0 wr F (fun b=>b=g2) p kn n D' F'→¬F' 0∧¬F' bt):=hQQ fun wr D' F' h=>⟨fun q=>by have:=FG.o _ _ _ h _ q;omega,fun q=>by have:=FG.o _ _ _ h _ q;have:=hY.lt;omega⟩
 have NEED:Hq (∀x w2 b,Rr=.need x→bB w2 p x→Turned (fun b=>F b∨b=g2) W0 w2→j7 g2 w2 b→gj W0 F (fun b=>b=g2) (fun w'=>EmY c v fs (.slice ao s.O.length co) ok s g1 g2 bt w'∧BlR 0 w' (.slice ao s.O.length co) s.O) (fun w'=>j7 g2 w' true) p kn (eP Rr) (.panicked (bg p)) w2):=hQQ fun x w2 b e hd' ht' q =>
  xo (oo e) hd' ht' (KT.o _ ht' ⟨_,q⟩)
 have DONE:Hq (∀w2 D F' b,Rr=.ok true D→MidV W0 w2 F (fun b=>b=g2) p kn n D F'→j7 g2 w2 b→gj W0 F (fun b=>b=g2) (fun w'=>EmY c v fs (.slice ao s.O.length co) ok s g1 g2 bt w'∧BlR 0 w' (.slice ao s.O.length co) s.O) (fun w'=>j7 g2 w' true) p kn (eP Rr) (.returned (.tuple #[])) (w2.setCell ⟨g2,0,none⟩ (.bool true))):=hQQ fun w2 D F' b e h hb=>by
  have hm:=h.setI (fun _=>rfl) (N2.o _ _ _ h) hb (.bool true)
  exact xp hm (sR e) (KT.o _ hm.turn ⟨_,pk hb true⟩) (pk hb true)
 have M0:MidV W0 W0 F (fun b=>b=g2) p kn n [] F:=MidV.begin hv (ea n)
 have GK:=hQQ (qT (n:=n) (by omega) (famL (famC c) (famC c).m) [] (oP R H hw (by omega)))
 have FL:Hq ((famL (famC c) (famC c).m).length≤45):=hQQ (by
  rw[jB]
  have e:(famC c).m=5 * c.cp.toNat+5:=rfl
  have:=R.cp2
  omega)
 have US:Hq (0≤c.us∧c.us+32 * c.pg≤1000000):=hQQ (uA R H hw (by omega))
 have WD:Hq (c.words=c.us+32 * c.pg):=hQQ rfl
 have R0:=hQQ (show ak (klP c.us c.pg c.st s.O true) (kk1 c n s) kn []=Rr from hR)
 obtain⟨yb,fb,_⟩:=aB hb0
 obtain⟨w1,e1⟩:∃w1,W0.setCell ⟨g2,0,none⟩ (.bool true)=w1:=⟨_,rfl⟩
 have M1:MidV W0 w1 F (fun b=>b=g2) p kn n [] F:=by rw[←e1];exact M0.setI (fun _=>rfl) (N2.o _ _ _ M0) hb0 _
 have hb1:j7 g2 w1 true:=by rw[←e1];exact pk hb0 true
 obtain⟨Y1,BL1⟩:=KT.o _ M1.turn ⟨_,hb1⟩
 have hs1:w1.heap.size=W0.heap.size:=by rw[←e1];simp
 have y24:=Y1.st.at24 (jC c)
 rw[hvz] at y24
 obtain⟨w2,e2,hsn,m2,hs2⟩:=uS n (by omega) w1
 rw[hs1] at e2 hsn
 have M2:Hq (MidV W0 w2 F (fun b=>b=g2) p kn n [] F):=hQQ (M1.more m2)
 have Z2:Hq (KkZ c v fs (.slice ao s.O.length co) ok s g1 g2 bt n W0.heap.size [] true F w2):=hQQ ⟨Y1.more m2,BL1.more m2,m2.block hb1,hsn,fun q=>by have:=hv.lt _ q;omega,by omega⟩
 clear hv hk R H hw hR ht hb0 hY oks hbl hbq hF hLen M0 M1 hb1 Y1 BL1 hs1 hsn m2 hs2 hn
 go_enter Tryz.func10,Tryz.ntmps10
 go_wp2_with fail
 clear e1 e2 yb fb y24
 go_loopw [5,6] (fun u5 iv wr=>∃(j:Nat) (r:Bool) (D':List KV) (F':Nat→Prop),iv=.int .i64 (j:Int)∧j≤s.O.length∧(MidV W0 wr F (fun b=>b=g2) p kn n D' F'∧KkZ c v fs (.slice ao s.O.length co) ok s g1 g2 bt n W0.heap.size [] r F' wr∧dm (W0.heap.size+1) F' wr u5 ((s.O.take j).map (·.1)))∧ak (klP c.us c.pg c.st (s.O.drop j) r) (kk1 c n s) kn D'=Rr) (fun _ iv _=>s.O.length-(intOf iv).toNat)
 case atStart=>exact⟨0,true,[],F,rfl,Nat.zero_le _,⟨M2.o,Z2.o,dm.nil _ _ _⟩,R0.o⟩
 case round =>
  obtain⟨j,r,D1,F1,rfl,hj,hm1,R1'⟩:=hrel
  have M1:=hQQ hm1
  have y35:=hm1.2.1.y.st.row
  by_cases hlt:j<s.O.length
  ·have d1:decide ((j:Int)<(s.O.length:Int))=true:=by simp;omega
   have d2:decide (j<s.O.length)=true:=by simp[hlt]
   have q7:IntKind.i64.wrap ((j:Int)+1)=(j:Int)+1:=by have:=HLEN.o;exact az (by omega) (by omega)
   obtain⟨b,hbj⟩:∃b,s.O[j]?=some b:=⟨_,List.getElem?_eq_getElem hlt⟩
   obtain⟨_,_,q0,_,_,hat⟩:=hm1.2.1.bl.at
   cases q0
   obtain⟨gb,rfl,_,_⟩:=hat j b hbj
   have HLT:=hQQ hlt
   rw[nJ hbj] at R1'
   have R1:=hQQ (show ak (mg c.us c.pg c.st b.1) (fun x=>ak (klP c.us c.pg c.st (s.O.drop (j+1)) (r && x.2 && x.1==b.2)) (kk1 c n s)) kn D1=Rr from by rw[←cI];exact R1')
   have KC:Hq (∀W D' F',(MidV W0 W F (fun b=>b=g2) p kn n D' F'∧KkZ c v fs (.slice (some ⟨gb,0,none⟩) s.O.length co) ok s g1 g2 bt n W0.heap.size [] r F' W∧dm (W0.heap.size+1) F' W u5 ((s.O.take j).map (·.1)))→Kk6 c (.slice (some ⟨gb,0,none⟩) s.O.length co) g1 gb (j * 2) b.1 W):=hQQ fun W D' F' h=>⟨h.2.1.y.st.lay,h.2.1.y.st.row,(h.2.1.blk hbj).1⟩
   clear hat R1' hm1
   go_wp2_with fail
   clear y35
   refine aM (fun W=>Kk6 c (.slice (some ⟨gb,0,none⟩) s.O.length co) g1 gb (j * 2) b.1 W) (by kernel_rfl) ?_
   have MR:Hq (MidV W0 (wr.drewN 1) F (fun b=>b=g2) p kn n D1 F1∧KkZ c v fs (.slice (some ⟨gb,0,none⟩) s.O.length co) ok s g1 g2 bt n W0.heap.size [] r F1 (wr.drewN 1)∧dm (W0.heap.size+1) F1 (wr.drewN 1) u5 ((s.O.take j).map (·.1))):=hQQ ⟨M1.o.1.more ((ae.refl wr).drewN 1),M1.o.2.1.more BQ.o ((ae.refl wr).drewN 1),M1.o.2.2.more ((ae.refl wr).drewN 1)⟩
   change dc _ _ _ _ _ _ _ _ (wr.drewN 1)
   generalize wr.drewN 1=wq at MR⊢
   generalize hA:Act.mk _ _=A
   have HF:AG 159 A [(0,.pointer (some ⟨p,0,none⟩)),(2,.pointer (some ⟨g1,0,none⟩)),(6,.int .i64 (j:Int))]:=by
    rw[←hA];try simp only[pts,List.foldl]
    refine⟨⟨Nat.le_of_ble_eq_true rfl,rfl⟩,?_⟩
    intro z hz;simp only[List.mem_cons,List.not_mem_nil,or_false] at hz;rcases hz with rfl|rfl|rfl<;>rfl
   refine bH (fun aa W=>∃(u28 u29 u30 u31 u32 u33 u34 u35 u36 u37 u27:Value) (xk:Int) (xb:Bool) (D9:List KV) (F9:Nat→Prop),aa=(pts A [(28,u28),(29,u29),(30,u30),(31,u31),(32,u32),(33,u33),(34,u34),(35,u35),(36,u36),(37,u37),(27,u27),(38,.int .i64 xk),(39,.bool xb),(7,.int .i64 xk),(8,.bool xb)])∧(MidV W0 W F (fun b=>b=g2) p kn n D9 F9∧KkZ c v fs (.slice (some ⟨gb,0,none⟩) s.O.length co) ok s g1 g2 bt n W0.heap.size [] r F9 W∧dm (W0.heap.size+1) F9 W u5 ((s.O.take j).map (·.1)))∧ak (klP c.us c.pg c.st (s.O.drop (j+1)) (r && xb && xk==b.2)) (kk1 c n s) kn D9=Rr) (fun W=>gj W0 F (fun b=>b=g2) (fun w'=>EmY c v fs (.slice (some ⟨gb,0,none⟩) s.O.length co) ok s g1 g2 bt w'∧BlR 0 w' (.slice (some ⟨gb,0,none⟩) s.O.length co) s.O) (fun w'=>j7 g2 w' true) p kn (eP Rr) (.panicked (bg p)) W) (bg p) (fun a W hd h=>⟨hd,h⟩) (fun _ _ _ _ _ h=>h) ?_ ?_
   ·skip
    rintro a9 w9 ⟨u28,u29,u30,u31,u32,u33,u34,u35,u36,u37,u27,xk,xb,D9,F9,rfl,hm9,R9'⟩
    rw[←hA];try simp only[pts,List.foldl]
    obtain⟨V,hV⟩:∃V,(r && xb && xk==b.2)=V:=⟨_,rfl⟩
    rw[hV] at R9'
    have RA:=hQQ R9'
    obtain⟨yb,fb,_⟩:=aB hm9.2.1.bx
    have y35:=hm9.2.1.y.st.row
    have c2:=(hm9.2.1.blk hbj).2
    obtain⟨wA,eA⟩:∃wA,w9.setCell ⟨g2,0,none⟩ (.bool V)=wA:=⟨_,rfl⟩
    have MA:Hq (MidV W0 wA F (fun b=>b=g2) p kn n D9 F9∧KkZ c v fs (.slice (some ⟨gb,0,none⟩) s.O.length co) ok s g1 g2 bt n W0.heap.size [] V F9 wA∧dm (W0.heap.size+1) F9 wA u5 ((s.O.take j).map (·.1))):=hQQ (by rw[←eA];exact⟨hm9.1.setI (fun _=>rfl) (N2.o _ _ _ hm9.1) hm9.2.1.bx _,hm9.2.1.setB BQ.o _,hm9.2.2.setG (L2.o) _⟩)
    have yA:=MA.o.2.1.y.st.row
    have cA:=(MA.o.2.1.blk hbj).1
    have HX:Hq (W0.heap.size+1≤wA.heap.size):=hQQ (ac MA.o.2.1.sn.choose_spec.1)
    have HL5:Hq (((s.O.take j).map (·.1)).length≤1000000):=hQQ (by rw[List.length_map,List.length_take];have:=HLEN.o;omega)
    have hc:(r=false∧V=false)∨(r=true∧xb=false∧V=false)∨(r=true∧xb=true∧(xk==b.2)=V):=by
     cases r<;>cases xb<;>simp_all
    clear HF hA MR M1 R1 hm9 R9' KC hV
    go_simp
    rcases hc with⟨rfl,rfl⟩|⟨rfl,rfl,rfl⟩|⟨rfl,rfl,hq⟩
    all_goals
     go_wp2_with (at_builtin;refine pX b.1 rfl _ _ rfl rfl MA.o.2.2.1 HX.o HL5.o rfl ?_;intro v6 w6 h6 t6 k6;obtain⟨q1,q2⟩:=(MA.o.1.more ((ae.refl wA).alloc (.cells #[.int .i64 b.1] 3))).grew (MA.o.2.2.more ((ae.refl wA).alloc _)) (Nat.le_succ _) t6 h6 k6;have Z6:=hQQ ((MA.o.2.1.more BQ.o ((ae.refl wA).alloc (.cells #[.int .i64 b.1] 3))).turn BQ.o t6 (fun k q=>by have:=(MA.o.2.2.2 k q).2.1;have:=MA.o.2.1.lt;omega));have M6:=hQQ q1;have O6:=hQQ q2;clear h6 t6 k6 q1 q2)
     go_roundw
     case rel=>exact⟨j+1,_,D9,F9,by go_num,by omega,⟨M6.o,Z6.o,by rw[LY hbj];exact O6.o⟩,RA.o⟩
     case measure=>simp[intOf];omega
   intro QQ FINE FIND FINQ
   clear hA
   refine tqM 0 28 0 rfl (.inl rfl) rfl (by kernel_rfl) FINQ (KC.o _ _ _ MR.o) HF fun A β1 HF=>?_
   refine tqC 1 29 (.pointer (some ⟨g1,0,none⟩)) (by kernel_rfl) FINQ (KC.o _ _ _ MR.o) HF (by exact(Or.inl ⟨(ab rfl),fun W hW=>by have h5:=(HF.getD 2 rfl);go_simp⟩)) fun A β2 HF=>?_
   refine tqC 2 30 (.agg c.arr.toList.toArray) (by kernel_rfl) FINQ (KC.o _ _ _ MR.o) HF (by exact mN (ab rfl) 28 _ rfl g1 0 (HF.get 0 rfl) c.arr.toList _ (fun W hW=>hW.st) Tryz.underlying28 rfl (by kernel_rfl)) fun A β3 HF=>?_
   refine tqC 3 31 (.pointer (some ⟨g1,35,none⟩)) (by kernel_rfl) FINQ (KC.o _ _ _ MR.o) HF (by exact(Or.inl ⟨(ab rfl),fun W hW=>by have h5:=(HF.getD 4 rfl);go_simp⟩)) fun A β4 HF=>?_
   refine tqC 4 32 (.slice (some ⟨gb,0,none⟩) s.O.length co) (by kernel_rfl) FINQ (KC.o _ _ _ MR.o) HF (by exact dA (ab rfl) 35 _ rfl g1 35 (HF.get 0 rfl) _ _ Tryz.underlying35 rfl (fun W hW=>hW.o)) fun A β5 HF=>?_
   refine tqM 5 33 7 rfl (.inl rfl) rfl (by kernel_rfl) FINQ (KC.o _ _ _ MR.o) HF fun A β6 HF=>?_
   refine tqC 6 34 (.pointer (some ⟨gb,j * 2,none⟩)) (by kernel_rfl) FINQ (KC.o _ _ _ MR.o) HF (by exact oa (ab rfl) rfl (HF.get 1 rfl) (HF.get 0 rfl) HLT.o) fun A β7 HF=>?_
   refine tqC 7 35 (.pointer (some ⟨gb,j * 2,none⟩)) (by kernel_rfl) FINQ (KC.o _ _ _ MR.o) HF (by exact(Or.inl ⟨(ab rfl),fun W hW=>by have h5:=(HF.getD 0 rfl);go_simp⟩)) fun A β8 HF=>?_
   refine tqC 8 36 (.int .i64 b.1) (by kernel_rfl) FINQ (KC.o _ _ _ MR.o) HF (by exact dA (ab rfl) 3 _ rfl gb (j * 2) (HF.get 0 rfl) _ _ Tryz.underlying3 rfl (fun W hW=>hW.x)) fun A β9 HF=>?_
   refine tqO 9 37 (by kernel_rfl) HF fun K hK=>?_
   refine du (v0:=.pointer (some ⟨p,0,none⟩)) (v1:=.agg c.arr.toList.toArray) (v2:=.int .i64 b.1) rfl (HF.get 8 rfl) (HF.get 6 rfl) (HF.get 0 rfl) (enters_of Tryz.func11 (by kernel_rfl) rfl) ?_
   refine(xR HR.o HH.o HN.o F1 p kn D1 b.1 wq MR.o.1.view HK.o MR.o.1.inv bt MR.o.2.1.y.sz (NZ.o _ _ _ MR.o.1).1 (NZ.o _ _ _ MR.o.1).2).mono ?_
   intro e w3 he
   rcases MR.o.1.step (ae.refl _) HK.o (iY HH.o _ _) he with⟨a',hE,rfl,hd',ht',hk'⟩|⟨⟨xk,xb⟩,D9,F9,hE,rfl,M9',hq9,hk9,hf9⟩
   ·exact FIND _ _ HF.1.2 (NEED.o a' w3 _ (R1.o.symm.trans (ag hE)) hd' ht' (hk' _ _ (N2.o _ _ _ MR.o.1) MR.o.2.1.bx))
   have R9:=hQQ ((aj hE).symm.trans R1.o)
   have M3:Hq (MidV W0 w3 F (fun b=>b=g2) p kn n D9 F9∧KkZ c v fs (.slice (some ⟨gb,0,none⟩) s.O.length co) ok s g1 g2 bt n W0.heap.size [] r F9 w3∧dm (W0.heap.size+1) F9 w3 u5 ((s.O.take j).map (·.1))):=hQQ ⟨M9',MR.o.2.1.stay BQ.o (FG.o _ _ _ MR.o.1) hk9 hf9 (KT.o _ M9'.turn ⟨_,hk9 _ _ (N2.o _ _ _ MR.o.1) MR.o.2.1.bx⟩),MR.o.2.2.went hk9 hf9⟩
   clear he hE hk9 hf9 hq9 M9'
   refine hK _ _ (KC.o _ _ _ M3.o) fun A β10 HF=>?_
   clear hK K
   refine tqM 10 27 0 rfl (.inl rfl) rfl (by kernel_rfl) FINQ (KC.o _ _ _ M3.o) HF fun A β11 HF=>?_
   refine tqC 11 38 (.int .i64 xk) (by kernel_rfl) FINQ (KC.o _ _ _ M3.o) HF (by exact(Or.inl ⟨(ab rfl),fun W hW=>by have h5:=(HF.getD 0 rfl);go_simp⟩)) fun A β12 HF=>?_
   refine tqC 12 39 (.bool xb) (by kernel_rfl) FINQ (KC.o _ _ _ M3.o) HF (by exact(Or.inl ⟨(ab rfl),fun W hW=>by have h5:=(HF.getD 1 rfl);go_simp⟩)) fun A β13 HF=>?_
   refine tqM 13 7 1 rfl (.inr rfl) rfl (by kernel_rfl) FINQ (KC.o _ _ _ M3.o) HF fun A β14 HF=>?_
   refine tqM 14 8 1 rfl (.inr rfl) rfl (by kernel_rfl) FINQ (KC.o _ _ _ M3.o) HF fun A β15 HF=>?_
   exact bI (by kernel_rfl) (FINE _ _ ⟨(.pointer (some ⟨p,0,none⟩)),(.pointer (some ⟨g1,0,none⟩)),(.agg c.arr.toList.toArray),(.pointer (some ⟨g1,35,none⟩)),(.slice (some ⟨gb,0,none⟩) s.O.length co),(.int .i64 (j:Int)),(.pointer (some ⟨gb,j * 2,none⟩)),(.pointer (some ⟨gb,j * 2,none⟩)),(.int .i64 b.1),(.tuple #[.int .i64 xk,.bool xb]),(.tuple #[.int .i64 xk,.bool xb]),xk,xb,D9,F9,by rw[← β15,← β14,← β13,← β12,← β11,← β10,← β9,← β8,← β7,← β6,← β5,← β4,← β3,← β2,← β1]<;>rfl,M3.o,R9.o⟩)
  ·obtain rfl:j=s.O.length:=by omega
   have d1:decide ((s.O.length:Int)<(s.O.length:Int))=false:=by simp
   rw[List.drop_eq_nil_of_le (Nat.le_refl _)] at R1'
   rw[List.take_length] at hm1 M1
   have R1:=hQQ (show ak (mP (famL (famC c) (famC c).m) []) (fun ks=>ak (ksP c.us c.pg c.st n (s.O.map (·.1)++(c7 s.P0 5++(c7 s.P1 5++ks))) []) (kk2 c r (s.O.map (·.1)++(c7 s.P0 5++(c7 s.P1 5++ks))).length)) kn D1=Rr from R1')
   have Z1:=hQQ hm1.2.1
   have O1:=hQQ hm1.2.2
   have MM1:=hQQ hm1.1
   have RP1:=hQQ hm1.2.1.y.st.pur.1
   clear R1' hm1 M1 M2 Z2 R0
   go_wp2_with (refine wpList_load_mid rfl 32 _ rfl g1 25 rfl (puA (fs 0)).toList _ RP1.o Tryz.underlying32 rfl (by kernel_rfl) ?_)
   refine(Mp (fs 0) s.P0 wr Z1.o.y.p0 (fun k hk=>by have:=(OKS.o.l0 k hk).1;have:=HR.o.pr2;omega)).mono ?_
   rintro e w4 ⟨v4,rfl,r4,h4⟩
   have M4:=hQQ (MM1.o.more h4)
   have Z4:=hQQ (Z1.o.more BQ.o h4)
   have O4:=hQQ (O1.o.more h4)
   have U4:=hQQ (Rd.of_rw r4)
   have X4:Hq (W0.heap.size+1≤w4.heap.size∧(s.O.map (·.1)).length+(c7 s.P0 5).length≤1000000):=hQQ ⟨ac Z4.o.sn.choose_spec.1,by rw[List.length_map];have:=HLEN.o;omega⟩
   clear r4 h4 y35 Z1 O1 MM1 RP1
   go_wp2_with (first
    |(refine wpList_load_mid rfl 32 _ rfl g1 30 rfl (puA (fs 1)).toList _ RP6.o Tryz.underlying32 rfl (by kernel_rfl) ?_)
    |(at_builtin;refine gN rfl _ _ rfl rfl O4.o.1 X4.o.1 X4.o.2 rfl U4.o ?_;intro v6 w6 h6 t6 k6;obtain⟨q1,q2⟩:=M4.o.grew O4.o (Nat.le_succ _) t6 h6 k6;have Z6:=hQQ (Z4.o.turn BQ.o t6 (fun k q=>by have:=(O4.o.2 k q).2.1;omega));have M6:=hQQ q1;have O6:=hQQ q2;have RP6:=hQQ Z6.o.y.st.pur.2;clear h6 t6 k6 q1 q2 M4 Z4 O4 U4 X4))
   refine(Mp (fs 1) s.P1 w6 Z6.o.y.p1 (fun k hk=>by have:=(OKS.o.l1 k hk).1;have:=HR.o.pr2;omega)).mono ?_
   rintro e w7 ⟨v7,rfl,r7,h7⟩
   have M7:=hQQ (M6.o.more h7)
   have Z7:=hQQ (Z6.o.more BQ.o h7)
   have O7:=hQQ (O6.o.more h7)
   have U7:=hQQ (Rd.of_rw r7)
   have X7:Hq (W0.heap.size+1≤w7.heap.size∧(s.O.map (·.1)++c7 s.P0 5).length+(c7 s.P1 5).length≤1000000):=hQQ ⟨ac Z7.o.sn.choose_spec.1,by rw[List.length_append,List.length_map];have:=HLEN.o;omega⟩
   clear r7 h7 Z6 O6 M6 RP6
   go_wp2_with (first
    |(refine wpList_load_mid rfl 28 _ rfl g1 0 rfl c.arr.toList _ RG8.o Tryz.underlying28 rfl (by kernel_rfl) ?_)
    |(at_builtin;refine gN rfl _ _ rfl rfl O7.o.1 X7.o.1 X7.o.2 rfl U7.o ?_;intro v8 w8 h8 t8 k8;obtain⟨q1,q2⟩:=M7.o.grew O7.o (Nat.le_succ _) t8 h8 k8;have Z8:=hQQ (Z7.o.turn BQ.o t8 (fun k q=>by have:=(O7.o.2 k q).2.1;omega));have M8:=hQQ q1;have O8:=hQQ q2;have RG8:=hQQ Z8.o.y.st.lay;clear h8 t8 k8 q1 q2 M7 Z7 O7 U7 X7))
   refine(Oh HR.o HH.o HW.o HN.o F1 p kn D1 w8 M8.o.view HK.o M8.o.inv).mono ?_
   intro e w9 he
   rcases M8.o.stepR (ae.refl _) HK.o GK.o he with⟨a',hE,rfl,hd',ht',hk4⟩|⟨ks,D9,F9,v9,hE,rfl,hp9,M9',hq9,hk9,hn9⟩
   ·exact⟨rfl,NEED.o a' w9 _ (R1.o.symm.trans (ag hE)) hd' ht' (hk4 _ _ (N2.o _ _ _ M8.o) Z8.o.bx)⟩
   have R9:=(aj hE).symm.trans R1.o
   have M9:=hQQ M9'
   have Z9:=hQQ (Z8.o.stay BQ.o (FG.o _ _ _ M8.o) hk9 hn9 (KT.o _ M9'.turn ⟨_,hk9 _ _ (N2.o _ _ _ M8.o) Z8.o.bx⟩))
   have O9:=hQQ (O8.o.went hk9 hn9)
   have U9:=hQQ (Rd.of_rw hp9.1)
   have KL9:Hq (ks.length≤450000):=hQQ (by have:=hq9;have:=FL.o;simp only[List.length_nil] at *;omega)
   have X9:Hq (W0.heap.size+1≤w9.heap.size∧(s.O.map (·.1)++c7 s.P0 5++c7 s.P1 5).length+ks.length≤1000000):=hQQ ⟨ac Z9.o.sn.choose_spec.1,by rw[List.length_append,List.length_append,List.length_map];have:=HLEN.o;have:=KL9.o;omega⟩
   rw[←List.append_assoc (c7 s.P0 5),←List.append_assoc (s.O.map _),←List.append_assoc (s.O.map _)] at R9
   obtain⟨L,hL⟩:∃L,s.O.map (·.1)++c7 s.P0 5++c7 s.P1 5++ks=L:=⟨_,rfl⟩
   rw[hL] at R9
   have LL:Hq (L.length≤1000000):=hQQ (by rw[←hL,List.length_append];exact X9.o.2)
   have R9:=hQQ R9
   clear he hE M9' hp9 hq9 hk9 hn9 Z8 O8 M8 RG8 R1
   go_wp2_with (at_builtin;refine gN rfl _ _ rfl rfl O9.o.1 X9.o.1 X9.o.2 rfl U9.o ?_;intro v10 w10 h10 t10 k10;rw[hL] at h10;obtain⟨q1,q2⟩:=M9.o.grew O9.o (Nat.le_succ _) t10 h10 k10;have Z10:=hQQ (Z9.o.turn BQ.o t10 (fun k q=>by have:=(O9.o.2 k q).2.1;omega));have M10:=hQQ q1;have O10:=hQQ q2;clear h10 t10 k10 q1 q2 M9 Z9 O9 U9 X9)
   clear hL
   obtain⟨a5,c5,rfl,hrd5⟩:=O10.o.1.reads
   clear hrd5
   go_loopw [9] (fun iv wr=>∃(j:Nat) (seen:List Int) (D':List KV) (F':Nat→Prop),iv=.int .i64 (j:Int)∧j≤L.length∧(MidV W0 wr F (fun b=>b=g2) p kn n D' F'∧KkZ c v fs (.slice ao s.O.length co) ok s g1 g2 bt n W0.heap.size seen r F' wr∧dm (W0.heap.size+1) F' wr (.slice a5 L.length c5) L)∧ak (ksP c.us c.pg c.st n (L.drop j) seen) (kk2 c r L.length) kn D'=Rr) (fun iv _=>L.length-(intOf iv).toNat)
   case atStart=>exact⟨0,[],D9,F9,rfl,Nat.zero_le _,⟨M10.o,Z10.o,O10.o⟩,R9.o⟩
   case round =>
    obtain⟨j,seen,D1,F1,rfl,hj,hm1,R1'⟩:=hrel
    have M1:=hQQ hm1
    clear M10 Z10 O10 R9
    by_cases hlt:j<L.length
    ·have d1:decide ((j:Int)<(L.length:Int))=true:=by simp;omega
     have d2:decide (j<L.length)=true:=by simp[hlt]
     have q7:IntKind.i64.wrap ((j:Int)+1)=(j:Int)+1:=by have:=LL.o;exact az (by omega) (by omega)
     obtain⟨x,hxj⟩:∃x,L[j]?=some x:=⟨_,List.getElem?_eq_getElem hlt⟩
     obtain⟨ga,rfl⟩:∃ga,a5=some ⟨ga,0,none⟩:=hm1.2.2.ptr hlt
     have HLT:=hQQ hlt
     rw[zN hxj] at R1'
     have R1:=hQQ (show ak (mg c.us c.pg c.st x) (fun y=>ak (if y.2=true∧0≤x∧x<n∧x∉seen then ksP c.us c.pg c.st n (L.drop (j+1)) (x::seen) else ay false) (kk2 c r L.length)) kn D1=Rr from by rw[←cI];exact R1')
     have hrd5:Hq (∀W F',dm (W0.heap.size+1) F' W (.slice (some ⟨ga,0,none⟩) L.length c5) L→L[j]?=some x→W.cell? ⟨ga,j,none⟩=some (.int .i64 x)):=hQQ fun W F' h hx=>h.cell hx
     have KC:Hq (∀W D' F',(MidV W0 W F (fun b=>b=g2) p kn n D' F'∧KkZ c v fs (.slice ao s.O.length co) ok s g1 g2 bt n W0.heap.size seen r F' W∧dm (W0.heap.size+1) F' W (.slice (some ⟨ga,0,none⟩) L.length c5) L)→Kk6 c (.slice ao s.O.length co) g1 ga j x W):=hQQ fun W D' F' h=>⟨h.2.1.y.st.lay,h.2.1.y.st.row,h.2.2.cell hxj⟩
     clear R1' hm1
     go_wp2_with fail
     refine aM (fun W=>Kk6 c (.slice ao s.O.length co) g1 ga j x W) (by kernel_rfl) ?_
     have MR:Hq (MidV W0 (wr.drewN 1) F (fun b=>b=g2) p kn n D1 F1∧KkZ c v fs (.slice ao s.O.length co) ok s g1 g2 bt n W0.heap.size seen r F1 (wr.drewN 1)∧dm (W0.heap.size+1) F1 (wr.drewN 1) (.slice (some ⟨ga,0,none⟩) L.length c5) L):=hQQ ⟨M1.o.1.more ((ae.refl wr).drewN 1),M1.o.2.1.more BQ.o ((ae.refl wr).drewN 1),M1.o.2.2.more ((ae.refl wr).drewN 1)⟩
     change dc _ _ _ _ _ _ _ _ (wr.drewN 1)
     generalize wr.drewN 1=wq at MR⊢
     generalize hA:Act.mk _ _=A
     have HF:AG 159 A [(0,.pointer (some ⟨p,0,none⟩)),(2,.pointer (some ⟨g1,0,none⟩)),(5,.slice (some ⟨ga,0,none⟩) L.length c5),(9,.int .i64 (j:Int))]:=by
      rw[←hA];try simp only[pts,List.foldl]
      refine⟨⟨Nat.le_of_ble_eq_true rfl,rfl⟩,?_⟩
      intro z hz;simp only[List.mem_cons,List.not_mem_nil,or_false] at hz;rcases hz with rfl|rfl|rfl|rfl<;>rfl
     refine bH (fun aa W=>∃(u88 u89 u90 u91 u92 u93 u94 u95 u87:Value) (xk:Int) (xb:Bool) (D9:List KV) (F9:Nat→Prop),aa=(pts A [(88,u88),(89,u89),(90,u90),(91,u91),(92,u92),(93,u93),(94,u94),(95,u95),(87,u87),(96,.int .i64 xk),(97,.bool xb),(10,.int .i64 xk),(11,.bool xb)])∧(MidV W0 W F (fun b=>b=g2) p kn n D9 F9∧KkZ c v fs (.slice ao s.O.length co) ok s g1 g2 bt n W0.heap.size seen r F9 W∧dm (W0.heap.size+1) F9 W (.slice (some ⟨ga,0,none⟩) L.length c5) L)∧ak (if xb=true∧0≤x∧x<n∧x∉seen then ksP c.us c.pg c.st n (L.drop (j+1)) (x::seen) else ay false) (kk2 c r L.length) kn D9=Rr) (fun W=>gj W0 F (fun b=>b=g2) (fun w'=>EmY c v fs (.slice ao s.O.length co) ok s g1 g2 bt w'∧BlR 0 w' (.slice ao s.O.length co) s.O) (fun w'=>j7 g2 w' true) p kn (eP Rr) (.panicked (bg p)) W) (bg p) (fun a W hd h=>⟨hd,h⟩) (fun _ _ _ _ _ h=>h) ?_ ?_
     ·skip
      rintro a9 w9 ⟨u88,u89,u90,u91,u92,u93,u94,u95,u87,xk,xb,D9,F9,rfl,hm9,R9'⟩
      rw[←hA];try simp only[pts,List.foldl]
      by_cases hc:xb=true∧0≤x∧x<n∧x∉seen
      ·obtain⟨rfl,hx0,hxn,hxs⟩:=hc
       obtain⟨xn,rfl⟩:∃xn:Nat,x=(xn:Int):=⟨x.toNat,by omega⟩
       have M9:=hQQ hm9
       have R9:=hQQ (show ak (ksP c.us c.pg c.st n (L.drop (j+1)) ((xn:Int)::seen)) (kk2 c r L.length) kn D9=Rr from by rw[←R9',if_pos ⟨rfl,hx0,hxn,hxs⟩])
       have c9:=hrd5.o _ _ hm9.2.2 hxj
       obtain⟨s9,f9⟩:=hm9.2.1.sn.at hx0 hxn
       rw[decide_eq_false hxs] at s9
       simp only[Int.toNat_natCast] at s9 f9
       have e1:decide ((xn:Int)<0)=false:=decide_eq_false (by omega)
       have e2:decide ((xn:Int)≥(n:Int))=false:=decide_eq_false (by omega)
       have e4:decide ((n:Int)≤(xn:Int))=false:=decide_eq_false (by omega)
       have e3:decide (xn<n)=true:=decide_eq_true (by omega)
       have M8:Hq (MidV W0 (w9.setCell ⟨W0.heap.size,xn,none⟩ (.bool true)) F (fun b=>b=g2) p kn n D9 F9∧KkZ c v fs (.slice ao s.O.length co) ok s g1 g2 bt n W0.heap.size ((xn:Int)::seen) r F9 (w9.setCell ⟨W0.heap.size,xn,none⟩ (.bool true))∧dm (W0.heap.size+1) F9 (w9.setCell ⟨W0.heap.size,xn,none⟩ (.bool true)) (.slice (some ⟨ga,0,none⟩) L.length c5) L):=hQQ ⟨M9.o.1.setQ (Nat.le_refl _) M9.o.2.1.nf M9.o.2.1.sn.choose_spec.1 _,by have h:=M9.o.2.1.putS BQ.o hx0 hxn;simpa only[Int.toNat_natCast] using h,M9.o.2.2.setH _⟩
       clear HF hA MR M1 R1 hm9 R9' KC
       go_simp
       go_wp2_with fail
       go_roundw
       case rel=>exact⟨j+1,(xn:Int)::seen,D9,F9,by go_num,by omega,M8.o,R9.o⟩
       case measure=>simp[intOf];omega
      ·exfalso
       rw[if_neg hc] at R9'
       have:=HT.o false D9 R9'.symm
       cases this
     intro QQ FINE FIND FINQ
     clear hA
     refine tqM 0 88 0 rfl (.inl rfl) rfl (by kernel_rfl) FINQ (KC.o _ _ _ MR.o) HF fun A β1 HF=>?_
     refine tqC 1 89 (.pointer (some ⟨g1,0,none⟩)) (by kernel_rfl) FINQ (KC.o _ _ _ MR.o) HF (by exact(Or.inl ⟨(ab rfl),fun W hW=>by have h5:=(HF.getD 2 rfl);go_simp⟩)) fun A β2 HF=>?_
     refine tqC 2 90 (.agg c.arr.toList.toArray) (by kernel_rfl) FINQ (KC.o _ _ _ MR.o) HF (by exact mN (ab rfl) 28 _ rfl g1 0 (HF.get 0 rfl) c.arr.toList _ (fun W hW=>hW.st) Tryz.underlying28 rfl (by kernel_rfl)) fun A β3 HF=>?_
     refine tqM 3 91 5 rfl (.inl rfl) rfl (by kernel_rfl) FINQ (KC.o _ _ _ MR.o) HF fun A β4 HF=>?_
     refine tqM 4 92 7 rfl (.inl rfl) rfl (by kernel_rfl) FINQ (KC.o _ _ _ MR.o) HF fun A β5 HF=>?_
     refine tqC 5 93 (.pointer (some ⟨ga,j,none⟩)) (by kernel_rfl) FINQ (KC.o _ _ _ MR.o) HF (by exact jo (j:=j) (ab rfl) rfl (HF.get 1 rfl) (HF.get 0 rfl) HLT.o) fun A β6 HF=>?_
     refine tqC 6 94 (.int .i64 x) (by kernel_rfl) FINQ (KC.o _ _ _ MR.o) HF (by exact dA (ab rfl) 3 _ rfl ga j (HF.get 0 rfl) _ _ Tryz.underlying3 rfl (fun W hW=>hW.x)) fun A β7 HF=>?_
     refine tqO 7 95 (by kernel_rfl) HF fun K hK=>?_
     refine du (v0:=.pointer (some ⟨p,0,none⟩)) (v1:=.agg c.arr.toList.toArray) (v2:=.int .i64 x) rfl (HF.get 6 rfl) (HF.get 4 rfl) (HF.get 0 rfl) (enters_of Tryz.func11 (by kernel_rfl) rfl) ?_
     refine(xR HR.o HH.o HN.o F1 p kn D1 x wq MR.o.1.view HK.o MR.o.1.inv bt MR.o.2.1.y.sz (NZ.o _ _ _ MR.o.1).1 (NZ.o _ _ _ MR.o.1).2).mono ?_
     intro e w3 he
     rcases MR.o.1.step (ae.refl _) HK.o (iY HH.o _ _) he with⟨a',hE,rfl,hd',ht',hk'⟩|⟨⟨xk,xb⟩,D9,F9,hE,rfl,M9',hq9,hk9,hf9⟩
     ·exact FIND _ _ HF.1.2 (NEED.o a' w3 _ (R1.o.symm.trans (ag hE)) hd' ht' (hk' _ _ (N2.o _ _ _ MR.o.1) MR.o.2.1.bx))
     have R9:=hQQ ((aj hE).symm.trans R1.o)
     have M3:Hq (MidV W0 w3 F (fun b=>b=g2) p kn n D9 F9∧KkZ c v fs (.slice ao s.O.length co) ok s g1 g2 bt n W0.heap.size seen r F9 w3∧dm (W0.heap.size+1) F9 w3 (.slice (some ⟨ga,0,none⟩) L.length c5) L):=hQQ ⟨M9',MR.o.2.1.stay BQ.o (FG.o _ _ _ MR.o.1) hk9 hf9 (KT.o _ M9'.turn ⟨_,hk9 _ _ (N2.o _ _ _ MR.o.1) MR.o.2.1.bx⟩),MR.o.2.2.went hk9 hf9⟩
     clear he hE hk9 hf9 hq9 M9'
     refine hK _ _ (KC.o _ _ _ M3.o) fun A β8 HF=>?_
     clear hK K
     refine tqM 8 87 0 rfl (.inl rfl) rfl (by kernel_rfl) FINQ (KC.o _ _ _ M3.o) HF fun A β9 HF=>?_
     refine tqC 9 96 (.int .i64 xk) (by kernel_rfl) FINQ (KC.o _ _ _ M3.o) HF (by exact(Or.inl ⟨(ab rfl),fun W hW=>by have h5:=(HF.getD 0 rfl);go_simp⟩)) fun A β10 HF=>?_
     refine tqC 10 97 (.bool xb) (by kernel_rfl) FINQ (KC.o _ _ _ M3.o) HF (by exact(Or.inl ⟨(ab rfl),fun W hW=>by have h5:=(HF.getD 1 rfl);go_simp⟩)) fun A β11 HF=>?_
     refine tqM 11 10 1 rfl (.inr rfl) rfl (by kernel_rfl) FINQ (KC.o _ _ _ M3.o) HF fun A β12 HF=>?_
     refine tqM 12 11 1 rfl (.inr rfl) rfl (by kernel_rfl) FINQ (KC.o _ _ _ M3.o) HF fun A β13 HF=>?_
     exact bI (by kernel_rfl) (FINE _ _ ⟨(.pointer (some ⟨p,0,none⟩)),(.pointer (some ⟨g1,0,none⟩)),(.agg c.arr.toList.toArray),(.slice (some ⟨ga,0,none⟩) L.length c5),(.int .i64 (j:Int)),(.pointer (some ⟨ga,j,none⟩)),(.int .i64 x),(.tuple #[.int .i64 xk,.bool xb]),(.tuple #[.int .i64 xk,.bool xb]),xk,xb,D9,F9,by rw[← β13,← β12,← β11,← β10,← β9,← β8,← β7,← β6,← β5,← β4,← β3,← β2,← β1]<;>rfl,M3.o,R9.o⟩)
    ·obtain rfl:j=L.length:=by omega
     have d1:decide ((L.length:Int)<(L.length:Int))=false:=by simp
     rw[List.drop_eq_nil_of_le (Nat.le_refl _)] at R1'
     have R1:=hQQ (show ak (yv c.us c.pg c.st (32 * c.pg).toNat c.us 0) (fun t=>ay (r && t==(L.length:Int))) kn D1=Rr from R1')
     have MM1:=hQQ hm1.1
     have Z1:=hQQ hm1.2.1
     have RG1:=hQQ hm1.2.1.y.st.lay
     clear R1' hm1 M1
     go_wp2_with (refine wpList_load_mid rfl 28 _ rfl g1 0 rfl c.arr.toList _ RG1.o Tryz.underlying28 rfl (by kernel_rfl) ?_)
     refine(Mf HR.o wr).mono ?_
     rintro e w11 ⟨rfl,h11⟩
     have M11:=hQQ (MM1.o.more h11)
     have Z11:=hQQ (Z1.o.more BQ.o h11)
     clear h11 MM1 Z1 RG1
     go_wp2_with fail
     go_loopw [12,13] (fun tv iv wr=>∃(j:Nat) (t:Int) (D':List KV) (F':Nat→Prop),tv=.int .i64 t∧iv=.int .i64 (c.us+j)∧(j:Int)≤32 * c.pg∧0≤t∧t≤j∧MidV W0 wr F (fun b=>b=g2) p kn n D' F'∧KkZ c v fs (.slice ao s.O.length co) ok s g1 g2 bt n W0.heap.size seen r F' wr∧ak (yv c.us c.pg c.st ((32 * c.pg).toNat-j) (c.us+j) t) (fun t=>ay (r && t==(L.length:Int))) kn D'=Rr) (fun _ iv _=>((c.us+32 * c.pg)-intOf iv).toNat)
     case atStart=>exact⟨0,0,D1,F1,rfl,by simp[Cfg.us],by have:=HR.o.pg1;omega,by omega,by omega,M11.o,Z11.o,by simpa using R1.o⟩
     case round =>
      obtain⟨j,t,D1,F1,rfl,rfl,hj,ht0,htj,M1',Z1',R1'⟩:=hrel
      have M1:=hQQ M1'
      have Z1:=hQQ Z1'
      have RG1:=hQQ Z1'.y.st.lay
      clear M1' Z1' M11 Z11 R1
      have ub:=US.o
      by_cases hlt:(j:Int)<32 * c.pg
      ·have d1:decide (c.us+(j:Int)<c.words)=true:=by have:=WD.o;simp;omega
       have q7:IntKind.i64.wrap (c.us+(j:Int)+1)=c.us+(j:Int)+1:=az (by omega) (by omega)
       have q6:IntKind.i64.wrap (t+1)=t+1:=az (by omega) (by omega)
       obtain⟨m,hm⟩:∃m,(32 * c.pg).toNat-j=m+1:=⟨(32 * c.pg).toNat-j-1,by omega⟩
       have hm2:(32 * c.pg).toNat-(j+1)=m:=by omega
       rw[hm] at R1'
       have R1:=hQQ (show ak (mg c.us c.pg c.st (c.us+j)) (fun x=>ak (yv c.us c.pg c.st m (c.us+j+1) (if x.2 then t+1 else t)) (fun t=>ay (r && t==(L.length:Int)))) kn D1=Rr from by rw[←cI];exact R1')
       clear R1'
       go_wp2_with (refine wpList_load_mid rfl 28 _ rfl g1 0 rfl c.arr.toList _ RG1.o Tryz.underlying28 rfl (by kernel_rfl) ?_)
       refine(xw HR.o wr).mono ?_
       rintro e w2 ⟨rfl,m2⟩
       have M2:=hQQ (M1.o.more m2)
       have Z2:=hQQ (Z1.o.more BQ.o m2)
       have RG2:=hQQ Z2.o.y.st.lay
       clear m2 M1 Z1 RG1
       go_wp2_with (refine wpList_load_mid rfl 28 _ rfl g1 0 rfl c.arr.toList _ RG2.o Tryz.underlying28 rfl (by kernel_rfl) ?_)
       refine(xR HR.o HH.o HN.o F1 p kn D1 (c.us+j) w2 M2.o.view HK.o M2.o.inv bt Z2.o.y.sz (NZ.o _ _ _ M2.o).1 (NZ.o _ _ _ M2.o).2).mono ?_
       intro e w3 he
       rcases M2.o.step (ae.refl _) HK.o (iY HH.o _ _) he with⟨a',hE,rfl,hd',ht',hk'⟩|⟨⟨xk,xb⟩,D3,F3,hE,rfl,M3',hq3,hk',hf'⟩
       ·exact⟨rfl,NEED.o a' w3 _ (R1.o.symm.trans (ag hE)) hd' ht' (hk' _ _ (N2.o _ _ _ M2.o) Z2.o.bx)⟩
       have R3:=hQQ ((aj hE).symm.trans R1.o)
       have M3:=hQQ M3'
       have Z3:=hQQ (Z2.o.stay BQ.o (FG.o _ _ _ M2.o) hk' hf' (KT.o _ M3'.turn ⟨_,hk' _ _ (N2.o _ _ _ M2.o) Z2.o.bx⟩))
       clear he hE hk' hf' M3' hq3 M2 Z2 RG2
       cases xb with
       |false =>
        go_wp2_with fail
        go_roundw
        case rel=>exact⟨j+1,t,D3,F3,rfl,by go_num,by omega,by omega,by omega,M3.o,Z3.o,by have h:=R3.o;simp only[Bool.false_eq_true,if_false] at h;rw[hm2,show c.us+((j+1:Nat):Int)=c.us+j+1 by omega];exact h⟩
        case measure=>simp[intOf];omega
       |true =>
        go_wp2_with fail
        go_roundw
        case rel=>exact⟨j+1,t+1,D3,F3,rfl,by go_num,by omega,by omega,by omega,M3.o,Z3.o,by have h:=R3.o;simp only[if_true] at h;rw[hm2,show c.us+((j+1:Nat):Int)=c.us+j+1 by omega];exact h⟩
        case measure=>simp[intOf];omega
      ·have d1:decide (c.us+(j:Int)<c.words)=false:=by have:=WD.o;simp;omega
       rw[show(32 * c.pg).toNat-j=0 by omega] at R1'
       have R1:ay (r && t==(L.length:Int)) kn D1=Rr:=R1'
       clear R1'
       have hr:(r && t==(L.length:Int))=true:=HT.o _ D1 R1.symm
       rw[hr] at R1
       obtain⟨hr1,hr2⟩:=Bool.and_eq_true_iff.1 hr
       subst hr1
       go_wp2_with (refine wpList_load_mid rfl 28 _ rfl g1 0 rfl c.arr.toList _ RG1.o Tryz.underlying28 rfl (by kernel_rfl) ?_)
       refine(xw HR.o wr).mono ?_
       rintro e w2 ⟨rfl,m2⟩
       have M2:=M1.o.more m2
       have Z2:=Z1.o.more BQ.o m2
       obtain⟨yb,fb,_⟩:=aB Z2.bx
       have FIN:=hQQ (DONE.o w2 D1 F1 _ R1.symm M2 Z2.bx)
       clear m2 M1 Z1 RG1 M2 Z2 R1 hr
       go_wp2_with fail
       go_end0
       exact FIN.o
def Pf:Prop:=∀(c:Cfg) (n bt:Nat),c.Ok→∀(zs:List Int),zs.length=n→cB c.pg c.st n→(n:Int)=c.words→n≤1000→OkW zs→∀(s:FSt),FrS c n s zs→OkS c s→∀(v:Value) (fs:Nat→Nat→Value) (o2 ok:Value),(∃ao co,o2=.slice ao s.O.length co)→∀(w:World) (g1 g2 gz cz:Nat),v=.slice (some ⟨gz,0,none⟩) n cz→BlR 0 w o2 s.O→(∀q,o2.ownBlock=some q→q<g2)→EmY c v fs o2 ok s g1 g2 bt w→Ws w gz cz zs →
    Calls Tryz.prog 9 #[.slice (some ⟨gz,0,none⟩) n cz,.func (.func 10) #[] #[.pointer (some ⟨g2,0,none⟩),.pointer (some ⟨g1,0,none⟩)]] w (fun e w'=>∃v1 v2,e=.returned (.tuple #[v1,v2,.int .i64 0])∧j7 g2 w' true∧Turned (fun b=>b=g2) w w')
theorem Md (TT:TkT)(KD:Pf)(y0 y1 y2 y3 y4 y5 y6 y7 y8 y9 y10:Int)(a:Option Addr)(capl:Nat)(l:List ge)(w:World)(hS:pD w)(f0:(Lit.int .i64 y0).wf=true)(f1:(Lit.int .i64 y1).wf=true)(f2:(Lit.int .i64 y2).wf=true)(f3:(Lit.int .i64 y3).wf=true)(f4:(Lit.int .i64 y4).wf=true)(f5:(Lit.int .i64 y5).wf=true)(f6:(Lit.int .i64 y6).wf=true)(f7:(Lit.int .i64 y7).wf=true)(f8:(Lit.int .i64 y8).wf=true)(f9:(Lit.int .i64 y9).wf=true)(f10:(Lit.int .i64 y10).wf=true)(hl:gg w a l)(ho:NR l)(hm:l.length≤9223372036854775807):
 Calls Tryz.prog 3 #[.agg #[.int .i64 y0,.int .i64 y1,.int .i64 y2,.int .i64 y3,.int .i64 y4,.int .i64 y5,.int .i64 y6,.int .i64 y7,.int .i64 y8,.int .i64 y9,.int .i64 y10],.slice a l.length capl] w (aP w (.bool true)):=by
 obtain⟨w2,e2,ha2,m2,hs2⟩:=a6 w (.cells #[.int .i64 y0,.int .i64 y1,.int .i64 y2,.int .i64 y3,.int .i64 y4,.int .i64 y5,.int .i64 y6,.int .i64 y7,.int .i64 y8,.int .i64 y9,.int .i64 y10] 23)
 obtain⟨bt,hsz⟩:=hS
 have HSZ:Hq (dd bt w):=hQQ hsz
 have sz0:=HSZ.o.lt0
 have szb:=HSZ.o.lt
 have HM:=hQQ m2
 have HA:=hQQ ha2
 have LIV:=hQQ (Dk TT bt)
 clear ha2 hsz
 by_cases hbig:60<l.length
 ·have d0:decide ((60:Int)<(l.length:Int))=true:=by simp;omega
  clear m2 hs2 HA f0 f1 f2 f3 f4 f5 f6 f7 f8 f9 f10 TT
  go_enter Tryz.func3,Tryz.ntmps3
  go_wp2_with fail
  refine(LIV.o _ (HSZ.o.more HM.o)).mono ?_
  rintro e w8 ⟨rfl,h8⟩
  have HM8:=hQQ (HM.o.trans h8)
  clear h8
  go_wp2_with fail
  go_ret
  exact⟨rfl,HM8.o⟩
 ·have d0:decide ((60:Int)<(l.length:Int))=false:=by simp;omega
  obtain⟨d,n,zs,s,S,hn,hlz,hz,Fq9,OKs,AF⟩:=LR TT y0 y1 y2 y3 y4 y5 y6 y7 y8 y9 y10 f0 f1 f2 f3 f4 f5 f6 f7 f8 f9 f10 l (by omega)
  have wds:=S.words
  have H:=Ek S hn
  have hnb:160≤n∧n≤800:=by omega
  have DO0:=hQQ (KD d n bt S.ok zs hlz H hn (by omega) hz s Fq9 OKs)
  have HLZ:=hQQ hlz
  have AO:=hQQ (AF.out a capl w2 ⟨bt,HSZ.o.more m2⟩ (hl.more m2))
  clear m2 f0 f1 f2 f3 f4 f5 f6 f7 f8 f9 f10 hl ho hm AF S H hn wds Fq9 OKs hz hlz TT
  go_enter Tryz.func3,Tryz.ntmps3
  go_wp2_with (refine sx rfl rfl rfl HA.o (by kernel_rfl) ?_)
  clear e2
  refine AO.o.mono ?_
  rintro e w5 ⟨gz,cz,fs,o,rfl,hwz,hp0,hp1,hrb,hgz,m5⟩
  obtain⟨ao,co,rfl,_⟩:=hrb.reads
  have hz5:=a7 w5 (.cells mO 37)
  obtain⟨cur,hcur⟩:∃cur,(stL (d.arr.toList++ [.slice (some ⟨gz,0,none⟩) n cz]) fs (.slice ao s.O.length co) (.bool true)).toArray=cur:=⟨_,rfl⟩
  obtain⟨w7,e7⟩:∃w7,(w5.alloc (.cells mO 37)).setRow w5.heap.size cur=w7:=⟨_,rfl⟩
  have hb7:StB w7 w5.heap.size (d.arr.toList++ [.slice (some ⟨gz,0,none⟩) n cz]) fs (.slice ao s.O.length co) (.bool true):=⟨by rw[List.length_append,jC];rfl,by rw[←e7,←hcur];exact setRow_heap _ _ _ _ _ _ hz5⟩
  have m57:ae w5 w7:=by rw[←e7];exact((ae.refl w5).alloc _).setRow _ _ (Nat.le_refl _)
  have SZ:Hq (cur.size=37):=hQQ (by rw[←hcur,List.size_toArray];exact nL hb7.1 _ _ _)
  have AL:Hq (cur.all (·.oneCell')=true):=hQQ (by rw[←hcur];exact De _ (yt d _ rfl) (Pu.all1 hp0) (Pu.all1 hp1) hrb.one rfl)
  obtain⟨w8,e8,hr8,m8,s8⟩:=a6 w7 (.cells #[.bool false] 4)
  have n8:w8.setCell ⟨w7.heap.size,0,none⟩ (.bool false)=w8:=AU hr8
  obtain⟨c8,f8,_⟩:=aB hr8
  have m58:=m57.trans m8
  have h25:=m5.size
  have h57:=hb7.lt
  have hM7:=HM.o.size
  have SB8:=hb7.more m8
  have y36:=hb7.end36
  have y24:=SB8.at24 (jC d)
  have M8:Hq (ae w w8):=hQQ (HM.o.trans (m5.trans m58))
  have p07:=hp0.more m57
  have p17:=hp1.more m57
  have DO:=hQQ (DO0.o _ fs _ (.bool true) ⟨ao,co,rfl⟩ w8 w5.heap.size w7.heap.size gz cz rfl ((hrb.low (Nat.zero_le _)).more m58) (fun q e=>by have:=hrb.lt q e;have:=m57.size;omega) ⟨SB8,p07.more m8,p17.more m8,fun c hc q e=>p07.lt c hc q e,fun c hc q e=>p17.lt c hc q e,⟨false,hr8⟩,HSZ.o.more M8.o,⟨h57,by omega,by omega⟩⟩ (hwz.more m58))
  have Z5:=hQQ hz5
  have E7:=hQQ e7
  have l57:=m57.size
  clear e7 hb7 hz5 hwz hp0 hp1 hrb m5 m57 m58 m8 AO HA hr8 DO0 p07 p17 SB8
  rw[hcur]
  go_wp2_with (refine wpList_store_row rfl 37 _ _ rfl w5.heap.size cur rfl rfl 37 mO Z5.o (by rw[SZ.o];kernel_rfl) (by rw[SZ.o];rfl) AL.o ?_;rw[E7.o])
  refine DO.o.mono ?_
  rintro e w10 ⟨v1,v2,rfl,hx,t10⟩
  obtain⟨c10,_,_⟩:=aB hx
  have M10:Hq (ae w w10):=hQQ (Turned.mono (am (F:=fun _=>False) M8.o t10 (fun b e=> .inr (by omega))) (fun _ _ q=>q))
  clear hx t10 DO y24 c8 f8 n8 e8
  go_wp2_with fail
  refine(LIV.o _ (HSZ.o.more M10.o)).mono ?_
  rintro e w12 ⟨rfl,h12⟩
  have M12:=hQQ (M10.o.trans h12)
  clear h12
  go_wp2_with fail
  go_ret
  exact⟨rfl,M12.o⟩
theorem uT (us pg st:Int)(ws:List Int):∀k,fw us pg st ws k≤k
 | 0=>Nat.le_refl _
 |k+1=>by
  have:=uT us pg st ws k
  unfold fw
  split<;>omega
theorem Pg:Pf:=by
 intro c n bt R zs hlz H hw hlen hz s Fq9 oks v fs o2 ok ho w g1 g2 gz cz hvz hbl hbq hY ha
 obtain⟨xs,K',hK',hans⟩:=Pe R H hw (by omega) hlz hz Fq9
 obtain⟨C,hC,nd,q1,q2,q3⟩:=Em R H hw (by omega) Fq9
 have l2:g2<w.heap.size:=by obtain⟨x,h⟩:=hY.bx;exact ac h
 have G:=Eu R H hw (by omega) s
 have hLen:s.O.length+(c7 s.P0 5).length+(c7 s.P1 5).length≤100000:=by
  have t:=uT c.us c.pg c.st zs (32 * c.pg).toNat
  rw[q3] at t
  have ub:=uA R H hw (by omega)
  have wd:c.words=c.us+32 * c.pg:=rfl
  unfold allA at t
  simp only[List.length_append,List.length_map] at t
  omega
 subst hlz
 have M:=ML (some ⟨gz,0,none⟩) cz zs (fun K=>eP (keP c zs.length s (look K) [])) (some (xs,K')) zs.length w ha.words (by omega) hz (xm G hz (by omega)) (by omega) hK' 10 #[.pointer (some ⟨g2,0,none⟩),.pointer (some ⟨g1,0,none⟩)] (fun b=>b=g2)
  (fun w'=>EmY c v fs o2 ok s g1 g2 bt w'∧BlR 0 w' o2 s.O) (fun w'=>j7 g2 w' true)
  (fun b q=>by subst q;exact l2)
  (fun w' w'' y t=>⟨y.1.keep t (fun k q=>by omega) (by obtain⟨x,y2⟩:=y.1.bx;exact⟨x,(t.block g2 (ac y2) (by omega)).trans y2⟩),y.2.off t (fun q e z=>by have:=hbq q e;omega)⟩)
  (fun w' w'' y t=>(t.block g2 (ac y) (by omega)).trans y) ⟨hY,hbl⟩ (enters_of Tryz.func10 (by kernel_rfl) rfl)
  (fun K hK W F p t yy hv hF=>Oi R H hw hlen F p g1 g2 gz cz (look K) W s oks v fs o2 ok hvz hLen hv (sP hK hz) yy.1 yy.2 hbq (fun q z=>by have:=hF _ z;omega)
   (fun z D e=>hans K hK z D e))
 refine M.mono ?_
 rintro e w' ⟨v1,v2,rfl,r1,_,t,_,x⟩
 exact⟨v1,v2,rfl,x,t⟩
open Go.ChangeShapes Go.WideShapes Go.ChangeAt Go.Deep
section
variable {H:Type}{enc:TypeId×Value→H}{P:Program}{w:World}{base:Nat}{spare:Nat→Bool}{held:Bool}
theorem rO {r:Reach}{b0:Nat}{t T:TypeId}{fs:Array Field}{v:Value}{d:DataW H}{p:List MemPlace}(hs:P.underlying t=some (.struct fs))(hone:oneCellFields P fs=true)(hC:P.cellsOf t=fs.size)
 (hT:(fs.all fun f=>f.type==T)=true) (u:P.underlying T=some (.int .i64)) (hv:Value.okWide P w r b0 t v) (h:DataW.Trod enc P w base spare held t v d p):
 ∃xs:List Int,xs.length=fs.size∧v=.agg (xs.map (Value.int .i64)).toArray∧∀x∈xs,(Lit.int .i64 x).wf=true:=by
 obtain⟨cs,rfl,hsz⟩:=okWide_struct hs hv
 obtain⟨fuel,hf⟩:=h
 obtain⟨ys,n,_,_,_,hlen,hg⟩:=DataW.trod_struct hs hf
 have key:∀j,j<cs.toList.length→∃x:Int,cs.toList[j]?=some (.int .i64 x)∧(Lit.int .i64 x).wf=true:=by
  intro j hj
  have hj':j<fs.size:=by simp at hj;omega
  have hfj:fs[j]?=some fs[j]:=by simp[hj']
  obtain⟨ho,hk⟩:=hone_of hone j _ hfj
  have ht:fs[j].type=T:=by
   have:=Array.all_eq_true.1 hT j hj'
   simpa using this
  have h1:=hg j _ hfj
  rw[ho,hk] at h1
  have hys:ys[j]?=some (ys[j]'(by omega)):=List.getElem?_eq_getElem (by omega)
  rw[hys] at h1
  obtain⟨x,e,_,wx⟩:=DataW.trod_int (by rw[ht];exact u) h1
  refine⟨x,?_,wx⟩
  have e':(cs.toList.drop j).take 1= [.int .i64 x]:=by simpa [Value.cells] using e
  rw[List.drop_eq_getElem_cons hj] at e'
  simp at e'
  rw[List.getElem?_eq_getElem hj]
  simp[e']
 have hall:∀l:List Value,(∀j,j<l.length→∃x:Int,l[j]?=some (.int .i64 x)∧(Lit.int .i64 x).wf=true)→∃xs:List Int,xs.length=l.length∧l=xs.map (Value.int .i64)∧∀x∈xs,(Lit.int .i64 x).wf=true:=by
  intro l
  induction l with
  |nil=>intro _;exact⟨[],rfl,rfl,by simp⟩
  |cons a l ih =>
   intro hl
   obtain⟨x,hx,wx⟩:=hl 0 (by simp)
   obtain⟨xs,h1,h2,h3⟩:=ih (fun j hj=>by have:=hl (j+1) (by simp;omega);simpa using this)
   simp at hx
   exact⟨x::xs,by simp[h1],by simp[hx,←h2],by intro z hz;rcases List.mem_cons.1 hz with q|q; (rw[q];exact wx);exact h3 z q⟩
 obtain⟨xs,h1,h2,h3⟩:=hall cs.toList key
 refine⟨xs,by simp at h1;omega,?_,h3⟩
 rw[←h2]
end
theorem Oj {l:List Int}(h:l.length=11):∃x0 x1 x2 x3 x4 x5 x6 x7 x8 x9 x10,l= [x0,x1,x2,x3,x4,x5,x6,x7,x8,x9,x10]:=by
 match l,h with
 | [x0,x1,x2,x3,x4,x5,x6,x7,x8,x9,x10],_=>exact⟨x0,x1,x2,x3,x4,x5,x6,x7,x8,x9,x10,rfl⟩
end Go.Proofs.YtddmeghbmdfgeaaGreatDoor
