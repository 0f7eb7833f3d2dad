/-
  Programs over plain words, run by run, as plain functions.
-/
import Derived.Test.YtddmeghbmdfgeaaGreatDoorFtAd
import Derived.Test.YtddmeghbmdfgeaaGreatDoorRows
import Derived.Test.YtddmeghbmdfgeaaGreatDoorChecked
import Derived.Test.YtddmeghbmdfgeaaGreatDoorFtAa
import Derived.WalkKit
import Derived.WalkSpells
import Derived.WalkLawsBesides
import Derived.Outline
import Derived.Lib.Hide
import Derived.Deep.AppendLies
import Derived.Shelf.SlicesG.Clone
import Derived.Test.YtddmeghbmdfgeaaGreatDoorFtAb
import Derived.RangeFuncBox
import Derived.Shelf.Abstract
import Derived.LoopNIn
import Derived.LoopIn
set_option maxRecDepth 100000
set_option maxHeartbeats 8000000
set_option linter.all false
namespace Go.Proofs.YtddmeghbmdfgeaaGreatDoor
def wAt (ws:List Int)(i:Int):Int:=ws.getD i.toNat 0
def cy (ws:List Int)(D:List KV):List Int:=D.foldl (fun z p=>z.set p.1.toNat p.2) ws
def ky (ws:List Int)(D:List KV):Bool:=D.all fun p=>decide (p.1<ws.length)
def doP (sem:List KV→Ran)(ws:List Int):Nat→List KV→Option (List Int×List KV)
 | 0,_=>none
 |n+1,K=>match sem K with
  | .need a=>if a<ws.length then doP sem ws n (K++ [(a,wAt ws a)]) else none
  | .done D=>if ky ws D then some (cy ws D,K) else none
theorem d7 (D:List KV):∀ws,(cy ws D).length=ws.length:=by
 induction D with
 |nil=>intro ws;rfl
 |cons p D ih=>intro ws;show(cy (ws.set _ _) D).length=_;rw[ih];simp
theorem yw (ws:List Int)(D:List KV)(p:KV):cy ws (D++ [p])=(cy ws D).set p.1.toNat p.2:=by simp[cy,List.foldl_append]
theorem Ed {D:List KV}{i:Nat}{p:KV}(h:D[i]?=some p):D.take (i+1)=D.take i++ [p]:=by rw[List.take_add_one,h];rfl
theorem AH (ws:List Int)(D:List KV)(p:KV):ky ws (D++ [p])=(ky ws D && decide (p.1<ws.length)):=by simp[ky,List.all_append]
theorem Ee {ws:List Int}{D:List KV}{i:Nat}{p:KV}(h:D[i]?=some p)(hp:¬p.1<ws.length):ky ws D=false:=by
 unfold ky
 rw[List.all_eq_false]
 exact⟨p,List.mem_of_getElem? h,by simpa using hp⟩
structure jU (ws:List Int)(K:List KV):Prop where
 at':∀p∈K,0≤p.1∧p.1<ws.length∧p.2=wAt ws p.1
 once:(K.map (·.1)).Nodup
theorem po (ws:List Int):jU ws []:=⟨(fun p h=>by cases h),by simp⟩
theorem vv {ws:List Int}{K:List KV}(h:jU ws K){a:Int}(h0:0≤a)(h1:a<ws.length)(hn:look K a=none):jU ws (K++ [(a,wAt ws a)]):=by
 refine⟨fun p hp=>?_,?_⟩
 ·rcases List.mem_append.1 hp with q|q
  ·exact h.at' p q
  ·simp at q;subst q;exact⟨h0,h1,rfl⟩
 ·rw[List.map_append,List.nodup_append]
  refine⟨h.once,by simp,fun x hx y hy e=>?_⟩
  simp at hy;subst hy;subst e
  obtain⟨p,hp,rfl⟩:=List.mem_map.1 hx
  exact iA.1 hn p hp rfl
theorem ma (M:Nat):∀xs:List Int,xs.Nodup→(∀x∈xs,0≤x∧x<M)→xs.length≤M:=by
 induction M with
 |zero =>
  intro xs _ h
  cases xs with
  |nil=>simp
  |cons a l=>have:=h a (by simp);omega
 |succ M ih =>
  intro xs hn h
  by_cases hm:(M:Int)∈xs
  ·have h1:=ih (xs.erase (M:Int)) (hn.erase _) (fun x hx=>by
    have hx':=(List.Nodup.mem_erase_iff hn).1 hx
    have:=h x hx'.2
    have:=hx'.1
    omega)
   have h2:=List.length_erase_of_mem hm
   omega
  ·have h1:=ih xs hn (fun x hx=>by
    have:=h x hx
    have:x≠(M:Int):=fun e=>hm (e▸hx)
    omega)
   omega
theorem jU.len {ws:List Int}{K:List KV}(h:jU ws K):K.length≤ws.length:=by
 have:=ma ws.length (K.map (·.1)) h.once fun x hx=>by
  obtain⟨p,hp,rfl⟩:=List.mem_map.1 hx
  exact⟨(h.at' p hp).1,(h.at' p hp).2.1⟩
 simpa using this
theorem vw {K:List KV}{a x:Int}(h:look K a=none):(fun y=>if y=a then some x else look K y)=look (K++ [(a,x)]):=by
 funext y
 rw[l8,gE]
 by_cases e:y=a
 ·subst e;rw[if_pos rfl,if_pos rfl,h];rfl
 ·rw[if_neg e,if_neg (fun q=>e q.symm),Gq];cases look K y<;>rfl
def OkW (ws:List Int):Prop:=∀x∈ws,W64 x
theorem AI {ws:List Int}(h:OkW ws)(i:Int):W64 (wAt ws i):=by
 unfold wAt
 by_cases q:i.toNat<ws.length
 ·have:ws.getD i.toNat 0=ws[i.toNat]:=by simp[List.getD,q]
  rw[this];exact h _ (List.getElem_mem q)
 ·have:ws.getD i.toNat 0=0:=by simp[List.getD,List.getElem?_eq_none (show ws.length≤i.toNat by omega)]
  rw[this];unfold W64;omega
def wQ (ws:List Int)(b:Nat)(sem:List KV→Ran):Prop:=∀K,jU ws K→Me (look K) b (sem K)
theorem yx {b:Nat}{sem:List KV→Ran}{ws:List Int}{K:List KV}{a:Int}{R:Option (List Int×List KV)}(hK:jU ws K)(hf:Me (look K) b (sem K))(hs:sem K=.need a)(ha:a<ws.length)(hR:doP sem ws (ws.length+1-K.length) K=R):
 jU ws (K++ [(a,wAt ws a)])∧doP sem ws (ws.length+1-(K++ [(a,wAt ws a)]).length) (K++ [(a,wAt ws a)])=R∧0≤a∧look K a=none:=by
 rw[hs] at hf
 have h1:=vv hK hf.1 ha hf.2.2
 have h2:=hK.len
 refine⟨h1,?_,hf.1,hf.2.2⟩
 rw[show ws.length+1-K.length=(ws.length-K.length)+1 by omega] at hR
 unfold doP at hR
 rw[hs] at hR
 simp only[if_pos ha] at hR
 rw[List.length_append,List.length_singleton,show ws.length+1-(K.length+1)=ws.length-K.length by omega]
 exact hR
theorem CW {sem:List KV→Ran}{ws:List Int}{K:List KV}{a:Int}{R:Option (List Int×List KV)}(hK:jU ws K)(hs:sem K=.need a)(ha:¬a<ws.length)(hR:doP sem ws (ws.length+1-K.length) K=R):R=none:=by
 have h2:=hK.len
 rw[show ws.length+1-K.length=(ws.length-K.length)+1 by omega] at hR
 unfold doP at hR
 rw[hs] at hR
 simp only[if_neg ha] at hR
 exact hR.symm
theorem yz {sem:List KV→Ran}{ws:List Int}{K D:List KV}{R:Option (List Int×List KV)}(hK:jU ws K)(hs:sem K=.done D)(hR:doP sem ws (ws.length+1-K.length) K=R):R=if ky ws D then some (cy ws D,K) else none:=by
 have h2:=hK.len
 rw[show ws.length+1-K.length=(ws.length-K.length)+1 by omega] at hR
 unfold doP at hR
 rw[hs] at hR
 exact hR.symm
open Go.RowKit
theorem pp {w w':World}{base:Nat}{e:TypeId}{s n:Nat}{v:Value}{xs:List Value}(h:w.ownsRow base e s v n xs)(hW:ae w w'):w'.ownsRow base e s v n xs:=by
 refine⟨h.1,?_⟩
 rcases h.2 with q|⟨g,cap,cur,h1,h2,h3,h4⟩
 ·exact .inl q
 ·exact .inr ⟨g,cap,cur,h1,h2,hW.block h3,h4⟩
theorem ra {w:World}{base base':Nat}{e:TypeId}{s n:Nat}{v:Value}{xs:List Value}(h:w.ownsRow base e s v n xs)(hb:base'≤base):w.ownsRow base' e s v n xs:=by
 refine⟨h.1,?_⟩
 rcases h.2 with q|⟨g,cap,cur,h1,h2,h3,h4⟩
 ·exact .inl q
 ·exact .inr ⟨g,cap,cur,h1,by omega,h3,h4⟩
theorem uM {wa w w':World}{v:Value}{e:TypeId}{s n:Nat}{xs:List Value}(hW:ae wa w)(h:w.ownsRow wa.heap.size e s v n xs)(g:w.grownBy w' v.ownBlock):ae wa w' :=
 ⟨g.os.trans hW.os,g.tape.trans hW.tape,g.output.trans hW.output,Nat.le_trans hW.size g.size,fun k hk _=>by
  rw[g.block k (Nat.lt_of_lt_of_le hk hW.size) (by
   rcases h.2 with⟨rfl,_⟩|⟨b,cap,cur,rfl,hb,_⟩
   ·simp[Value.ownBlock]
   ·simp only[Value.ownBlock,ne_eq,Option.some.injEq];omega)]
  exact Turned.block hW k hk (fun q=>q)⟩
theorem kB:∃i:TypeInfo,Tryz.prog.info? 3=some i∧i.zero=some (.int .i64 0)∧i.size=1∧i.bytes=8:=by
 have h1:(Tryz.prog.info? 3).map (·.size)=some 1:=by kernel_rfl
 have h2:(Tryz.prog.info? 3).bind (·.zero)=some (.int .i64 0):=by kernel_rfl
 have h3:(Tryz.prog.info? 3).map (·.bytes)=some 8:=by kernel_rfl
 cases q:Tryz.prog.info? 3 with
 |none=>rw[q] at h1;simp at h1
 |some i=>rw[q] at h1 h2 h3;exact⟨i,rfl,by simpa using h2,by simpa using h1,by simpa using h3⟩
def Rw (base:Nat)(w:World)(v:Value)(xs:List Int):Prop:=w.ownsRow base 3 1 v xs.length (xs.map (Value.int .i64))
theorem Rw.nil (base:Nat)(w:World):Rw base w (.slice none 0 0) []:=World.ownsRow_nil w base _ 1
theorem Rw.more {base:Nat}{w w':World}{v:Value}{xs:List Int}(h:Rw base w v xs)(hW:ae w w'):Rw base w' v xs:=pp h hW
theorem Rw.mono {base base':Nat}{w:World}{v:Value}{xs:List Int}(h:Rw base w v xs)(hb:base'≤base):Rw base' w v xs:=by
 refine⟨h.1,?_⟩
 rcases h.2 with q|⟨g,cap,cur,h1,h2,h3,h4⟩
 ·exact .inl q
 ·exact .inr ⟨g,cap,cur,h1,by omega,h3,h4⟩
theorem Rw.reads {base:Nat}{w:World}{v:Value}{xs:List Int}(h:Rw base w v xs):
 ∃a cap,v=.slice a xs.length cap∧∀k,k<xs.length→∃g,a=some ⟨g,0,none⟩∧base≤g∧g<w.heap.size∧∀j,j<xs.length→w.cell? ⟨g,j,none⟩=some (.int .i64 (xs.getD j 0)):=by
 rcases h.2 with⟨rfl,h0⟩|⟨g,cap,cur,rfl,hb,hg,_,_,hs,ht⟩
 ·exact⟨none,0,by rw[h0],fun k hk=>by omega⟩
 ·refine⟨_,cap,rfl,fun k hk=>⟨g,rfl,hb,ac hg,fun j hj=>?_⟩⟩
  rw[World.cell?_of_block (w:=w) (w':=w) rfl]
  have e:cur.toList[j]?=some (.int .i64 (xs.getD j 0)):=by
   have h1:(cur.toList.take (xs.length * 1))[j]?=some (.int .i64 (xs.getD j 0)):=by
    rw[ht,List.getElem?_map,List.getElem?_eq_getElem hj];simp[List.getD,hj]
   rw[List.getElem?_take,if_pos (by omega)] at h1
   exact h1
  simp[World.cell?,hg]
  simpa using e
def GH (w:World)(xs:List Int)(e:Ending)(w':World):Prop:=∃v,e=.returned v∧Rw w.heap.size w' v xs∧ae w w'
theorem vx (xs:List Int)(v1 v2:Value)(b1 b2:Nat)(w:World)(hl:xs.length≤1000000)(h1:Rw b1 w v1 xs)(h2:Rw b2 w v2 xs):
 Calls Tryz.prog 35 #[v1,v2] w (aQ w (.bool true)):=by
 obtain⟨a1,c1,rfl,r1⟩:=h1.reads
 obtain⟨a2,c2,rfl,r2⟩:=h2.reads
 clear h1 h2
 have HM:Hq (ae w w):=ae.refl w
 by_cases h0:xs.length=0
 ·rw[h0]
  clear r1 r2 h0 hl
  go_enter Tryz.func35,Tryz.ntmps35
  go_wp2_with fail
  go_loop [5] (fun i=>i=.int .i64 0) (fun _=>0)
  case atStart=>rfl
  case round =>
   obtain rfl:=hrel
   go_wp2_with fail
   go_ret
   exact⟨rfl,HM.o⟩
 ·obtain⟨g1,rfl,_,hg1,q1⟩:=r1 0 (by omega)
  obtain⟨g2,rfl,_,hg2,q2⟩:=r2 0 (by omega)
  have H1:=hQQ q1
  have H2:=hQQ q2
  clear r1 r2 q1 q2
  go_enter Tryz.func35,Tryz.ntmps35
  go_wp2_with fail
  go_loopw [5] (fun i wr=>∃k:Nat,k≤xs.length∧i=.int .i64 k∧ae w wr) (fun i _=>xs.length-(intOf i).toNat)
  case atStart=>exact⟨0,Nat.zero_le _,rfl,HM.o⟩
  case round =>
   obtain⟨k,hk,rfl,ht⟩:=hrel
   by_cases hlt:k<xs.length
   ·have x1:=ht.cell (H1.o k hlt)
    have x2:=ht.cell (H2.o k hlt)
    have Ht:=hQQ ht
    clear ht
    generalize xs.getD k 0=z at x1 x2
    go_wp2_with fail
    go_quiet (fail)
    go_wp2_with fail
    go_roundw
    case rel=>exact⟨k+1,by omega,by go_num,Ht.o.drewN _⟩
    case measure=>simp[intOf];omega
   ·go_wp2_with fail
    go_ret
    exact⟨rfl,ht⟩
open Go.Sort Go.Maps Go.Shelf
def jW (w:World)(a:Option Addr)(zs:List Int):Prop :=
 zs= []∨∃s o,a=some ⟨s,o,none⟩∧s<w.heap.size∧∀i,i<zs.length→w.cell? ⟨s,o+i,none⟩=some (.int .i64 (zs.getD i 0))
theorem rc (a:Option Addr)(cap:Nat)(zs:List Int)(w:World)(h:jW w a zs)(hl:zs.length≤1000000):
 Calls Tryz.prog 41 #[.slice a zs.length cap] w fun e w'=>∃a' cap',e=.returned (.slice a' zs.length cap')∧RowAt w' 3 (zs.map (Value.int .i64)) a' cap'∧(∀k,dc a' k→w.heap.size≤k)∧ae w w':=by
 have fin:∀ {v':Value} {w':World},w'.ownsRow w.heap.size 3 1 v' zs.length (zs.map (Value.int .i64))→Below w.heap.size w w'→∃a' cap',Ending.returned v'= .returned (.slice a' zs.length cap')∧RowAt w' 3 (zs.map (Value.int .i64)) a' cap'∧(∀k,dc a' k→w.heap.size≤k)∧ae w w':=by
  intro v' w' ho hb
  obtain⟨a',cap',rfl,hr,hn,_⟩:=RowAt.of_own ho
  exact⟨a',cap',rfl,hr,hn,kj hb⟩
 cases a with
 |none =>
  obtain rfl:zs= []:=by
   rcases h with h|⟨s,o,h,_⟩
   ·exact h
   ·cases h
  refine(AnyG.slices_Clone_int_nil Tryz.lCloneN 0 cap w).mono ?_
  rintro e w' ⟨rfl,rfl⟩
  exact⟨none,0,rfl,RowAt.nil _ _,(fun k hk=>by cases hk),ae.refl _⟩
 |some b =>
  by_cases h0:zs= []
  ·subst h0
   refine(AnyG.slices_Clone_int_zero Tryz.lCloneN b cap w).mono ?_
   rintro e w' ⟨v',rfl,ho,_,hb⟩
   exact fin ho hb
  ·obtain⟨s,o,e,hs,hc⟩:=h.resolve_left h0
   cases e
   refine(AnyG.slices_Clone_int Tryz.lCloneN s o zs.length cap zs w (Nat.le_refl _) (by omega) hc).mono ?_
   rintro e w' ⟨v',rfl,ho,_,hb⟩
   rw[List.take_length] at ho
   exact fin ho hb
def jA (w:World)(zs:List Int)(D:List KV)(a:Option Addr)(cap:Nat)(vn:Value)(e:Ending)(w':World):Prop :=
 Turned (dc a) w w'∧((ky zs D=true∧e=.returned (.tuple #[.slice a zs.length cap,vn,.int .i64 0])∧RowAt w' 3 ((cy zs D).map (Value.int .i64)) a cap) ∨
  (ky zs D=false∧e=.returned (.tuple #[.slice none 0 0,.slice none 0 0,.int .i64 3])))
theorem vy (zs:List Int)(D:List KV)(a ad an:Option Addr)(cap cd n cn:Nat)(w:World)(hr:RowAt w 3 (zs.map (Value.int .i64)) a cap)(hd:pk w ad D)(hl:D.length≤1000000)(hz:zs.length≤1000000)(hD:OkD D)(hne:∀k,iJ ad k→¬dc a k):
 Calls Tryz.prog 43 #[.slice a zs.length cap,.slice an n cn,.slice ad D.length cd] w (jA w zs D a cap (.slice an n cn)):=by
 have HR:=hQQ hr;have HD:=hQQ hd;have HO:=hQQ hD;have HN:=hQQ hne
 clear hr hd hD hne
 go_enter Tryz.func43,Tryz.ntmps43
 go_wp2_with fail
 go_loopw [13] (fun u wr=>∃i:Nat,u=.int .i64 i∧i≤D.length∧ky zs (D.take i)=true∧RowAt wr 3 ((cy zs (D.take i)).map (Value.int .i64)) a cap∧Turned (dc a) w wr) (fun u _=>D.length-(intOf u).toNat)
 case atStart=>exact⟨0,rfl,by omega,rfl,HR.o,Turned.refl _ _⟩
 case round =>
  obtain⟨i,rfl,hi,hf,hr,ht⟩:=hrel
  have HF:=hQQ hf;have HR2:=hQQ hr;have HT:=hQQ ht
  clear hf hr ht
  by_cases hlt:i<D.length
  ·obtain⟨⟨k,v⟩,hp⟩:∃p,D[i]?=some p:=⟨_,List.getElem?_eq_getElem hlt⟩
   obtain⟨s,o,rfl,hs,hc⟩:=(HD.o.keep HT.o HN.o).resolve_left (by intro q;rw[q] at hlt;simp at hlt)
   obtain⟨c0,c1⟩:=hc i _ hp
   simp only at c0 c1
   obtain⟨hk0,_,_⟩:=HO.o _ (List.mem_of_getElem? hp)
   simp only at hk0
   have HP:=hQQ hp
   clear hc hp
   by_cases hk:k<zs.length
   ·obtain⟨j,rfl⟩:∃j:Nat,k=j:=⟨k.toNat,by omega⟩
    have d1:decide ((zs.length:Int)≤(j:Int))=false:=by simp;omega
    have hj:j<zs.length:=by omega
    have hlen:=d7 (D.take i) zs
    have hrow:=HR2.o
    rcases hrow with⟨rfl,rfl,hx⟩|⟨g,cur,rfl,hg,hn,hm,hsz,htk⟩
    ·have:=congrArg List.length hx;rw[List.length_map,hlen,List.length_nil] at this;omega
    have hgl:=ac hg
    have hcell:wr.cell? ⟨g,j,none⟩=cur[j]? :=by simp[World.cell?,hg]
    have hcell2:∃u,wr.cell? ⟨g,j,none⟩=some u:=by
     have:j<cur.size:=by rw[List.length_map,hlen] at hn;omega
     exact⟨cur[j],by rw[hcell,Array.getElem?_eq_getElem this]⟩
    obtain⟨u0,hu⟩:=hcell2
    have hfr:wr.frozen? ⟨g,j,none⟩=false:=by simp[World.frozen?,hg]
    have NX:Hq (ky zs (D.take (i+1))=true∧RowAt ((wr.setCell ⟨g,j,none⟩ (.int .i64 v)).alloc (.cells #[.int .i64 (j:Int),.int .i64 v] 88)) 3 ((cy zs (D.take (i+1))).map (Value.int .i64)) (some ⟨g,0,none⟩) cap∧Turned (dc (some ⟨g,0,none⟩)) w ((wr.setCell ⟨g,j,none⟩ (.int .i64 v)).alloc (.cells #[.int .i64 (j:Int),.int .i64 v] 88))):=hQQ (by
     rw[Ed HP.o,AH,yw,HF.o]
     refine⟨by simp;omega,?_,(bF HT.o (fun _=>rfl) _).alloc _⟩
     have r2:=vd (i:=j) (.int .i64 v) HR2.o (by simp[hlen];omega)
     have r3:=r2.keep ((ae.refl _).alloc (.cells #[.int .i64 (j:Int),.int .i64 v] 88)) (fun _ _ q=>q)
     simpa [List.map_set] using r3)
    clear hn hm hsz htk hg hcell hk
    go_wp2_with fail
    go_roundw
    case rel=>exact⟨i+1,by go_num,by omega,NX.o.1,NX.o.2.1,NX.o.2.2⟩
    case measure=>simp[intOf];omega
   ·have d1:decide ((zs.length:Int)≤k)=true:=by simp;omega
    have FIN:Hq (∀w',ae wr w'→jA w zs D a cap (.slice an n cn) (.returned (.tuple #[.slice none 0 0,.slice none 0 0,.int .i64 3])) w'):=hQQ fun w' t=>⟨ak (F':=fun _=>False) HT.o t (fun _ q=>q.elim),.inr ⟨Ee HP.o hk,rfl⟩⟩
    have HM:Hq (∀o,ae wr (wr.alloc o)):=hQQ fun o=>(ae.refl wr).alloc o
    clear hk
    go_wp2_with fail
    go_ret3
    exact FIN.o _ (HM.o _)
  ·obtain rfl:i=D.length:=by omega
   have FIN:Hq (jA w zs D a cap (.slice an n cn) (.returned (.tuple #[.slice a zs.length cap,.slice an n cn,.int .i64 0])) wr):=hQQ ⟨HT.o,.inl ⟨by have:=HF.o;rwa [List.take_length] at this,rfl,by have:=HR2.o;rwa [List.take_length] at this⟩⟩
   go_wp2_with fail
   go_ret3
   exact FIN.o
def rd:Value→Nat
 | .slice _ n _=>n
 | _=>0
structure OU (w wb wr:World)(M:Nat)(zs:List Int)(sem:List KV→Ran)(R:Option (List Int×List KV))(K:List KV)(v:Value):Prop where
 okn:jU zs K
 res:doP sem zs (zs.length+1-K.length) K=R
 row:PRw wb.heap.size wr v K
 known:KnownAt wr M K.length (look K)
 turn:Turned (fun k=>k=M) wb wr
theorem KnownAt.of_block {w w':World}{M n:Nat}{kn:Int→Option Int}(h:KnownAt w M n kn)(e:∀ob,w.heap[M]?=some ob→w'.heap[M]?=some ob):KnownAt w' M n kn:=by
 obtain⟨D,⟨es,clock,hb,F⟩,hk⟩:=h
 exact⟨D,⟨es,clock,e _ hb,F⟩,hk⟩
def jc (w:World)(F S:Nat→Prop)(Y X:World→Prop)(p:Nat)(kn:Int→Option Int)(R:Ran)(e:Ending)(w':World):Prop :=
 match R with
 | .need a=>e=.panicked (bB p)∧bJ w' p a∧Turned (fun k=>F k∨S k) w w'∧Y w'
 | .done D=>e=.returned (.tuple #[])∧(∃F',aF w' F' p kn D)∧Turned (fun k=>F k∨S k) w w'∧Y w'∧X w'
def Oc (w:World)(S:Nat→Prop)(Y X:World→Prop)(R:Ran)(e:Ending)(w':World):Prop :=
 match R with
 | .need a=>e=.returned (.tuple #[.int .i64 a,.slice none 0 0])∧Turned S w w'∧Y w'
 | .done D=>∃v p,e=.returned (.tuple #[.int .i64 (-1),v])∧PRw w.heap.size w' v D∧Turned S w w'∧Y w'∧X w'∧bJ w' p (-1)
theorem JM (kn:Int→Option Int)(R:Ran)(M n:Nat)(w:World)(hk:KnownAt w M n kn)(f:Nat)(cap:Array Value)(S:Nat→Prop)(Y X:World→Prop)
 (henter:∀args w,Sem.run Tryz.prog (callFunc f args) w=.ok (.enter f args) w) (hS:∀k,S k→k<w.heap.size) (hY:∀w' w'',Y w'→Turned (fun k=>w.heap.size≤k) w' w''→Y w'') (hX:∀w' w'',X w'→Turned (fun k=>w.heap.size≤k) w' w''→X w'') (hY0:Y w)
 (hprog:∀(W:World) (F:Nat→Prop) (p:Nat),ae w W→Y W→aF W F p kn []→(∀k,F k→w.heap.size≤k)→Calls Tryz.prog f (#[.pointer (some ⟨p,0,none⟩)]++cap) W (jc W F S Y X p kn R)):
 Calls Tryz.prog 42 #[.map (some M),.func (.func f) #[] cap] w (Oc w S Y X R):=by
 have hq:∀w,Sem.run Tryz.prog (binOp BinOp.eql 52 (Value.func (.func f) #[] cap) Value.nilFunc) w=.ok (.bool false) w:=fun w=>lh w _ Tryz.underlying52 _ _ _
 have hmf:∀(fn:Fn) (first cap:Array Value) (w:World),(Instr.makeFunc fn first cap).run Tryz.prog w=.ok (.func fn first cap) w:=fun _ _ _ _=>rfl
 have HK:=hQQ hk
 have HS:=hQQ hS
 have HX:=hQQ hX
 have HY:=hQQ hY
 have HY0:=hQQ hY0
 have HP:=hQQ hprog
 clear hk hS hX hY hY0 hprog
 go_enter_defers Tryz.func42,Tryz.ntmps42
 go_wp2_with fail
 refine(Gt _).mono ?_
 rintro e w1 ⟨F0,q,rfl,m1,M1,n1⟩
 obtain⟨F,hbeg⟩:=yv HK.o m1 M1 n1
 have HB:=hQQ hbeg
 have hws:w.heap.size<w1.heap.size:=by have:=M1.size;simp at this;omega
 clear hbeg m1 M1 n1
 go_wp2_with fail
 change Calls _ _ _ ((w1.alloc (.cells (cC (some ⟨w1.heap.size,0,none⟩) M q (-1)) 110)).alloc (.cells #[.pointer (some ⟨w1.heap.size,0,none⟩)] 43)) _
 generalize (w1.alloc (.cells (cC (some ⟨w1.heap.size,0,none⟩) M q (-1)) 110)).alloc (.cells #[.pointer (some ⟨w1.heap.size,0,none⟩)] 43)=W at HB⊢
 generalize w1.heap.size+1=bv at HB⊢
 generalize w1.heap.size=p at HB⊢
 have hlw:Hq (∀k,k<w.heap.size→k≠bv∧k≠p):=hQQ fun k hk=>by have:=HB.o.lv;have:=HB.o.lp;omega
 clear hws
 refine(HP.o W F p HB.o.more (HY.o _ _ HY0.o (Turned.mono HB.o.more (fun _ _ q=>q.elim))) HB.o.view HB.o.new).mono ?_
 intro e w2 he
 cases R with
 |need a =>
  obtain⟨rfl,hd,ht,hy⟩:=he
  obtain⟨hv2,hn2,ne1,ne2⟩:=rT HB.o HS.o ht
  change bodyPostD _ _ _ (Exit.panic (bB p)) _ _
  refine leaves_cons (f:=77) (args:=#[.pointer (some ⟨bv,0,none⟩),.pointer (some ⟨w.heap.size,0,none⟩)]) (by simp) (by simp[go_sem]) ?_
  refine(vu p bv w.heap.size a 0 w2 hd hv2 hn2 ne1 ne2 HB.o.vn).mono ?_
  rintro e u' w3 ⟨rfl,rfl,hc⟩
  obtain⟨b0,_,_⟩:=aA hc.2.1
  have FIN:Turned S w w3∧Y w3:=⟨pl HB.o ht hc.2.2,HY.o _ _ hy (hc.2.2.mono (fun k _ q=>by have:=HB.o.lp;rcases q with q|q<;>omega))⟩
  simp[Leaves,settle,results,Tryz.results42,go_sem,b0]
  exact⟨rfl,FIN⟩
 |done D =>
  obtain⟨rfl,⟨F',hv⟩,ht,hy,hx⟩:=he
  obtain⟨hv2,hn2,ne1,ne2⟩:=rT HB.o HS.o ht
  obtain⟨M',q',n',F0',hp2,hk2,hm2,fp2,f02,fM2⟩:=hv.ex
  obtain⟨c0,c1,c2,c3,cf,cl⟩:=cX hp2
  obtain⟨v0,vf,vl⟩:=aA hv2
  have TOLD:=hQQ (CT F0' p q' D w2 c2 hm2)
  have HT:=hQQ ht
  have HX2:=hQQ hx
  have HY2:=hQQ hy
  have HP2:=hQQ hp2
  have HV2:=hQQ hv2
  have HN2:=hQQ hn2
  clear hv hk2 hm2 fp2 f02 fM2 hp2 hv2 hn2 ht hx hy
  go_wp2_with fail
  refine TOLD.o.mono ?_
  rintro e w3 ⟨v,rfl,hr,hm3⟩
  obtain⟨n0,nf,nl⟩:=aA (hm3.block HN2.o)
  have HR:=hQQ hr
  have HM3:=hQQ hm3
  clear hr hm3
  go_wp2_with fail
  have t4:Turned (fun k=>k=p∨k=w.heap.size) w3 (w3.setCell ⟨w.heap.size,0,none⟩ (.int .i64 (-1))):=bF (Turned.refl _ w3) (fun _=> .inr rfl) _
  have hp4:(w3.setCell ⟨w.heap.size,0,none⟩ (.int .i64 (-1))).heap[p]?=_:=(Below.heap_setCell _ _ _ _ (Ne.symm ne2)).trans (HM3.o.block HP2.o)
  have hv4:(w3.setCell ⟨w.heap.size,0,none⟩ (.int .i64 (-1))).heap[bv]?=_:=(Below.heap_setCell _ _ _ _ HB.o.vn).trans (HM3.o.block HV2.o)
  have hn4:=li (.int .i64 (-1)) (HM3.o.block HN2.o)
  have hm3:=HM3.o
  have hr:=HR.o
  have hlp2:=cl
  have hln2:w.heap.size<w2.heap.size:=ac HN2.o
  generalize w3.setCell ⟨w.heap.size,0,none⟩ (.int .i64 (-1))=w4 at t4 hp4 hv4 hn4⊢
  refine leaves_cons (f:=77) (args:=#[.pointer (some ⟨bv,0,none⟩),.pointer (some ⟨w.heap.size,0,none⟩)]) (by simp) (by simp[go_sem]) ?_
  refine(sL p bv w.heap.size M' q' (-1) w4 hp4 hv4 hn4 ne1 ne2 HB.o.vn).mono ?_
  rintro e u' w5 ⟨rfl,rfl,hc⟩
  obtain⟨b0,_,_⟩:=aA hc.2.1
  have t35:Turned (fun k=>k=p∨k=w.heap.size) w3 w5:=t4.trans hc.2.2
  have FIN:Oc w S Y X (.done D) (.returned (.tuple #[.int .i64 (-1),v])) w5:=by
   refine⟨v,p,rfl,(hr.keep t35 (fun k hk q=>by rcases q with q|q<;>omega)).mono (by omega),?_,?_,?_,hc.1⟩
   ·exact pl HB.o HT.o ((Turned.mono hm3 (fun _ _ q=>q.elim)).trans t35)
   ·have hlp:=HB.o.lp
    exact HY.o w2 w5 HY2.o ((Turned.mono hm3 (fun _ _ q=>q.elim)).trans (t35.mono (fun k _ q=>by rcases q with q|q<;>omega)))
   ·have hlp:=HB.o.lp
    exact HX.o w2 w5 HX2.o ((Turned.mono hm3 (fun _ _ q=>q.elim)).trans (t35.mono (fun k _ q=>by rcases q with q|q<;>omega)))
  simp[Leaves,settle,results,Tryz.results42,go_sem,b0]
  exact FIN
theorem pq {ops:Array Oper}{rest:List Oper}{o:Oper}{a:Act}{Q:Exit→Act→World→Prop}{S:Nat→Prop}{w wa:World}{v:Value}{ps:List KV}(p q:Int)(hgd:o.guard=none)(s x:Operand)
 (ho:o.op=.call { callee:= .builtin .append,args:= #[s,x],argTypes:= #[39,39] })
 (hs:a.eval s=v) (hn:PRw wa.heap.size w v ps) (hW:Turned S wa w) (hl:ps.length≤1000000)
 (hx:a.eval x=.slice (some ⟨w.heap.size,0,none⟩) 1 1)
 (h:∀g cap w',PRw wa.heap.size w' (.slice (some ⟨g,0,none⟩) (ps.length+1) cap) (ps++ [(p,q)])→Turned S wa w'→(∀k ob,w.heap[k]?=some ob→v.ownBlock≠some k→w'.heap[k]?=some ob)→Turned (fun k=>v.ownBlock=some k) w w'→wpList Tryz.prog ops Q rest (a.put o.dst (.slice (some ⟨g,0,none⟩) (ps.length+1) cap)) w'):wpList Tryz.prog ops Q (o::rest) a (w.alloc (.cells #[.int .i64 p,.int .i64 q] 88)):=by
 obtain⟨i,i1,i2,i3,i4⟩:=vt
 have hn':=hn.more ((ae.refl w).alloc (.cells #[.int .i64 p,.int .i64 q] 88))
 have hB:=bz w (.cells #[.int .i64 p,.int .i64 q] 88)
 refine wpList_append_lies _ hgd s x 39 ho wa.heap.size 88 i _ 2 16 Tryz.underlying39 i1 i2 i3 i4 rfl (by omega) v ps.length _ hs hn' ⟨w.heap.size,0,none⟩ 1 1 [.int .i64 p,.int .i64 q] hx (by simp)
  (fun j u hu=>World.news_of_block hB j u (by simpa using hu)) (by intro u hu;simp at hu;rcases hu with rfl|rfl<;>rfl) (by omega) (by simp only[maxLen];omega) (by omega) (by have:=hW.size;simp;omega) _ rfl ?_
 intro g cap w1 hown hgrow _ _
 have ht:Turned (fun k=>v.ownBlock=some k) w w1:=⟨hgrow.os,hgrow.tape,hgrow.output,Nat.le_trans (by simp) hgrow.size,fun k hk hne=>by
  rw[hgrow.block k (by simp;omega) (fun e=>hne e.symm),Below.heap_alloc _ _ _ hk]⟩
 refine h g cap w1 ?_ (iY (hW.alloc _) hn' hgrow) (fun k ob hk hne=>by rw[Turned.block ht k (ac hk) hne];exact hk) ht
 unfold PRw
 rw[List.length_append,jy]
 exact hown
def JN (w:World)(S:Nat→Prop)(Y X:World→Prop)(R:Option (List Int×List KV))(e:Ending)(w':World):Prop :=
 match R with
 |none=>e=.returned (.tuple #[.slice none 0 0,.slice none 0 0,.int .i64 3])∧Turned S w w'∧Y w'
 |some (ws,K)=>∃v1 v2,e=.returned (.tuple #[v1,v2,.int .i64 0])∧Rw w.heap.size w' v1 ws∧PRw w.heap.size w' v2 K∧Turned S w w'∧Y w'∧X w'
structure OnY (w wb wr:World)(S:Nat→Prop)(Y:World→Prop)(M:Nat)(zs:List Int)(sem:List KV→Ran)(R:Option (List Int×List KV))(K:List KV)(v:Value):Prop where
 okn:jU zs K
 res:doP sem zs (zs.length+1-K.length) K=R
 row:PRw wb.heap.size wr v K
 known:KnownAt wr M K.length (look K)
 turn:Turned (fun k=>k=M∨S k) wb wr
 y:Y wr
theorem JO {w wb wr w2 w3:World}{S:Nat→Prop}{Y X:World→Prop}{M:Nat}{zs:List Int}{sem:List KV→Ran}{R:Option (List Int×List KV)}{K D:List KV}{a' an:Option Addr}{cap' cn:Nat}{e:Ending}(h:OnY w wb wr S Y M zs sem R K (.slice an K.length cn))(hs:sem K=.done D)(mb:ae w wb)(hM:w.heap.size≤M)
 (hl:∀k,dc a' k→w.heap.size≤k∧k<wb.heap.size) (hS:∀k,S k→k<w.heap.size) (m2:Turned S wr w2) (hf:jA w2 zs D a' cap' (.slice an K.length cn) e w3)
 (hY:∀w' w'',Y w'→Turned (fun k=>w.heap.size≤k) w' w''→Y w'') (hX:∀w' w'',X w'→Turned (fun k=>w.heap.size≤k) w' w''→X w'') (y2:Y w2) (x2:X w2):JN w S Y X R e w3:=by
 have hR:=yz h.okn hs h.res
 have mbS:Turned S w wb:=Turned.mono mb (fun _ _ q=>q.elim)
 have t3:Turned S w w3:=by
  have t1:Turned S w wr:=ak mbS h.turn (fun k q=>by rcases q with q|q;exact .inr (by omega);exact .inl q)
  exact ak (ak t1 m2 (fun k q=> .inl q)) hf.1 (fun k q=> .inr (hl k q).1)
 have t23:Turned (fun k=>w.heap.size≤k) w2 w3:=hf.1.mono (fun k _ q=>(hl k q).1)
 rcases hf.2 with⟨h1,h2,h3⟩|⟨h1,h2⟩
 ·rw[hR,if_pos h1]
  have hlen:(cy zs D).length=zs.length:=d7 D zs
  refine⟨_,_,h2,?_,?_,t3,hY _ _ y2 t23,hX _ _ x2 t23⟩
  ·have:=h3.own (base:=w.heap.size) (fun k q=>(hl k q).1)
   unfold Rw
   rw[List.length_map,hlen] at this
   rw[hlen];exact this
  ·have hb:=mb.size
   exact((h.row.keep m2 (fun k hk q=>by have:=hS k q;omega)).keep hf.1 (fun k hk q=>by have:=(hl k q).2;omega)).mono mb.size
 ·rw[hR,h1]
  exact⟨h2,t3,hY _ _ y2 t23⟩
theorem Mg (a:Option Addr)(cap:Nat)(zs:List Int)(sem:List KV→Ran)(R:Option (List Int×List KV))(b:Nat)(w:World)(hz:jW w a zs)(hlen:zs.length≤1000)(hok:OkW zs)(hfine:wQ zs b sem)(hb:b≤100000)(hR:doP sem zs (zs.length+1) []=R)(f:Nat)(clo:Array Value)(S:Nat→Prop)(Y X:World→Prop)(hS:∀k,S k→k<w.heap.size)
 (hY:∀w' w'',Y w'→Turned (fun k=>w.heap.size≤k) w' w''→Y w'') (hX:∀w' w'',X w'→Turned (fun k=>w.heap.size≤k) w' w''→X w'') (hY0:Y w)
 (henter:∀args w,Sem.run Tryz.prog (callFunc f args) w=.ok (.enter f args) w)
 (hprog:∀(K:List KV),jU zs K→∀(W:World) (F:Nat→Prop) (p:Nat),Turned S w W→Y W→aF W F p (look K) []→(∀k,F k→w.heap.size≤k)→Calls Tryz.prog f (#[.pointer (some ⟨p,0,none⟩)]++clo) W (jc W F S Y X p (look K) (sem K))):
 Calls Tryz.prog 9 #[.slice a zs.length cap,.func (.func f) #[] clo] w (JN w S Y X R):=by
 have hmm:= @run_makeMap Tryz.prog
 have CL:=hQQ (rc a cap zs w hz (by omega))
 have HOK:=hQQ hok
 have HF:=hQQ hfine
 have HR0:=hQQ hR
 have HE:=hQQ henter
 have HP:=hQQ hprog
 have HSS:=hQQ hS
 have HY:=hQQ hY
 have HX:=hQQ hX
 have HY0:=hQQ hY0
 clear hz hok hfine hR henter hprog hS hY hX hY0
 go_enter Tryz.func9,Tryz.ntmps9
 go_wp2_with fail
 refine CL.o.mono ?_
 rintro e w1 ⟨a',cap',rfl,hr1,hn1,hm1⟩
 have DO0:Hq (OnY w (w1.alloc (.map #[] 0)) (w1.alloc (.map #[] 0)) S Y w1.heap.size zs sem R [] (.slice none 0 0)):=hQQ
  ⟨po zs,HR0.o,PRw.nil _ _,KnownAt.made w1,Turned.refl _ _,HY.o _ _ HY0.o (Turned.mono (hm1.alloc _) (fun _ _ q=>q.elim))⟩
 have MB:Hq (ae w (w1.alloc (.map #[] 0))):=hQQ (hm1.alloc _)
 have RB:=hQQ (hr1.keep ((ae.refl w1).alloc (.map #[] 0)) (fun _ _ q=>q))
 have HL:Hq (∀k,dc a' k→w.heap.size≤k∧k<(w1.alloc (.map #[] 0)).heap.size∧k≠w1.heap.size):=hQQ fun k q=>⟨hn1 k q,by have:=hr1.lt k q;simp;omega,by have:=hr1.lt k q;omega⟩
 have hwM:w.heap.size≤w1.heap.size:=hm1.size
 have hMb:w1.heap.size<(w1.alloc (.map #[] 0)).heap.size:=by simp
 clear hr1 hn1 hm1 CL
 go_wp2_with fail
 generalize w1.alloc (.map #[] 0)=wb at DO0 MB RB HL hMb⊢
 generalize w1.heap.size=M at DO0 HL hwM hMb⊢
 go_loopw [8] (fun u8 wr=>∃K,OnY w wb wr S Y M zs sem R K u8∧rd u8=K.length) (fun u8 _=>zs.length+1-rd u8)
 case atStart=>exact⟨[],DO0.o,rfl⟩
 case round =>
  obtain⟨K,hdo,hln⟩:=hrel
  obtain⟨an,cn,rfl,hpn,_⟩:=hdo.row.reads
  have DO:=hQQ hdo
  have hKl:=hdo.okn.len
  have hsz:w.heap.size≤wr.heap.size:=Nat.le_trans MB.o.size hdo.turn.size
  have hmr:Turned S w wr:=ak (Turned.mono MB.o (fun _ _ q=>q.elim)) hdo.turn (fun k q=>by rcases q with q|q;exact .inr (by omega);exact .inl q)
  have LS:=hQQ (fun k (q:S k)=>HSS.o k q)
  have RUN:=hQQ (JM (look K) (sem K) M K.length wr hdo.known f clo S Y X HE.o (fun k q=>Nat.lt_of_lt_of_le (HSS.o k q) hsz) (fun w' w'' h t=>HY.o w' w'' h (t.mono (fun k _ q=>Nat.le_trans hsz q))) (fun w' w'' h t=>HX.o w' w'' h (t.mono (fun k _ q=>Nat.le_trans hsz q))) hdo.y
   (fun W F p m y v n=>HP.o K hdo.okn W F p (ak (F':=fun _=>False) hmr m (fun _ q=>q.elim)) y v (fun k hk=>Nat.le_trans hsz (n k hk))))
  have HFK:=hQQ (HF.o K hdo.okn)
  have RW:Hq (RowAt wr 3 (zs.map (Value.int .i64)) a' cap'):=hQQ (RB.o.keep hdo.turn (fun k q e=>by rcases e with e|e;exact(HL.o k q).2.2 e;have:=HSS.o k e;have:=(HL.o k q).1;omega))
  clear hdo hpn hmr hsz DO0 hln
  go_wp2_with fail
  refine RUN.o.mono ?_
  intro e w2 he
  cases hs:sem K with
  |need x =>
   rw[hs] at he
   obtain⟨rfl,hm2,hy2⟩:=he
   have HS:=hQQ hs
   have hx0:0≤x:=by have:=HFK.o;rw[hs] at this;exact this.1
   clear hs RUN
   obtain⟨j,rfl⟩:∃j:Nat,x=j:=⟨x.toNat,by omega⟩
   have HM2:Hq (Turned S wr w2):=hQQ hm2
   have Y2:=hQQ hy2
   have nSM:¬S M:=fun q=>by have:=HSS.o M q;omega
   have nSa:∀k,dc a' k→¬S k:=fun k q r=>by have:=HSS.o k r;have:=(HL.o k q).1;omega
   have bW:w.heap.size≤wb.heap.size:=MB.o.size
   clear hm2 hy2
   have HFJ:=HFK.o
   rw[HS.o] at HFJ
   by_cases hj:j<zs.length
   ·obtain⟨q1,q2,q3,q4⟩:=yx DO.o.okn HFK.o HS.o (by omega) DO.o.res
    have d1:decide ((zs.length:Int)≤(j:Int))=false:=by simp;omega
    have d3:decide (zs.length≤j)=false:=by simp;omega
    have d2:decide ((j:Int)<0)=false:=by simp
    have hrow:=RW.o.keep HM2.o nSa
    obtain⟨g,rfl,hg,hcell,_⟩:=hrow.reads (by simp;omega)
    have hgM:g≠M:=(HL.o g rfl).2.2
    have cw:w2.cell? ⟨g,j,none⟩=some (.int .i64 (wAt zs j)):=by
     refine hcell j _ ?_
     unfold wAt
     rw[List.getElem?_map,List.getElem?_eq_getElem hj]
     simp[List.getD,hj]
    obtain⟨w3,hst,hk3,ht3⟩:=(DO.o.known.keep HM2.o nSM).store HFJ.2.1 (AI HOK.o j) (by unfold maxLen;omega)
    rw[vw q4] at hk3
    have T23:=hQQ ht3
    have K3:=hQQ hk3
    have cw3:=eh ht3 hgM cw
    have hg3:g<w3.heap.size:=Nat.lt_of_lt_of_le hg ht3.size
    have TB3:Hq (Turned (fun k=>k=M∨S k) wb w3):=hQQ ((ak DO.o.turn HM2.o (fun _ q=> .inl (.inr q))).trans (ht3.mono (fun _ _ q=> .inl q)))
    have YW3:Hq (Y w3):=hQQ (HY.o _ _ Y2.o (ht3.mono (fun k _ q=>by subst q;exact hwM)))
    have R3:Hq (PRw wb.heap.size w3 (.slice an K.length cn) K):=hQQ ((DO.o.row.keep HM2.o (fun k hk q=>by have:=HSS.o k q;omega)).keep ht3 (fun k hk e=>by omega))
    have NX:Hq (∀w4 v,PRw wb.heap.size w4 v (K++ [((j:Int),wAt zs j)])→Turned (fun k=>k=M∨S k) wb w4→(∀k ob,w3.heap[k]?=some ob→(Value.slice an K.length cn).ownBlock≠some k→w4.heap[k]?=some ob)→Y w4→OnY w wb w4 S Y M zs sem R (K++ [((j:Int),wAt zs j)]) v):=hQQ fun w4 v h1 h2 h3 h5 =>
     ⟨q1,q2,h1,by rw[List.length_append];exact K3.o.of_block (fun ob ho=>h3 M ob ho (fun e=>by have:=(DO.o.row.lt M e).1;omega)),h2,h5⟩
    clear hrow hcell hk3 ht3 q1 q2 q3 q4 HFJ
    generalize wAt zs j=z at cw hst cw3 NX
    go_wp2_with (at_builtin;refine pq (S:=fun k=>k=M∨S k) (wa:=wb) (ps:=K) (j:Int) z rfl _ _ rfl rfl R3.o TB3.o (by omega) rfl ?_;intro g4 c4 w4 h4 t4 k4 u4;have N4:=hQQ (NX.o _ _ h4 t4 k4 (HY.o _ _ YW3.o (u4.mono (fun k _ q=>Nat.le_trans bW (DO.o.row.lt k q).1))));clear h4 t4 k4 u4)
    go_roundw
    case rel=>exact⟨_,N4.o,by simp[rd]⟩
    case measure=>simp[rd];omega
   ·have hn:=CW DO.o.okn HS.o (by omega) DO.o.res
    subst hn
    have d1:decide ((zs.length:Int)≤(j:Int))=true:=by simp;omega
    have d3:decide (zs.length≤j)=true:=by simp;omega
    have d2:decide ((j:Int)<0)=false:=by simp
    have FIN:Hq (JN w S Y X none (.returned (.tuple #[.slice none 0 0,.slice none 0 0,.int .i64 3])) w2):=hQQ ⟨rfl,ak (ak (Turned.mono MB.o (fun _ _ q=>q.elim)) DO.o.turn (fun k q=>by rcases q with q|q;exact .inr (by omega);exact .inl q)) HM2.o (fun k q=> .inl q),Y2.o⟩
    clear HFJ hj
    go_wp2_with fail
    go_ret3
    exact FIN.o
  |done D =>
   rw[hs] at he
   obtain⟨v,p,rfl,hr,hm2,hy2,hx2,_⟩:=he
   have nSa:∀k,dc a' k→¬S k:=fun k q r=>by have:=HSS.o k r;have:=(HL.o k q).1;omega
   obtain⟨ad,cd,rfl,hpd,hbd⟩:=hr.reads
   have hfk:=HFK.o
   rw[hs] at hfk
   have FINI:=hQQ (vy zs D a' ad an cap' cd K.length cn w2 (RW.o.keep hm2 nSa) hpd (by have:=hfk.2.2;omega) (by omega) hfk.1 (fun k q r=>by have:=hbd k q;have:=(HL.o k r).2.1;have:=DO.o.turn.size;omega))
   have FIN:Hq (∀e w3,jA w2 zs D a' cap' (.slice an K.length cn) e w3→JN w S Y X R e w3):=hQQ fun e w3 h=>JO DO.o hs MB.o hwM (fun k q=>⟨(HL.o k q).1,(HL.o k q).2.1⟩) HSS.o hm2 h HY.o HX.o hy2 hx2
   clear hs RUN hr hm2 hpd hbd hfk hy2 hx2
   go_wp2_with fail
   refine FINI.o.mono ?_
   intro e w3 he
   have hfin:=FIN.o e w3 he
   rcases he.2 with⟨_,rfl,_⟩|⟨_,rfl⟩
   ·have F2:=hQQ hfin
    clear hfin he
    go_wp2_with fail
    go_ret3
    exact F2.o
   ·have F2:=hQQ hfin
    clear hfin he
    go_wp2_with fail
    go_ret3
    exact F2.o
inductive Res (α:Type) where
 |need (a:Int)
 |ok (x:α) (D:List KV)
abbrev Prg (α:Type):=(Int→Option Int)→List KV→Res α
def az {α:Type}(x:α):Prg α:=fun _ D=> .ok x D
def aq {α β:Type}(p:Prg α)(f:α→Prg β):Prg β:=fun kn D=>match p kn D with
 | .need a=> .need a
 | .ok x D'=>f x kn D'
def cT (a:Int):Prg Int:=fun kn D=>match dN kn D a with
 |none=> .need a
 |some y=> .ok y D
def cU (a x:Int):Prg Unit:=fun _ D=> .ok () (eE D a x)
def fY {α:Type} :Res α→Ran
 | .need a=> .need a
 | .ok _ D=> .done D
theorem ag {α β:Type}{p:Prg α}{f:α→Prg β}{kn:Int→Option Int}{D:List KV}{a:Int}(h:p kn D=.need a):aq p f kn D=.need a:=by unfold aq;rw[h]
theorem aj {α β:Type}{p:Prg α}{f:α→Prg β}{kn:Int→Option Int}{D D':List KV}{x:α}(h:p kn D=.ok x D'):aq p f kn D=f x kn D':=by unfold aq;rw[h]
theorem eZ {kn:Int→Option Int}{D:List KV}{a y:Int}(h:dN kn D a=some y):cT a kn D=.ok y D:=by unfold cT;rw[h]
theorem jB {kn:Int→Option Int}{D:List KV}{a:Int}(h:dN kn D a=none):cT a kn D=.need a:=by unfold cT;rw[h]
structure cI (n:Nat)(D:List KV):Prop where
 ok:OkD D
 asc:Asc D
 lt:∀p∈D,p.1<n
theorem dP (n:Nat):cI n []:=⟨JJ,CO,fun p h=>by cases h⟩
theorem cI.len {n:Nat}{D:List KV}(h:cI n D):D.length≤n:=by
 have hn:(D.map (·.1)).Nodup:=by
  have:=h.asc
  unfold Asc at this
  rw[List.Nodup,List.pairwise_map]
  exact this.imp (fun h=>by omega)
 have:=ma n (D.map (·.1)) hn fun x hx=>by
  obtain⟨p,hp,rfl⟩:=List.mem_map.1 hx
  exact⟨(h.ok p hp).1,h.lt p hp⟩
 simpa using this
theorem cI.fits {zs:List Int}{D:List KV}(h:cI zs.length D):ky zs D=true:=by
 unfold ky;rw[List.all_eq_true];intro p hp;simpa using h.lt p hp
theorem cI.write {n:Nat}{D:List KV}(h:cI n D){a x:Int}(ha:W64 a)(hn:a<n)(hx:W64 x):cI n (eE D a x):=
 ⟨Ea h.ok ha hx,Eb h.asc a x,fun p hp=>by
  unfold eE at hp
  split at hp
  ·exact h.lt p hp
  ·rcases yn hp with rfl|q
   ·exact hn
   ·exact h.lt p q⟩
def bZ {α:Type}(n:Nat)(Q:α→Prop)(p:Prg α):Prop:=∀kn D,OkK kn→cI n D→match p kn D with
 | .need a=>0≤a∧a<n∧kn a=none
 | .ok x D'=>cI n D'∧Q x
def bH {α:Type}(p:Prg α):Prop:=∀kn kn' D,(∀a v,kn a=some v→kn' a=some v)→(∃a,p kn D=.need a)∨p kn D=p kn' D
theorem ai {α:Type}(n:Nat){Q:α→Prop}{x:α}(h:Q x):bZ n Q (az x):=fun _ _ _ hD=>⟨hD,h⟩
theorem aw {α β:Type}{n:Nat}{Q:α→Prop}{Q':β→Prop}{p:Prg α}{f:α→Prg β}(h:bZ n Q p)(hf:∀x,Q x→bZ n Q' (f x)):bZ n Q' (aq p f):=fun kn D hk hD=>by
 have h1:=h kn D hk hD
 cases e:p kn D with
 |need a=>rw[ag e];rw[e] at h1;exact h1
 |ok x D'=>rw[aj e];rw[e] at h1;exact hf x h1.2 kn D' hk h1.1
theorem a6 (n:Nat){a:Int}(ha:a<n):bZ n W64 (cT a):=fun kn D hk hD=>by
 cases e:dN kn D a with
 |none=>rw[jB e];obtain⟨h0,_,h2⟩:=vi e;exact⟨h0,ha,h2⟩
 |some y=>rw[eZ e];exact⟨hD,CR hk hD.ok e⟩
theorem aR (n:Nat){a x:Int}(ha:W64 a)(hn:a<n)(hx:W64 x):bZ n (fun _=>True) (cU a x):=fun kn D hk hD=>⟨hD.write ha hn hx,trivial⟩
theorem d8 {α:Type}{n:Nat}{Q Q':α→Prop}{p:Prg α}(h:bZ n Q p)(hq:∀x,Q x→Q' x):bZ n Q' p:=fun kn D hk hD=>by
 have h1:=h kn D hk hD
 cases e:p kn D with
 |need a=>rw[e] at h1;exact h1
 |ok x D'=>rw[e] at h1;exact⟨h1.1,hq x h1.2⟩
theorem bZ.ok {α:Type}{n:Nat}{Q:α→Prop}{p:Prg α}(h:bZ n Q p){kn:Int→Option Int}{D:List KV}(hk:OkK kn)(hD:cI n D){x:α}{D':List KV}(e:p kn D=.ok x D'):cI n D'∧Q x:=by
 have:=h kn D hk hD;rw[e] at this;exact this
theorem ah {α:Type}(x:α):bH (az x):=fun _ _ _ _=> .inr rfl
theorem ar {α β:Type}{p:Prg α}{f:α→Prg β}(h:bH p)(hf:∀x,bH (f x)):bH (aq p f):=fun kn kn' D hk=>by
 rcases h kn kn' D hk with⟨a,e⟩|e
 ·exact .inl ⟨a,ag e⟩
 ·cases e1:p kn D with
  |need a=>exact .inl ⟨a,ag e1⟩
  |ok x D'=>rw[aj e1,aj (e.symm.trans e1)];exact hf x kn kn' D' hk
theorem dl (a:Int):bH (cT a):=fun kn kn' D hk=>by
 cases e:dN kn D a with
 |none=>exact .inl ⟨a,jB e⟩
 |some y =>
  refine .inr ?_
  rw[eZ e,eZ]
  unfold dN at e⊢
  split
  ·rename_i q;rw[if_pos q] at e;exact e
  ·rename_i q
   rw[if_neg q] at e
   cases e1:look D a with
   |none=>rw[e1] at e;simp at e⊢;exact hk a y e
   |some v=>rw[e1] at e;simpa using e
theorem c6 (a x:Int):bH (cU a x):=fun _ _ _ _=> .inr rfl
theorem aG {α:Type}{c:Prop} [Decidable c] {p q:Prg α}(h1:bH p)(h2:bH q):bH (if c then p else q):=by
 split
 ·exact h1
 ·exact h2
def sN (zs:List Int):Int→Option Int:=fun a=>if 0≤a∧a<zs.length then some (wAt zs a) else none
theorem jX {zs:List Int}(h:OkW zs):OkK (sN zs):=fun a v e=>by
 unfold sN at e
 split at e
 ·cases e;exact AI h a
 ·cases e
theorem sO {zs:List Int}{K:List KV}(h:jU zs K):∀a v,look K a=some v→sN zs a=some v:=fun a v e=>by
 obtain⟨h0,h1,h2⟩:=h.at' _ (pj e)
 simp only at h0 h1 h2
 unfold sN
 rw[if_pos ⟨h0,h1⟩,h2]
theorem sP {zs:List Int}{K:List KV}(h:jU zs K)(hz:OkW zs):OkK (look K):=fun a v e=>jX hz a v (sO h a v e)
theorem wR {α:Type}{zs:List Int}{p:Prg α}{Q:α→Prop}{x:α}{D:List KV}(hS:bH p)(hG:bZ zs.length Q p)(hz:OkW zs)(hf:p (sN zs) []=.ok x D):
 ∀(n:Nat) (K:List KV),jU zs K→zs.length+1=K.length+n→∃K',jU zs K'∧doP (fun K=>fY (p (look K) [])) zs n K=some (cy zs D,K')
 | 0,K,hK,hn=>by have:=hK.len;omega
 |n+1,K,hK,hn=>by
  have hg:=hG (look K) [] (sP hK hz) (dP _)
  have hD:=(hG.ok (jX hz) (dP _) hf).1
  unfold doP
  rcases hS (look K) (sN zs) [] (sO hK) with⟨a,e⟩|e
  ·rw[e] at hg⊢
   obtain⟨h0,h1,h2⟩:=hg
   simp only[fY]
   rw[if_pos h1]
   exact wR hS hG hz hf n _ (vv hK h0 h1 h2) (by simp;omega)
  ·rw[e,hf]
   simp only[fY]
   rw[if_pos hD.fits]
   exact⟨K,hK,rfl⟩
theorem sQ {α:Type}{zs:List Int}{p:Prg α}{x y:α}{D D':List KV}{K:List KV}(hS:bH p)(hK:jU zs K)(hf:p (sN zs) []=.ok x D)(h:p (look K) []=.ok y D'):y=x∧D'=D:=by
 rcases hS (look K) (sN zs) [] (sO hK) with⟨a,e⟩|e
 ·rw[h] at e;cases e
 ·rw[h,hf] at e;cases e;exact⟨rfl,rfl⟩
theorem wS {α:Type}{zs:List Int}{p:Prg α}{Q:α→Prop}(hG:bZ zs.length Q p)(hz:OkW zs)(hl:zs.length≤100000):wQ zs zs.length (fun K=>fY (p (look K) [])):=fun K hK=>by
 have hg:=hG (look K) [] (sP hK hz) (dP _)
 show Me (look K) _ (fY (p (look K) []))
 cases e:p (look K) [] with
 |need a=>rw[e] at hg;exact⟨hg.1,by have:=hg.2.1;unfold W64;constructor<;>omega,hg.2.2⟩
 |ok x D=>rw[e] at hg;exact⟨hg.1.ok,hg.1.asc,hg.1.len⟩
theorem oD {D:List KV}(hA:Asc D)(zs:List Int)(h0:∀p∈D,0≤p.1∧p.1<zs.length)(i:Int)(hi:0≤i∧i<zs.length):wAt (cy zs D) i=(look D i).getD (wAt zs i):=by
 induction D generalizing zs with
 |nil=>rfl
 |cons p D ih =>
  have hA':Asc D:=by unfold Asc at hA⊢;exact(List.pairwise_cons.1 hA).2
  have hp:=h0 p (by simp)
  show wAt (cy (zs.set p.1.toNat p.2) D) i=_
  rw[ih hA' _ (fun q hq=>by have:=h0 q (by simp[hq]);simpa using this) (by simpa using hi)]
  rw[gE]
  by_cases e:p.1=i
  ·rw[if_pos e]
   have hn:look D i=none:=iA.2 (fun q hq=>by
    unfold Asc at hA
    have:=(List.pairwise_cons.1 hA).1 q hq
    omega)
   rw[hn]
   subst e
   unfold wAt
   simp only[List.getD,Option.getD_some]
   rw[List.getElem?_set_self (by omega)]
   rfl
  ·rw[if_neg e]
   have:wAt (zs.set p.1.toNat p.2) i=wAt zs i:=by
    unfold wAt
    simp only[List.getD]
    rw[List.getElem?_set_ne (by omega)]
   rw[this]
theorem vz {xs ys:List Int}(hl:xs.length=ys.length)(h:∀i:Int,0≤i→i<xs.length→wAt xs i=wAt ys i):xs=ys:=by
 apply List.ext_getElem hl
 intro i h1 h2
 have:=h (i:Int) (by omega) (by omega)
 simpa [wAt,List.getD,h1,h2] using this
theorem dH {ws:List Int}{a x i:Int}(ha:0≤a)(hi:0≤i)(hn:a<ws.length):wAt (ws.set a.toNat x) i=if i=a then x else wAt ws i:=by
 unfold wAt
 simp only[List.getD]
 by_cases e:i=a
 ·subst e
  rw[if_pos rfl,List.getElem?_set_self (by omega)]
  rfl
 ·rw[if_neg e,List.getElem?_set_ne (by omega)]
theorem yA {n:Nat}{zs:List Int}{D:List KV}(hn:zs.length=n)(h:cI n D){a x:Int}(ha:0≤a)(hl:a<n)(hw:W64 a)(hx:W64 x):cy zs (eE D a x)=(cy zs D).set a.toNat x:=by
 have h2:=h.write hw hl hx
 subst hn
 apply vz
 ·simp[d7]
 ·intro i h0 h1
  rw[d7] at h1
  rw[oD h2.asc zs (fun p hp=>⟨(h2.ok p hp).1,h2.lt p hp⟩) i ⟨h0,h1⟩,dH ha h0 (by rw[d7];exact hl),
   oD h.asc zs (fun p hp=>⟨(h.ok p hp).1,h.lt p hp⟩) i ⟨h0,h1⟩]
  unfold eE
  rw[if_neg (by omega),qq h.asc]
  split<;>rfl
theorem yB {zs:List Int}{D:List KV}(h:cI zs.length D){a:Int}(h0:0≤a)(h1:a<zs.length):dN (sN zs) D a=some (wAt (cy zs D) a):=by
 rw[oD h.asc zs (fun p hp=>⟨(h.ok p hp).1,h.lt p hp⟩) a ⟨h0,h1⟩]
 unfold dN sN
 rw[if_neg (by omega),if_pos ⟨h0,h1⟩]
 cases look D a<;>rfl
def ci {α:Type}(n:Nat)(p:Prg α)(g:List Int→α×List Int):Prop:=∀zs D,zs.length=n→OkW zs→cI n D→∃D',p (sN zs) D=.ok (g (cy zs D)).1 D'∧cy zs D'=(g (cy zs D)).2∧cI n D'
theorem au {α:Type}(n:Nat)(x:α):ci n (az x) (fun ws=>(x,ws)):=fun zs D _ _ hD=>⟨D,rfl,rfl,hD⟩
theorem aC {α β:Type}{n:Nat}{p:Prg α}{f:α→Prg β}{g:List Int→α×List Int}{k:α→List Int→β×List Int}(h:ci n p g)(hf:∀x,ci n (f x) (k x)):ci n (aq p f) (fun ws=>k (g ws).1 (g ws).2):=fun zs D hn hz hD=>by
 obtain⟨D1,e1,a1,i1⟩:=h zs D hn hz hD
 obtain⟨D2,e2,a2,i2⟩:=hf (g (cy zs D)).1 zs D1 hn hz i1
 refine⟨D2,?_,?_,i2⟩
 ·rw[aj e1,e2,a1]
 ·rw[a2,a1]
theorem dI {n:Nat}{a:Int}(h0:0≤a)(h1:a<n):ci n (cT a) (fun ws=>(wAt ws a,ws)):=fun zs D hn hz hD=>by
 subst hn
 exact⟨D,eZ (yB hD h0 h1),rfl,hD⟩
theorem dm {n:Nat}{a x:Int}(h0:0≤a)(h1:a<n)(hw:W64 a)(hx:W64 x):ci n (cU a x) (fun ws=>((),ws.set a.toNat x)):=fun zs D hn hz hD =>
 ⟨_,rfl,yA hn hD h0 h1 hw hx,hD.write hw h1 hx⟩
theorem aX {α:Type}{n:Nat}{p:Prg α}{g k:List Int→α×List Int}(h:ci n p g)(e:∀ws,ws.length=n→g ws=k ws):ci n p k:=fun zs D hn hz hD=>by
 rw[←e (cy zs D) (by rw[d7];exact hn)]
 exact h zs D hn hz hD
theorem CX {α:Type}{zs:List Int}{p:Prg α}{Q:α→Prop}{g:List Int→α×List Int}(hS:bH p)(hG:bZ zs.length Q p)(hz:OkW zs)(hF:ci zs.length p g):
 ∃K,doP (fun K=>fY (p (look K) [])) zs (zs.length+1) []=some ((g zs).2,K)∧jU zs K∧∀K,jU zs K→∀y D,p (look K) []=.ok y D→y=(g zs).1:=by
 obtain⟨D,e,a,i⟩:=hF zs [] rfl hz (dP _)
 have e0:cy zs []=zs:=rfl
 rw[e0] at e a
 obtain⟨K,hK,hd⟩:=wR hS hG hz e (zs.length+1) [] (po zs) (by simp)
 exact⟨K,by rw[hd,a],hK,fun K hK y D' h=>(sQ hS hK e h).1⟩
theorem aF.keepS {w w':World}{F S:Nat→Prop}{p:Nat}{kn:Int→Option Int}{D:List KV}(h:aF w F p kn D)(ht:Turned S w w')(hs:∀k,F k→¬S k)(hM:∀k es cl,S k→w.heap[k]? ≠some (.map es cl)):aF w' F p kn D:=by
 obtain⟨M,q,n,F0,hp,hk,hm,fp,f0,fM⟩:=h.ex
 have nM:¬S M:=by
  obtain⟨D',⟨es,clock,hb,_⟩,_⟩:=hk
  intro q
  exact hM M _ _ q hb
 exact⟨⟨M,q,n,F0,by rw[Turned.block ht p (ac hp) (hs p fp)];exact hp,hk.keep ht nM,hm.keep ht (fun k q=>hs k (f0 k q).1),fp,f0,fM⟩,fun k hk=>Nat.lt_of_lt_of_le (h.lt k hk) ht.size⟩
theorem eV {W:World}{g:Nat}{v:Value}{t:TypeId}(h:W.heap[g]?=some (.cells #[v] t (0,0)))(z:Value):(W.setCell ⟨g,0,none⟩ z).heap[g]?=some (.cells #[z] t (0,0)):=by
 have:=bD (o:=0) z h
 simpa using this
def aI {α:Type}(w:World)(F:Nat→Prop)(p:Nat)(kn:Int→Option Int)(val:α→Value)(R:Res α)(e:Ending)(w':World):Prop :=
 match R with
 | .need a=>vq w F p a e w'
 | .ok x D=>gN w F p kn D (val x) e w'
theorem aI.from {α:Type}{w w2 w':World}{F F':Nat→Prop}{p:Nat}{kn:Int→Option Int}{val:α→Value}{R:Res α}{e:Ending}(t:Turned F w w2)(n:∀k,F' k→F k∨w.heap.size≤k)(h:aI w2 F' p kn val R e w'):aI w F p kn val R e w':=by
 cases R with
 |need a=>exact⟨h.1,h.2.1,ak t h.2.2 n⟩
 |ok x D =>
  obtain⟨he,F1,hv,ht,hn⟩:=h
  refine⟨he,F1,hv,ak t ht n,fun k hk=>?_⟩
  rcases hn k hk with q|q
  ·exact n k q
  ·exact .inr (Nat.le_trans t.size q)
theorem aI.after {α:Type}{w w2 w':World}{F:Nat→Prop}{p:Nat}{kn:Int→Option Int}{val:α→Value}{R:Res α}{e:Ending}(t:ae w w2)(h:aI w2 F p kn val R e w'):aI w F p kn val R e w' :=
 h.from (Turned.mono t (fun _ _ q=>q.elim)) (fun k q=> .inl q)
theorem aI.need {α:Type}{w w':World}{F:Nat→Prop}{p:Nat}{kn:Int→Option Int}{val:α→Value}{R:Res α}{e:Ending}{a:Int}(hR:R=.need a)(h:vq w F p a e w'):aI w F p kn val R e w':=by subst hR;exact h
theorem aI.did {α:Type}{w w':World}{F:Nat→Prop}{p:Nat}{kn:Int→Option Int}{val:α→Value}{R:Res α}{e:Ending}{x:α}{D:List KV}(hR:R=.ok x D)(h:gN w F p kn D (val x) e w'):aI w F p kn val R e w':=by subst hR;exact h
theorem aI.same {α:Type}{w w':World}{F:Nat→Prop}{p:Nat}{kn:Int→Option Int}{D:List KV}{val:α→Value}{R:Res α}{x:α}(hR:R=.ok x D)(hv:aF w F p kn D)(t:ae w w'):aI w F p kn val R (.returned (val x)) w':=by
 subst hR;exact gN.same hv t
def Mh {α β:Type}(f:α→β):Res α→Res β
 | .need a=> .need a
 | .ok x D=> .ok (f x) D
theorem aI.map {α β:Type}{w w':World}{F:Nat→Prop}{p:Nat}{kn:Int→Option Int}{val:α→Value}{val':β→Value}(f:α→β){R:Res α}{x:α}{D:List KV}{v:Value}(hR:R=.ok x D)(h:aI w F p kn val R (.returned v) w'):aI w F p kn val' (Mh f R) (.returned (val' (f x))) w':=by
 subst hR
 obtain⟨_,F',hv,ht,hn⟩:=h
 exact⟨rfl,F',hv,ht,hn⟩
theorem aI.mapN {α β:Type}{w w':World}{F:Nat→Prop}{p:Nat}{kn:Int→Option Int}{val:α→Value}{val':β→Value}(f:α→β){R:Res α}{a:Int}{e:Ending}(hR:R=.need a)(h:aI w F p kn val R e w'):aI w F p kn val' (Mh f R) e w':=by
 subst hR
 exact h
structure MidV (W wr:World)(F S:Nat→Prop)(p:Nat)(kn:Int→Option Int)(n:Nat)(D:List KV)(F':Nat→Prop):Prop where
 view:aF wr F' p kn D
 from':∀k,F' k→F k∨W.heap.size≤k
 turn:Turned (fun b=>F b∨S b) W wr
 inv:cI n D
namespace MidV
variable {W wr w1 w2:World}{F S F':Nat→Prop}{p n:Nat}{kn:Int→Option Int}{D:List KV}
theorem begin (hv:aF W F p kn D)(hD:cI n D):MidV W W F S p kn n D F:=⟨hv,fun k q=> .inl q,Turned.refl _ _,hD⟩
theorem more (h:MidV W wr F S p kn n D F')(m:ae wr w1):MidV W w1 F S p kn n D F' :=
 ⟨h.view.more m,h.from',ak (F':=fun _=>False) h.turn m (fun _ q=>q.elim),h.inv⟩
theorem size (h:MidV W wr F S p kn n D F'):W.heap.size≤wr.heap.size:=h.turn.size
theorem off (h:MidV W wr F S p kn n D F'){b:Nat}(hb:b<W.heap.size)(nF:¬F b):¬F' b:=fun q=>by
 rcases h.from' b q with r|r
 ·exact nF r
 ·omega
theorem box (h:MidV W wr F S p kn n D F'){b:Nat}(hS:b<W.heap.size→S b)(nF:¬F' b)(v:Value){cs:Array Value}{t:TypeId}{fr:Nat×Nat}(hb:wr.heap[b]?=some (.cells cs t fr)):MidV W (wr.setCell ⟨b,0,none⟩ v) F S p kn n D F' :=
 ⟨h.view.keepS (S:=fun k=>k=b) (Turned.setCell (S:=fun k=>k=b) (Turned.refl _ wr) ⟨b,0,none⟩ v (fun _=>rfl)) (fun k q e=>nF (e▸q)) (fun k es cl e q=>by subst e;rw[hb] at q;cases q),
  h.from',ak h.turn (Turned.setCell (S:=fun k=>k=b) (Turned.refl _ wr) ⟨b,0,none⟩ v (fun _=>rfl)) (fun k q=>by
   subst q
   rcases Nat.lt_or_ge k W.heap.size with r|r
   ·exact .inl (.inr (hS r))
   ·exact .inr r),h.inv⟩
theorem step {α:Type}{val:α→Value}{Q:α→Prop}{pr:Prg α}{e:Ending}(h:MidV W wr F S p kn n D F')(m:ae wr w1)(hk:OkK kn)(G:bZ n Q pr)(he:aI w1 F' p kn val (pr kn D) e w2):
 (∃a,pr kn D=.need a∧e=.panicked (bB p)∧bJ w2 p a∧Turned (fun b=>F b∨S b) W w2∧∀b o,¬F' b→wr.heap[b]?=some o→w2.heap[b]?=some o) ∨
 (∃x D1 F1,pr kn D=.ok x D1∧e=.returned (val x)∧MidV W w2 F S p kn n D1 F1∧Q x∧(∀b o,¬F' b→wr.heap[b]?=some o→w2.heap[b]?=some o)∧∀b,F1 b→F' b∨wr.heap.size≤b):=by
 have hm:=h.more m
 have hs:=m.size
 have hK:∀t,Turned F' w1 t→∀b o,¬F' b→wr.heap[b]?=some o→t.heap[b]?=some o:=fun t ht b o nb hb=>(ht.block b (ac (m.block hb)) nb).trans (m.block hb)
 cases hE:pr kn D with
 |need a =>
  rw[hE] at he
  obtain⟨h1,h2,h3⟩:=he
  exact .inl ⟨a,rfl,h1,h2,ak hm.turn h3 (fun k q=>(h.from' k q).imp .inl id),hK _ h3⟩
 |ok x D1 =>
  rw[hE] at he
  obtain⟨h1,F1,hv,ht,hn⟩:=he
  obtain⟨i1,q1⟩:=G.ok hk h.inv hE
  refine .inr ⟨x,D1,F1,rfl,h1,⟨hv,fun k q=>?_,ak hm.turn ht (fun k q=>(h.from' k q).imp .inl id),i1⟩,q1,hK _ ht,fun b q=>(hn b q).imp id (fun r=>by omega)⟩
  rcases hn k q with r|r
  ·exact h.from' k r
  ·have:=hm.size;exact .inr (by omega)
end MidV
theorem wT {W w2:World}{F S:Nat→Prop}{Y X:World→Prop}{p:Nat}{kn:Int→Option Int}{R:Ran}{a:Int}(hR:R=.need a)(hd:bJ w2 p a)(ht:Turned (fun b=>F b∨S b) W w2)(hy:Y w2):jc W F S Y X p kn R (.panicked (bB p)) w2:=by
 subst hR;exact⟨rfl,hd,ht,hy⟩
theorem wU {W wr:World}{F S F':Nat→Prop}{Y X:World→Prop}{p n:Nat}{kn:Int→Option Int}{D:List KV}{R:Ran}(h:MidV W wr F S p kn n D F')(hR:R=.done D)(hy:Y wr)(hx:X wr):jc W F S Y X p kn R (.returned (.tuple #[])) wr:=by
 subst hR;exact⟨rfl,⟨F',h.view⟩,h.turn,hy,hx⟩
theorem cM {α β γ:Type}(p:Prg α)(f:α→Prg β)(g:β→Prg γ):aq (aq p f) g=aq p (fun x=>aq (f x) g):=by
 funext kn D;unfold aq;cases p kn D<;>rfl
theorem CY {α β:Type}(f:α→β)(p:Prg α)(kn:Int→Option Int)(D:List KV):Mh f (p kn D)=aq p (fun x=>az (f x)) kn D:=by
 unfold aq;cases p kn D<;>rfl
def fR (g:Nat)(w:World)(b:Bool):Prop:=w.heap[g]?=some (.cells #[.bool b] 4 (0,0))
theorem jC {g:Nat}{w:World}{b:Bool}(h:fR g w b)(x:Bool):fR g (w.setCell ⟨g,0,none⟩ (.bool x)) x:=eV h _
theorem oE {α:Type}{R:Res α}{a:Int}(h:R=.need a):fY R=.need a:=by rw[h];rfl
theorem sR {α:Type}{R:Res α}{x:α}{D:List KV}(h:R=.ok x D):fY R=.done D:=by rw[h];rfl
theorem bg (w:World)(o0:Obj):∃w1,w.alloc o0=w1∧w1.heap[w.heap.size]?=some o0∧ae w w1∧w1.heap.size=w.heap.size+1:=⟨_,rfl,bz w o0,(ae.refl _).alloc _,by simp⟩
theorem ij (w:World)(o0 o1:Obj):∃w2,(w.alloc o0).alloc o1=w2∧w2.heap[w.heap.size]?=some o0∧w2.heap[w.heap.size+1]?=some o1∧ae w w2∧w2.heap.size=w.heap.size+2:=by
 obtain⟨w1,e1,h0,m0,s0⟩:=bg w o0
 rw[e1]
 obtain⟨w2,e2,h1,m1,s1⟩:=bg w1 o1
 rw[s0] at h1
 exact⟨w2,e2,m1.block h0,h1,m0.trans m1,by omega⟩
theorem jD (w:World)(o0 o1 o2:Obj):∃w3,((w.alloc o0).alloc o1).alloc o2=w3∧w3.heap[w.heap.size]?=some o0∧w3.heap[w.heap.size+1]?=some o1∧w3.heap[w.heap.size+2]?=some o2∧ae w w3∧w3.heap.size=w.heap.size+3:=by
 have h0:=bz w o0
 have s0:(w.alloc o0).heap.size=w.heap.size+1:=by simp
 have m0:ae w (w.alloc o0):=(ae.refl _).alloc _
 generalize w.alloc o0=w1 at h0 s0 m0⊢
 have h1:=bz w1 o1
 rw[s0] at h1
 have s1:(w1.alloc o1).heap.size=w.heap.size+2:=by simp[s0]
 have m1:ae w1 (w1.alloc o1):=(ae.refl _).alloc _
 generalize w1.alloc o1=w2 at h1 s1 m1⊢
 have h2:=bz w2 o2
 rw[s1] at h2
 have m2:ae w2 (w2.alloc o2):=(ae.refl _).alloc _
 exact⟨_,rfl,m2.block (m1.block h0),m2.block h1,h2,(m0.trans m1).trans m2,by simp[s1]⟩
theorem Mi (w:World)(o0 o1 o2 o3:Obj):∃w4,(((w.alloc o0).alloc o1).alloc o2).alloc o3=w4∧w4.heap[w.heap.size]?=some o0∧w4.heap[w.heap.size+1]?=some o1∧w4.heap[w.heap.size+2]?=some o2∧w4.heap[w.heap.size+3]?=some o3∧ae w w4∧w4.heap.size=w.heap.size+4:=by
 obtain⟨w3,e3,h0,h1,h2,m3,s3⟩:=jD w o0 o1 o2
 rw[e3]
 obtain⟨w4,e4,h3,m4,s4⟩:=bg w3 o3
 rw[s3] at h3
 exact⟨w4,e4,m4.block h0,m4.block h1,m4.block h2,h3,m3.trans m4,by omega⟩
theorem jE {α:Type}{w w1 w2:World}{F S:Nat→Prop}{p:Nat}{kn:Int→Option Int}{val:α→Value}{R:Res α}{a:Int}(m:ae w w1)(hS:∀b,S b→w.heap.size≤b)(hR:R=.need a)(hd:bJ w2 p a)(ht:Turned (fun b=>F b∨S b) w1 w2):aI w F p kn val R (.panicked (bB p)) w2 :=
 aI.need hR ⟨rfl,hd,ak (Turned.mono m (fun _ _ q=>q.elim)) ht (fun k q=>q.imp id (hS k))⟩
theorem fI {α:Type}{w w1 w2:World}{F S F':Nat→Prop}{p n:Nat}{kn:Int→Option Int}{val:α→Value}{R:Res α}{x:α}{D:List KV}(m:ae w w1)(hS:∀b,S b→w.heap.size≤b)(h:MidV w1 w2 F S p kn n D F')(hR:R=.ok x D):aI w F p kn val R (.returned (val x)) w2 :=
 aI.did hR ⟨rfl,F',h.view,ak (Turned.mono m (fun _ _ q=>q.elim)) h.turn (fun k q=>q.imp id (hS k)),fun k q=>(h.from' k q).imp id (fun r=>Nat.le_trans m.size r)⟩
theorem fS {w1 w2:World}{F S F':Nat→Prop}{p n:Nat}{kn:Int→Option Int}{D:List KV}(h:MidV w1 w2 F S p kn n D F'){b:Nat}{o:Obj}(hb:w1.heap[b]?=some o)(nF:¬F b)(nS:¬S b):w2.heap[b]?=some o :=
 (h.turn.block b (ac hb) (by rintro(q|q);exact nF q;exact nS q)).trans hb
theorem iK (F:Nat→Prop)(p:Nat)(kn:Int→Option Int)(D:List KV)(a:Int)(w:World)(h:aF w F p kn D)(hw:W64 a):
 Calls Tryz.prog 27 #[.pointer (some ⟨p,0,none⟩),.int .i64 a] w (aI w F p kn (fun x=> .int .i64 x) (cT a kn D)):=by
 cases e:dN kn D a with
 |none=>exact(jp F p kn D a w h hw e).mono (fun _ _ he=>aI.need (jB e) he)
 |some y =>
  refine(np F p kn D a y w h hw e).mono ?_
  rintro _ _ ⟨rfl,n,rfl⟩
  exact aI.same (eZ e) h ((ae.refl w).drewN n)
theorem dq (F:Nat→Prop)(p:Nat)(kn:Int→Option Int)(D:List KV)(a x:Int)(w:World)(h:aF w F p kn D)(hs:D.length<100000):
 Calls Tryz.prog 116 #[.pointer (some ⟨p,0,none⟩),.int .i64 a,.int .i64 x] w (aI w F p kn (fun _:Unit=> .tuple #[]) (cU a x kn D)):=
 (yp F p kn D a x w h hs).mono (fun _ _ he=>aI.did rfl he)
theorem klZ {W:World}{F:Nat→Prop}{p n:Nat}{kn:Int→Option Int}{b:Nat}{o:Obj}(hb:W.heap[b]?=some o)(nF:¬F b):Hq (∀wr D' F',MidV W wr F (fun _=>False) p kn n D' F'→wr.heap[b]?=some o):=hQQ fun wr D' F' h=>fS h hb nF (fun q=>q)
theorem m0Z {W:World}{F:Nat→Prop}{p n:Nat}{kn:Int→Option Int}{D:List KV}(hv:aF W F p kn D)(hD:cI n D):Hq (MidV W W F (fun _=>False) p kn n D F):=hQQ (MidV.begin hv hD)
theorem ndZ {α:Type}{w w1:World}{F:Nat→Prop}{p:Nat}{kn:Int→Option Int}{R:Res α}(val:α→Value)(m:ae w w1):Hq (∀a w2,R=.need a→bJ w2 p a→Turned (fun b=>F b∨False) w1 w2→aI w F p kn val R (.panicked (bB p)) w2):=hQQ fun a w2 e hd ht=>jE m (fun _ q=>q.elim) e hd ht
theorem dnZ {α:Type}{w w1:World}{F:Nat→Prop}{p n:Nat}{kn:Int→Option Int}{R:Res α}(val:α→Value)(m:ae w w1):Hq (∀x w2 D' F',R=.ok x D'→MidV w1 w2 F (fun _=>False) p kn n D' F'→aI w F p kn val R (.returned (val x)) w2):=hQQ fun x w2 D' F' e h=>fI m (fun _ q=>q.elim) h e
def bV (pg k:Int):Bool:=decide (0≤k) && decide (k<aL pg)
theorem de {pg k:Int} :bV pg k=true↔0≤k∧k<aL pg:=by simp[bV]
theorem yC {pg k:Int} :bV pg k=false↔¬(0≤k∧k<aL pg):=by
 cases h:bV pg k with
 |true=>simp[de.1 h]
 |false=>simp only[true_iff];intro q;rw[de.2 q] at h;cases h
theorem me {pg st k:Int}(h:bV pg k=true):dY pg st k=aY st+k:=if_pos (de.1 h)
theorem JP {pg st k:Int}(h:bV pg k=false):dY pg st k=0:=if_neg (yC.1 h)
def ofV (p:Int):Int:=if p<0 then -1 else p / 4
def qu (pg k:Int):Int:=if bV pg k then 4 * k else 0
def fJ (pg k:Int):Int:=if bV pg k then min 4 (pg-4 * k) else 0
def cm (pg p n:Int):Bool:=decide (0≤p) && (decide (1≤n) && decide (n≤pg-p))
theorem d6 {pg p n:Int} :cm pg p n=true↔0≤p∧1≤n∧n≤pg-p:=by simp[cm]
def dS (pg st k:Int):Prg Bool:=if bV pg k then aq (cT (dY pg st k)) (fun y=>az (decide (y=1))) else az false
def jY (pg st k x:Int):Prg Int:=if bV pg k then aq (dS pg st k) (fun b=>if b=decide (x=1) then az 0 else aq (cU (dY pg st k) x) (fun _=>az (fJ pg k))) else az 0
def iC (pg st:Int):Nat→Int→Int→Prg Int
 | 0,_,s=>az s
 |m+1,k,s=>aq (jY pg st k 1) (fun x=>iC pg st m (k+1) (s+x))
def GI (pg st:Int):Nat→Int→Int→Prg Int
 | 0,_,s=>az s
 |m+1,k,s=>aq (dS pg st k) (fun b=>GI pg st m (k+1) (s+if b then fJ pg k else 0))
def spanV (p n:Int):Nat:=((p+n-1) / 4-p / 4+1).toNat
def gO (pg st p n:Int):Prg Int:=if cm pg p n then iC pg st (spanV p n) (p / 4) 0 else az 0
def AJ (pg st:Int):Prg Int:=GI pg st (aL pg).toNat 0 0
structure TblIn (pg st:Int)(n:Nat):Prop where
 st1:1≤st
 st2:st≤64
 pg1:1≤pg
 pg2:pg≤256
 top:aY st+aL pg≤n
section
variable {pg st:Int}{n:Nat}(H:TblIn pg st n)
include H
theorem pt {k:Int}(h:bV pg k=true):4≤dY pg st k∧dY pg st k<n∧W64 (dY pg st k):=by
 rw[me h]
 have:=de.1 h
 have h1:=H.st1;have h2:=H.st2;have h3:=H.top;have h4:=H.pg1;have h5:=H.pg2
 unfold aL at *
 unfold aY W64 at *
 omega
theorem Mj (k:Int):0≤fJ pg k∧fJ pg k≤4:=by
 unfold fJ
 split
 ·rename_i h
  have:=de.1 h
  have:=H.pg1
  unfold aL at *
  omega
 ·omega
theorem jZ (k:Int):bZ n (fun _=>True) (dS pg st k):=by
 unfold dS
 split
 ·rename_i h
  exact aw (a6 n (pt H h).2.1) (fun y _=>ai n trivial)
 ·exact ai n trivial
theorem qz (k x:Int)(hx:W64 x):bZ n (fun y=>0≤y∧y≤4) (jY pg st k x):=by
 unfold jY
 split
 ·rename_i h
  obtain⟨h0,h1,h2⟩:=pt H h
  refine aw (jZ H k) (fun b _=>?_)
  split
  ·exact ai n (by omega)
  ·exact aw (aR n h2 h1 hx) (fun _ _=>ai n (Mj H k))
 ·exact ai n (by omega)
theorem wV (m:Nat):∀k s:Int,0≤s→bZ n (fun y:Int=>0≤y∧y≤s+4 * m) (iC pg st m k s):=by
 induction m with
 |zero=>intro k s h;exact ai n (by omega)
 |succ m ih =>
  intro k s h
  exact aw (qz H k 1 (by unfold W64;omega)) (fun x hx=>d8 (ih _ _ (by omega)) (fun y hy=>by omega))
end
theorem pw (pg st k:Int):bH (dS pg st k):=by
 unfold dS
 exact aG (ar (dl _) (fun _=>ah _)) (ah _)
theorem AK (pg st k x:Int):bH (jY pg st k x):=by
 unfold jY
 exact aG (ar (pw _ _ _) (fun _=>aG (ah _) (ar (c6 _ _) (fun _=>ah _)))) (ah _)
theorem uN (pg st:Int)(m:Nat):∀k s,bH (iC pg st m k s):=by
 induction m with
 |zero=>intro k s;exact ah _
 |succ m ih=>intro k s;exact ar (AK _ _ _ _) (fun x=>ih _ _)
theorem wW (pg st p n:Int):bH (gO pg st p n):=aG (uN _ _ _ _ _) (ah _)
theorem AM {pg p n:Int}(h:cm pg p n=true)(h2:pg≤256):(spanV p n:Int)=(p+n-1) / 4-p / 4+1∧spanV p n≤64:=by
 obtain⟨h0,h1,h3⟩:=d6.1 h
 unfold spanV;omega
theorem wX {pg p n:Int}(h:cm pg p n=true)(i:Nat)(hi:i<spanV p n):bV pg (p / 4+i)=true:=by
 obtain⟨h0,h1,h3⟩:=d6.1 h
 rw[de]
 unfold spanV at hi
 unfold aL
 omega
def bP (pg st:Int)(ws:List Int)(k:Int):Bool:=bV pg k && decide (wAt ws (dY pg st k)=1)
def mg (pg st:Int)(k x:Int)(ws:List Int):Int×List Int :=
 if bV pg k then(if bP pg st ws k=decide (x=1) then(0,ws) else(fJ pg k,ws.set (dY pg st k).toNat x)) else(0,ws)
def rU (pg st:Int):Nat→Int→Int→List Int→Int×List Int
 | 0,_,s,ws=>(s,ws)
 |m+1,k,s,ws=>rU pg st m (k+1) (s+(mg pg st k 1 ws).1) (mg pg st k 1 ws).2
def GJ (pg st:Int):Nat→Int→Int→List Int→Int
 | 0,_,s,_=>s
 |m+1,k,s,ws=>GJ pg st m (k+1) (s+if bP pg st ws k then fJ pg k else 0) ws
section
variable {pg st:Int}{n:Nat}(H:TblIn pg st n)
include H
theorem re (k:Int):ci n (dS pg st k) (fun ws=>(bP pg st ws k,ws)):=by
 unfold dS bP
 split
 ·rename_i h
  obtain⟨h0,h1,h2⟩:=pt H h
  exact aX (aC (dI (by omega) h1) (fun y=>au n (decide (y=1)))) (fun ws _=>by simp[h])
 ·rename_i h
  exact aX (au n false) (fun ws _=>by simp[h])
theorem Ef (k x:Int)(hx:W64 x):ci n (jY pg st k x) (mg pg st k x):=by
 unfold jY
 split
 ·rename_i h
  obtain⟨h0,h1,h2⟩:=pt H h
  have hb:∀b:Bool,ci n (if b=decide (x=1) then az 0 else aq (cU (dY pg st k) x) (fun _=>az (fJ pg k))) (fun ws=>if b=decide (x=1) then(0,ws) else(fJ pg k,ws.set (dY pg st k).toNat x)):=fun b=>by
   by_cases e:b=decide (x=1)
   ·rw[if_pos e];exact aX (au n 0) (fun ws _=>by rw[if_pos e])
   ·rw[if_neg e];exact aX (aC (dm (by omega) h1 h2 hx) (fun _=>au n (fJ pg k))) (fun ws _=>by rw[if_neg e])
  exact aX (aC (re H k) hb) (fun ws _=>by unfold mg;rw[if_pos h])
 ·rename_i h
  exact aX (au n 0) (fun ws _=>by unfold mg;rw[if_neg h])
theorem wY (m:Nat):∀k s,ci n (iC pg st m k s) (rU pg st m k s):=by
 induction m with
 |zero=>intro k s;exact au n s
 |succ m ih=>intro k s;exact aC (Ef H k 1 (by unfold W64;omega)) (fun x=>ih (k+1) (s+x))
end
theorem GK (pg st k x:Int)(ws:List Int):(mg pg st k x ws).2.length=ws.length:=by
 unfold mg;split
 ·split<;>simp
 ·rfl
structure Cfg where
 wk:Int
 cp:Int
 pg:Int
 st:Int
 tr:Int
 wt:Int
 ck:Int
 pr:Int
 ca:Int
 bi:Int
 ba:Int
def Cfg.Ok (c:Cfg):Prop:=cZ c.wk c.cp c.pg c.st c.tr c.wt c.ck c.pr c.ca c.bi c.ba
def Cfg.starts (c:Cfg):Nat→Int:=aE c.cp c.pg c.st c.ca c.bi
def Cfg.arr (c:Cfg):Array Value:=aJ c.wk c.cp c.pg c.st c.tr c.wt c.ck c.pr c.ca c.bi c.ba c.starts
def Cfg.cells (c:Cfg):Array Value:= #[.int .i64 c.wk,.int .i64 c.cp,.int .i64 c.pg,.int .i64 c.st,.int .i64 c.tr,.int .i64 c.wt,.int .i64 c.ck,.int .i64 c.pr,.int .i64 c.ca,.int .i64 c.bi,.int .i64 c.ba]
def Cfg.words (c:Cfg):Int:=eY c.cp c.pg c.st c.ca c.bi
def ct (c:Cfg)(k:Int):Array Value:=c.arr.push (.int .i64 k)
theorem JQ {c:Cfg}(R:c.Ok)(w:World)(k:Int):Calls Tryz.prog 137 #[.agg c.arr,.int .i64 k] w (aQ w (.int .i64 (dY c.pg c.st k))):=LR R w k
theorem dw {c:Cfg}(R:c.Ok)(w:World):Calls Tryz.prog 20 #[.agg c.arr] w (aQ w (.agg #[.int .i64 c.wk,.int .i64 c.cp,.int .i64 c.pg,.int .i64 c.st,.int .i64 c.tr,.int .i64 c.wt,.int .i64 c.ck,.int .i64 c.pr,.int .i64 c.ca,.int .i64 c.bi,.int .i64 c.ba])):=JC R w
theorem JR {c:Cfg}(R:c.Ok)(w:World):Calls Tryz.prog 15 #[.agg c.arr] w (aQ w (.int .i64 c.words)):=LU R w
theorem fK (c:Cfg)(W:World):(Instr.field 23 (.agg #[.int .i64 c.wk,.int .i64 c.cp,.int .i64 c.pg,.int .i64 c.st,.int .i64 c.tr,.int .i64 c.wt,.int .i64 c.ck,.int .i64 c.pr,.int .i64 c.ca,.int .i64 c.bi,.int .i64 c.ba]) 2).run Tryz.prog W=.ok (.int .i64 c.pg) W:=by kernel_rfl
theorem rf (c:Cfg)(k:Int)(W:World):(Instr.build 139 #[(0,.agg c.arr),(1,.int .i64 k)]).run Tryz.prog W=.ok (.agg (ct c k)) W:=run_build W _ _ _ (by kernel_rfl)
theorem yD (c:Cfg)(k:Int):(ct c k)[24]?=some (.int .i64 k):=by rfl
theorem yE (c:Cfg)(k:Int):∀j,j<24→(ct c k)[j]?=c.arr[j]? :=fun j hj=>by
 unfold ct
 rw[Array.getElem?_push,if_neg (by show j≠24;omega)]
theorem qA {P:Program}(w:World)(g:Nat)(t ty:TypeId)(cs hs:Array Value)(fr:Nat×Nat)(d:TypeDesc)(hg:w.heap[g]?=some (.cells cs t fr))(hc:∀j,j<hs.size→cs[j]?=hs[j]?)
 (hu:P.underlying ty=some d) (hd:(match d with| .struct _| .array _ _=>true|_=>false)=true) (hi:(P.info? ty).map (·.size)=some hs.size):
 (loadVar ty ⟨g,0,none⟩).run P w=.ok (.agg hs) w:=by
 have hl:(loadCells ⟨g,0,none⟩ hs.toList.length).run P w=.ok hs.toList.toArray w :=
  run_loadCells_list (P:=P) w ⟨g,0,none⟩ hs.toList (fun j v hv=>by
   have hj:j<hs.size:=by have:=(List.getElem?_eq_some_iff.1 hv).1;simpa using this
   rw[js,Nat.zero_add,cell_of_row w g j cs t fr hg,hc j hj]
   simpa using hv)
 cases hq:P.info? ty with
 |none=>simp[hq] at hi
 |some i =>
  have hs:i.size=hs.size:=by simpa [hq] using hi
  have hagg:(isAgg ty).run P w=.ok true w:=by
   unfold isAgg
   rw[Sem.run_bind,run_underlying hu w]
   cases d<;>simp_all
  simp only[Array.length_toList,Array.toArray_toList] at hl
  simp[loadVar,Sem.run_bind,hagg,sizeOf,typeInfo,hq,hs,hl]
theorem kC {P:Program}{ops:Array Oper}{rest:List Oper}{o:Oper}{a:Act}{w:World}{Q:Exit→Act→World→Prop}(hw:Region.wanted o (yielded ops a.tmps)=true)(ty:TypeId)(x:Operand)(ho:o.op=.load ty x)
 (g:Nat) (hx:a.eval x=.pointer (some ⟨g,0,none⟩)) (t:TypeId) (cs hs:Array Value) (fr:Nat×Nat) (d:TypeDesc) (hg:w.heap[g]?=some (.cells cs t fr)) (hc:∀j,j<hs.size→cs[j]?=hs[j]?)
 (hu:P.underlying ty=some d) (hd:(match d with| .struct _| .array _ _=>true|_=>false)=true) (hi:(P.info? ty).map (·.size)=some hs.size)
 (h:wpList P ops Q rest (a.put o.dst (.agg hs)) w):wpList P ops Q (o::rest) a w :=
 dU hw fun K hK=>by
  unfold Oper.wp Oper.upon execOp
  simp only[ho,hx,Instr.loadAt,Instr.sureAddr,Sem.run_bind,Sem.run_pure,Result.andThen_ok,qA w g t ty cs hs fr d hg hc hu hd hi]
  exact hK _ _ h
theorem Mk (p:Int)(h0: -9223372036854775808≤p)(h1:p≤9223372036854775807)(w:World):Calls Tryz.prog 57 #[.int .i64 p] w fun e w'=>e=.returned (.int .i64 (ofV p))∧w'=w:=by
 by_cases c:p<0
 ·rw[show ofV p= -1 from if_pos c]
  go_enter Tryz.func57,Tryz.ntmps57
  go_wp2_with fail
  go_ret
  exact⟨rfl,rfl⟩
 ·rw[show ofV p=p / 4 from if_neg c]
  have q2:IntKind.i64.wrap (p.tdiv 4)=p / 4:=by rw[Int.tdiv_eq_ediv_of_nonneg (by omega)];exact aB (by omega) (by omega)
  have d0:decide (p<0)=false:=by simp;omega
  go_enter Tryz.func57,Tryz.ntmps57
  go_wp2_with fail
  go_ret
  exact⟨rfl,rfl⟩
theorem AN {c:Cfg}(R:c.Ok)(k:Int)(w:World):Calls Tryz.prog 120 #[.agg (ct c k)] w (aQ w (.int .i64 (dY c.pg c.st k))):=by
 have HC:=hQQ (aW w (ct c k) 139)
 have x24:=bd HC.o (ae.refl _) (yD c k)
 have HM:Hq (ae w (w.alloc (.cells (ct c k) 139))):=(ae.refl w).alloc _
 go_enter Tryz.func120,Tryz.ntmps120
 go_wp2_with (refine kC rfl 28 _ rfl _ rfl 139 _ c.arr _ _ HC.o (yE c k) Tryz.underlying28 rfl (by kernel_rfl) ?_)
 refine(JQ R _ k).mono ?_
 rintro e w1 ⟨rfl,h1⟩
 go_wp2_with fail
 go_ret
 exact⟨rfl,HM.o.trans h1⟩
theorem GL {c:Cfg}(R:c.Ok)(k:Int):(dY c.pg c.st k==0)= !bV c.pg k:=by
 have h1:=R.st1
 cases h:bV c.pg k with
 |true =>
  rw[me h]
  have:=de.1 h
  unfold aY
  simp;omega
 |false=>rw[JP h];rfl
theorem qB {c:Cfg}(R:c.Ok)(k:Int)(w:World):Calls Tryz.prog 119 #[.agg (ct c k)] w (aQ w (.bool (!bV c.pg k))):=by
 have HC:=hQQ (aW w (ct c k) 139)
 have HM:Hq (ae w (w.alloc (.cells (ct c k) 139))):=(ae.refl w).alloc _
 have b0:=GL R k
 go_enter Tryz.func119,Tryz.ntmps119
 go_wp2_with (refine wpList_load_row rfl 139 _ rfl _ rfl 139 _ _ _ HC.o Tryz.underlying139 rfl (by kernel_rfl) ?_)
 refine(AN R k _).mono ?_
 rintro e w1 ⟨rfl,h1⟩
 go_wp2_with fail
 go_ret
 exact⟨rfl,HM.o.trans h1⟩
theorem JS {c:Cfg}(R:c.Ok)(k:Int)(w:World):Calls Tryz.prog 172 #[.agg (ct c k)] w (aQ w (.tuple #[.int .i64 (qu c.pg k),.int .i64 (fJ c.pg k)])):=by
 have HC:=hQQ (aW w (ct c k) 139)
 have HM:Hq (ae w (w.alloc (.cells (ct c k) 139))):=(ae.refl w).alloc _
 cases h:bV c.pg k with
 |false =>
  rw[show qu c.pg k=0 by unfold qu;rw[h];rfl,show fJ c.pg k=0 by unfold fJ;rw[h];rfl]
  go_enter Tryz.func172,Tryz.ntmps172
  go_wp2_with (refine wpList_load_row rfl 139 _ rfl _ rfl 139 _ _ _ HC.o Tryz.underlying139 rfl (by kernel_rfl) ?_)
  refine(qB R k _).mono ?_
  rw[h]
  rintro e w1 ⟨rfl,h1⟩
  go_wp2_with fail
  go_ret2
  exact⟨rfl,HM.o.trans h1⟩
 |true =>
  have hfl:=fK c
  have hb:=de.1 h
  have p1:=R.pg1
  have p2:=R.pg2
  have hu:4 * k<c.pg∧k<64:=by unfold aL at hb;omega
  have q0:IntKind.i64.wrap (k * 4)=4 * k:=by rw[aB (by omega) (by omega)];omega
  have q1:IntKind.i64.wrap (c.pg-4 * k)=c.pg-4 * k:=aB (by omega) (by omega)
  rw[show qu c.pg k=4 * k by unfold qu;rw[h];rfl,show fJ c.pg k=min 4 (c.pg-4 * k) by unfold fJ;rw[h];rfl]
  generalize hz:c.pg-4 * k=z at q1
  have R':=hQQ R
  clear hb hu p1 p2
  have zz:=hQQ hz
  clear hz
  go_enter Tryz.func172,Tryz.ntmps172
  go_wp2_with (refine wpList_load_row rfl 139 _ rfl _ rfl 139 _ _ _ HC.o Tryz.underlying139 rfl (by kernel_rfl) ?_)
  refine(qB R'.o k _).mono ?_
  rw[h]
  rintro e w1 ⟨rfl,h1⟩
  have HC1:=hQQ (h1.block HC.o)
  have HM1:=hQQ (HM.o.trans h1)
  have x24:=bd HC1.o (ae.refl _) (yD c k)
  clear h1
  go_wp2_with (refine kC rfl 28 _ rfl _ rfl 139 _ c.arr _ _ HC1.o (yE c k) Tryz.underlying28 rfl (by kernel_rfl) ?_)
  refine(dw R'.o _).mono ?_
  rintro e w2 ⟨rfl,h2⟩
  have HM2:=hQQ (HM1.o.trans h2)
  have q3:=zz.o
  clear h2
  go_wp2_with fail
  go_ret2
  exact⟨rfl,HM2.o⟩
theorem Lq {c:Cfg}(R:c.Ok){k:Int}(h:bV c.pg k=true):W64 (dY c.pg c.st k):=by
 rw[me h]
 have:=de.1 h
 have h1:=su R;have h2:=ph R
 unfold W64;omega
theorem sS {c:Cfg}(R:c.Ok)(F:Nat→Prop)(p:Nat)(kn:Int→Option Int)(D:List KV)(k:Int)(w:World)(hv:aF w F p kn D):
 Calls Tryz.prog 94 #[.agg (ct c k),.pointer (some ⟨p,0,none⟩)] w (aI w F p kn (fun b=> .bool b) (dS c.pg c.st k kn D)):=by
 have HC:=hQQ (aW w (ct c k) 139)
 have HM:Hq (ae w (w.alloc (.cells (ct c k) 139))):=(ae.refl w).alloc _
 have HV:=hQQ hv
 have HR:=hQQ R
 clear hv
 cases h:bV c.pg k with
 |false =>
  have FIN:Hq (∀w',ae w w'→aI w F p kn (fun b=> .bool b) (dS c.pg c.st k kn D) (.returned (.bool false)) w'):=hQQ fun w' m=>aI.same (by unfold dS;rw[h];rfl) HV.o m
  go_enter Tryz.func94,Tryz.ntmps94
  go_wp2_with (refine wpList_load_row rfl 139 _ rfl _ rfl 139 _ _ _ HC.o Tryz.underlying139 rfl (by kernel_rfl) ?_)
  refine(qB HR.o k _).mono ?_
  rw[h]
  rintro e w1 ⟨rfl,h1⟩
  have HM1:=hQQ (HM.o.trans h1)
  clear h1
  go_wp2_with fail
  go_ret
  exact FIN.o _ HM1.o
 |true =>
  have hR:dS c.pg c.st k kn D=aq (cT (dY c.pg c.st k)) (fun y=>az (decide (y=1))) kn D:=by unfold dS;rw[h];rfl
  rw[hR]
  have HW:=hQQ (Lq R h)
  go_enter Tryz.func94,Tryz.ntmps94
  go_wp2_with (refine wpList_load_row rfl 139 _ rfl _ rfl 139 _ _ _ HC.o Tryz.underlying139 rfl (by kernel_rfl) ?_)
  refine(qB HR.o k _).mono ?_
  rw[h]
  rintro e w1 ⟨rfl,h1⟩
  have HM1:=hQQ (HM.o.trans h1)
  have HC1:=hQQ (h1.block HC.o)
  clear h1
  go_wp2_with (refine eL rfl 139 _ rfl _ rfl 139 _ _ _ HC1.o Tryz.underlying139 rfl (by kernel_rfl) ?_)
  refine(AN HR.o k _).mono ?_
  rintro e w2 ⟨rfl,h2⟩
  have HM2:=hQQ (HM1.o.trans h2)
  clear h2
  have HV2:=hQQ (HV.o.more HM2.o)
  cases hw:dN kn D (dY c.pg c.st k) with
  |none =>
   have HN:=hQQ hw
   clear hw
   go_wp2_with fail
   refine(jp F p kn D _ w2 HV2.o HW.o HN.o).mono ?_
   intro e w3 he
   obtain rfl:=he.1
   exact⟨rfl,aI.after HM2.o (aI.need (ag (jB HN.o)) he)⟩
  |some y =>
   have HN:=hQQ hw
   have FIN:Hq (∀n,aI w F p kn (fun b=> .bool b) (aq (cT (dY c.pg c.st k)) (fun y=>az (decide (y=1))) kn D) (.returned (.bool (decide (y=1)))) (w2.drewN n)):=hQQ fun n=>aI.same (by rw[aj (eZ HN.o)];rfl) HV.o (HM2.o.drewN n)
   have b1:(y==1)=decide (y=1):=by by_cases q:y=1<;>simp[q]
   clear hw
   go_wp2_with fail
   refine(np F p kn D _ y w2 HV2.o HW.o HN.o).mono ?_
   rintro e w3 ⟨rfl,n,rfl⟩
   go_wp2_with fail
   go_ret
   exact FIN.o n
theorem Ml {c:Cfg}(R:c.Ok){n:Nat}(H:TblIn c.pg c.st n)(hn:n≤10000)(F:Nat→Prop)(p:Nat)(kn:Int→Option Int)(D:List KV)(k x:Int)(w:World)(hv:aF w F p kn D)(hk:OkK kn)(hD:cI n D):
 Calls Tryz.prog 166 #[.agg (ct c k),.pointer (some ⟨p,0,none⟩),.int .i64 x] w (aI w F p kn (fun y=> .int .i64 y) (jY c.pg c.st k x kn D)):=by
 have HC:=hQQ (aW w (ct c k) 139)
 have HM:Hq (ae w (w.alloc (.cells (ct c k) 139))):=(ae.refl w).alloc _
 have HV:=hQQ hv
 have HR:=hQQ R
 have HK:=hQQ hk
 have HD:=hQQ hD
 have HH:=hQQ H
 clear hv hk hD H
 cases h:bV c.pg k with
 |false =>
  have FIN:Hq (∀w',ae w w'→aI w F p kn (fun y=> .int .i64 y) (jY c.pg c.st k x kn D) (.returned (.int .i64 0)) w'):=hQQ fun w' m=>aI.same (by unfold jY;rw[h];rfl) HV.o m
  go_enter Tryz.func166,Tryz.ntmps166
  go_wp2_with (refine wpList_load_row rfl 139 _ rfl _ rfl 139 _ _ _ HC.o Tryz.underlying139 rfl (by kernel_rfl) ?_)
  refine(qB HR.o k _).mono ?_
  rw[h]
  rintro e w1 ⟨rfl,h1⟩
  have HM1:=hQQ (HM.o.trans h1)
  clear h1
  go_wp2_with fail
  go_ret
  exact FIN.o _ HM1.o
 |true =>
  have hR:jY c.pg c.st k x kn D=aq (dS c.pg c.st k) (fun b=>if b=decide (x=1) then az 0 else aq (cU (dY c.pg c.st k) x) (fun _=>az (fJ c.pg k))) kn D:=by unfold jY;rw[h];rfl
  rw[hR]
  have HW:=hQQ (Lq R h)
  go_enter Tryz.func166,Tryz.ntmps166
  go_wp2_with (refine wpList_load_row rfl 139 _ rfl _ rfl 139 _ _ _ HC.o Tryz.underlying139 rfl (by kernel_rfl) ?_)
  refine(qB HR.o k _).mono ?_
  rw[h]
  rintro e w1 ⟨rfl,h1⟩
  have HM1:=hQQ (HM.o.trans h1)
  have HC1:=hQQ (h1.block HC.o)
  clear h1
  have HV1:=hQQ (HV.o.more HM1.o)
  have bx:(x==1)=decide (x=1):=by by_cases q:x=1<;>simp[q]
  go_wp2_with (refine eL rfl 139 _ rfl _ rfl 139 _ _ _ HC1.o Tryz.underlying139 rfl (by kernel_rfl) ?_)
  refine(sS HR.o F p kn D k w1 HV1.o).mono ?_
  intro e w2 he
  cases hm:dS c.pg c.st k kn D with
  |need a =>
   rw[hm] at he
   obtain rfl:=he.1
   have FIN:=aI.after (kn:=kn) HM1.o (aI.need (val:=fun y:Int=>Value.int .i64 y) (ag (f:=fun b:Bool=>if b=decide (x=1) then az (0:Int) else aq (cU (dY c.pg c.st k) x) (fun _=>az (fJ c.pg k))) hm) he)
   exact⟨rfl,FIN⟩
  |ok b D1 =>
   rw[hm] at he
   have HB:=hQQ hm
   have hI1:=((jZ HH.o k).ok HK.o HD.o hm).1
   obtain⟨rfl,F1,hv2,ht2,hn2⟩:=he
   have lD1:D1.length<100000:=by have:=hI1.len;omega
   have HV2:=hQQ hv2
   have HT2:Hq (Turned F w w2):=hQQ (ak (Turned.mono HM1.o (fun _ _ q=>q.elim)) ht2 (fun k q=> .inl q))
   have HN1:=hQQ hn2
   have HN2:Hq (∀k,F1 k→F k∨w.heap.size≤k):=hQQ fun k q=>(hn2 k q).imp id (fun r=>Nat.le_trans HM1.o.size r)
   have nC:¬F w.heap.size:=fun q=>by have:=HV.o.lt _ q;omega
   have HC2:Hq (w2.heap[w.heap.size]?=_):=hQQ ((Turned.block ht2 _ (ac HC1.o) nC).trans HC1.o)
   clear hm hI1 hv2 ht2 hn2
   by_cases hb:b=decide (x=1)
   ·have FIN:Hq (∀w',ae w2 w'→aI w F p kn (fun y=> .int .i64 y) (aq (dS c.pg c.st k) (fun b=>if b=decide (x=1) then az 0 else aq (cU (dY c.pg c.st k) x) (fun _=>az (fJ c.pg k))) kn D) (.returned (.int .i64 0)) w'):=hQQ fun w' m =>
     aI.from HT2.o HN2.o (aI.same (by rw[aj HB.o,if_pos hb];rfl) HV2.o m)
    have be:(b==decide (x=1))=true:=by simp[hb]
    clear hb
    go_wp2_with fail
    go_ret
    exact FIN.o _ (ae.refl _)
   ·have FIN:Hq (∀w0 e w',ae w2 w0→gN w0 F1 p kn (eE D1 (dY c.pg c.st k) x) (.tuple #[]) e w'→e=.returned (.tuple #[])∧Turned F1 w0 w'∧∀w'',ae w' w''→aI w F p kn (fun y=> .int .i64 y) (aq (dS c.pg c.st k) (fun b=>if b=decide (x=1) then az 0 else aq (cU (dY c.pg c.st k) x) (fun _=>az (fJ c.pg k))) kn D) (.returned (.int .i64 (fJ c.pg k))) w''):=hQQ fun w0 e w' m hd=>by
     obtain⟨he,F2,hv3,ht3,hn3⟩:=hd
     refine⟨he,ht3,fun w'' m2=>?_⟩
     refine aI.from HT2.o HN2.o (aI.did (x:=fJ c.pg k) (D:=eE D1 (dY c.pg c.st k) x) (by rw[aj HB.o,if_neg hb];rfl) ⟨rfl,F2,hv3.more m2,?_,fun k q=>(hn3 k q).imp id (fun r=>Nat.le_trans m.size r)⟩)
     exact ak (F':=fun _=>False) (ak (Turned.mono m (fun _ _ q=>q.elim)) ht3 (fun k q=> .inl q)) m2 (fun _ q=>q.elim)
    have be:(b==decide (x=1))=false:=by simp[hb]
    clear hb
    go_wp2_with (refine wpList_load_row rfl 139 _ rfl _ rfl 139 _ _ _ HC2.o Tryz.underlying139 rfl (by kernel_rfl) ?_)
    refine(AN HR.o k _).mono ?_
    rintro e w3 ⟨rfl,h3⟩
    have HM3:=hQQ h3
    have HV3:=hQQ (HV2.o.more h3)
    have HC3:=hQQ (h3.block HC2.o)
    clear h3
    go_wp2_with fail
    refine(yp F1 p kn D1 (dY c.pg c.st k) x w3 HV3.o lD1).mono ?_
    intro e w4 he
    obtain⟨rfl,ht4,hf⟩:=FIN.o w3 e w4 HM3.o he
    have HF:=hQQ hf
    have nC1:¬F1 w.heap.size:=fun q=>by
     have h0:w.heap.size<w1.heap.size:=ac HC1.o
     rcases HN1.o _ q with r|r
     ·exact nC r
     ·omega
    have HC4:Hq (w4.heap[w.heap.size]?=_):=hQQ ((Turned.block ht4 _ (ac HC3.o) nC1).trans HC3.o)
    clear hf he ht4
    go_wp2_with (refine wpList_load_row rfl 139 _ rfl _ rfl 139 _ _ _ HC4.o Tryz.underlying139 rfl (by kernel_rfl) ?_)
    refine(JS HR.o k _).mono ?_
    rintro e w5 ⟨rfl,h5⟩
    have HM5:=hQQ h5
    clear h5
    go_wp2_with fail
    go_ret
    exact HF.o _ HM5.o
attribute [local go_sem] Oper.semAt_some
section
variable {F:Fence}{n:Nat}{P:Program}{ops:Array Oper}{rest:List Oper}{o:Oper}{a:Act}{w:World}{Q:Exit→Act→World→Prop}
theorem gQ (hw:Region.wanted o (yielded ops a.tmps)=true)(ty:TypeId)(x:Operand)(ho:o.op=.load ty x)(g:Nat)(hx:a.eval x=.pointer (some ⟨g,0,none⟩))(v:Value)
 (hr:(loadVar ty ⟨g,0,none⟩).run P w=.ok v w) (h:wpListIn F n P ops Q rest (a.put o.dst v) w):wpListIn F n P ops Q (o::rest) a w :=
 BigFrame.wpListIn_want hw fun K hK=>by
  refine⟨by simp[Oper.about,ho],?_⟩
  rw[Oper.semAt_plain F _ _ (by rw[ho];intro c hc;cases hc)]
  simp[execOp,ho,hx,Instr.loadAt,Instr.sureAddr,Sem.run_bind,hr,Result.andThen]
  exact hK _ _ h
theorem ej (hw:Region.wanted o (yielded ops a.tmps)=true)(ty:TypeId)(x:Operand)(ho:o.op=.load ty x)
 (g:Nat) (hx:a.eval x=.pointer (some ⟨g,0,none⟩)) (t:TypeId) (cs:Array Value) (fr:Nat×Nat) (d:TypeDesc) (hg:w.heap[g]?=some (.cells cs t fr))
 (hu:P.underlying ty=some d) (hd:(match d with| .struct _| .array _ _=>true|_=>false)=true) (hi:(P.info? ty).map (·.size)=some cs.size)
 (h:wpListIn F n P ops Q rest (a.put o.dst (.agg cs)) w):wpListIn F n P ops Q (o::rest) a w :=
 gQ hw ty x ho g hx _ (run_loadVar_row w g t ty cs fr d hg hu hd hi) h
theorem jF (hw:Region.wanted o (yielded ops a.tmps)=true)(ty:TypeId)(x y:Operand)(ho:o.op=.store ty x y)
 (g:Nat) (hx:a.eval x=.pointer (some ⟨g,0,none⟩)) (cells:Array Value) (hy:a.eval y=.agg cells) (t:TypeId) (old:Array Value) (hg:w.heap[g]?=some (.cells old t (0,0)))
 (hi:(P.info? ty).map (·.size)=some cells.size) (hsz:old.size=cells.size) (hone:cells.all (·.oneCell')=true)
 (h:wpListIn F n P ops Q rest (a.put o.dst (.tuple #[])) (w.setRow g cells)):wpListIn F n P ops Q (o::rest) a w :=
 BigFrame.wpListIn_want hw fun K hK=>by
  refine⟨by simp[Oper.about,ho],?_⟩
  rw[Oper.semAt_plain F _ _ (by rw[ho];intro c hc;cases hc)]
  have hs:=run_storeVar_row (P:=P) w g t ty old cells hg hi hsz hone
  simp[execOp,ho,hx,hy,Instr.storeAt,Instr.sureAddr,Sem.run_bind,hs,Result.andThen]
  exact hK _ _ h
end
theorem sT {F:Fence}{n:Nat}{ops:Array Oper}{rest:List Oper}{o:Oper}{a:Act}{w:World}{Q:Exit→Act→World→Prop}(hw:Region.wanted o (yielded ops a.tmps)=true)(x y:Operand)(ho:o.op=.build 139 #[(0,x),(1,y)])(c:Cfg)(k:Int)
 (hx:a.eval x=.agg c.arr) (hy:a.eval y=.int .i64 k) (h:wpListIn F n Tryz.prog ops Q rest (a.put o.dst (.agg (ct c k))) w):wpListIn F n Tryz.prog ops Q (o::rest) a w :=
 BigFrame.wpListIn_want hw fun K hK=>by
  refine⟨by simp[Oper.about,ho],?_⟩
  rw[Oper.semAt_plain F _ _ (by rw[ho];intro c hc;cases hc)]
  have hb:=rf c k w
  simp only[execOp,ho,List.map_toArray,List.map_cons,List.map_nil,hx,hy,Sem.run_bind,hb,Result.andThen_ok]
  exact hK _ _ h
theorem wZ {ops:Array Oper}{rest:List Oper}{o:Oper}{a:Act}{w:World}{Q:Exit→Act→World→Prop}(hw:Region.wanted o (yielded ops a.tmps)=true)(x y:Operand)(ho:o.op=.build 139 #[(0,x),(1,y)])(c:Cfg)(k:Int)
 (hx:a.eval x=.agg c.arr) (hy:a.eval y=.int .i64 k) (h:wpList Tryz.prog ops Q rest (a.put o.dst (.agg (ct c k))) w):wpList Tryz.prog ops Q (o::rest) a w :=
 dU hw fun K hK=>by
  have hb:=rf c k w
  unfold Oper.wp execOp
  simp only[ho,List.map_toArray,List.map_cons,List.map_nil,hx,hy,Sem.run_bind,hb,Result.andThen_ok]
  exact hK _ _ h
theorem CZ {c:Cfg}(R:c.Ok)(p n:Int)(hp:W64 p)(w:World):Calls Tryz.prog 171 #[.agg c.arr,.int .i64 p,.int .i64 n] w (aQ w (.bool (cm c.pg p n))):=by
 have HC:=hQQ (aW w c.arr 28)
 have HM:Hq (ae w (w.alloc (.cells c.arr 28))):=(ae.refl w).alloc _
 have hfl:=fK c
 have p1:=R.pg1
 have p2:=R.pg2
 by_cases c0:0≤p
 ·by_cases c1:1≤n
  ·have q1:IntKind.i64.wrap (c.pg-p)=c.pg-p:=by unfold W64 at hp;exact aB (by omega) (by omega)
   rw[show cm c.pg p n=decide (n≤c.pg-p) by unfold cm;simp[c0,c1]]
   clear p1 p2 hp
   go_enter Tryz.func171,Tryz.ntmps171
   go_wp2_with (refine aM rfl rfl rfl HC.o (by kernel_rfl) ?_)
   refine(dw R _).mono ?_
   rintro e w2 ⟨rfl,h2⟩
   have HM2:=hQQ (HM.o.trans h2)
   clear h2
   go_wp2_with fail
   go_ret
   exact⟨rfl,HM2.o⟩
  ·rw[show cm c.pg p n=false by unfold cm;simp[c1]]
   have d1:decide (1≤n)=false:=by simp;omega
   go_enter Tryz.func171,Tryz.ntmps171
   go_wp2_with fail
   go_ret
   exact⟨rfl,HM.o⟩
 ·rw[show cm c.pg p n=false by unfold cm;simp[c0]]
  have d0:decide (0≤p)=false:=by simp;omega
  go_enter Tryz.func171,Tryz.ntmps171
  go_wp2_with fail
  go_ret
  exact⟨rfl,HM.o⟩
def el (pg p n:Int):Nat:=if cm pg p n then spanV p n else 0
def eF (w:World)(b:Nat)(x:Int):Prop:=w.heap[b]?=some (.cells #[.int .i64 x] 3 (0,0))
theorem JT (n:Nat){c:Cfg}(p q:Int)(w:World):
 CallsIn Fence.wide n Tryz.prog 165 #[.agg c.arr,.int .i64 p,.int .i64 q] w fun e w' =>
  e=.returned (.func (.func 170) #[] #[.pointer (some ⟨w.heap.size,0,none⟩),.pointer (some ⟨w.heap.size+1,0,none⟩),.pointer (some ⟨w.heap.size+2,0,none⟩)]) ∧
  w'=((w.alloc (.cells c.arr 28)).alloc (.cells #[.int .i64 p] 3)).alloc (.cells #[.int .i64 q] 3):=by
 refine callsIn_of_wp Tryz.func165 rfl trivial ?_ rfl
 simp only[Tryz.ntmps165,List.size_toArray,List.length_cons,List.length_nil,Nat.reduceAdd,Nat.reduceSub,Array.replicate_succ,Array.replicate_zero,List.push_toArray,List.append_toArray,List.nil_append,List.cons_append]
 gi_wp2
 go_ret
 exact⟨rfl,rfl⟩
theorem Eg (c:Cfg)(p q:Int)(w:World):
 (((w.alloc (.cells c.arr 28)).alloc (.cells #[.int .i64 p] 3)).alloc (.cells #[.int .i64 q] 3)).heap[w.heap.size]?=some (.cells c.arr 28 (0,0)) ∧
 eF (((w.alloc (.cells c.arr 28)).alloc (.cells #[.int .i64 p] 3)).alloc (.cells #[.int .i64 q] 3)) (w.heap.size+1) p ∧
 eF (((w.alloc (.cells c.arr 28)).alloc (.cells #[.int .i64 p] 3)).alloc (.cells #[.int .i64 q] 3)) (w.heap.size+2) q:=by
 have h0:=bz w (.cells c.arr 28)
 have s0:(w.alloc (.cells c.arr 28)).heap.size=w.heap.size+1:=by simp
 generalize w.alloc (.cells c.arr 28)=w1 at h0 s0⊢
 have h1:=bz w1 (.cells #[.int .i64 p] 3)
 rw[s0] at h1
 have s1:(w1.alloc (.cells #[.int .i64 p] 3)).heap.size=w.heap.size+2:=by simp[s0]
 have m1:ae w1 (w1.alloc (.cells #[.int .i64 p] 3)):=(ae.refl _).alloc _
 generalize w1.alloc (.cells #[.int .i64 p] 3)=w2 at h1 s1 m1⊢
 have h2:=bz w2 (.cells #[.int .i64 q] 3)
 rw[s1] at h2
 have m2:ae w2 (w2.alloc (.cells #[.int .i64 q] 3)):=(ae.refl _).alloc _
 exact⟨m2.block (m1.block h0),m2.block h1,h2⟩
theorem Eh (n:Nat)(hn:1≤n){c:Cfg}(R:c.Ok)(p q:Int)(hp:W64 p)(bl bp bq:Nat)(w0:World)(hl:w0.heap[bl]?=some (.cells c.arr 28 (0,0)))(hbp:eF w0 bp p)(hbq:eF w0 bq q):
 CG Fence.wide n Tryz.prog 170 #[.pointer (some ⟨bl,0,none⟩),.pointer (some ⟨bp,0,none⟩),.pointer (some ⟨bq,0,none⟩)] (fun i=> #[.agg (ct c (p / 4+(i:Int)))]) (el c.pg p q) (fun k=>k=bl∨k=bp∨k=bq) w0:=by
 intro l J Jx W hW hJ hJx hY h0
 have HL:=hQQ (hW.block hl)
 have HP:=hQQ (hW.block hbp)
 have HQ:=hQQ (hW.block hbq)
 have HR:=hQQ R
 have cp:=(aA HP.o).1
 have cq:=(aA HQ.o).1
 have TH:=hQQ (fun w=>CZ (c:=c) R p q hp w)
 have HJ:=hQQ hJ
 have HJx:=hQQ hJx
 have HY:=hQQ hY
 clear hl hbp hbq hW hJ hJx hY
 refine callsIn_of_wp Tryz.func170 rfl trivial ?_ rfl
 simp only[Tryz.ntmps170,List.size_toArray,List.length_cons,List.length_nil,Nat.reduceAdd,Nat.reduceSub,Array.replicate_succ,Array.replicate_zero,List.push_toArray,List.append_toArray,List.nil_append,List.cons_append]
 cases hth:cm c.pg p q with
 |false =>
  have hN:el c.pg p q=0:=by unfold el;rw[hth];rfl
  rw[hN] at HY⊢
  gi_wp2_with (first
   |(refine ej rfl 28 _ rfl _ rfl 28 _ _ _ HL.o Tryz.underlying28 rfl (by kernel_rfl) ?_)
   |((with_reducible refine And.intro ?_ ?_);exact trivial;gi_at_call 171;refine(callsIn_wide.2 (TH.o _)).mono ?_;rw[hth];rintro e w' ⟨rfl,h1⟩;have M1:=hQQ h1;clear h1))
  refine bodyPost_ret (results_none rfl _ _ _) rfl ?_
  exact .inl ⟨⟨_,rfl⟩,.inl (HJ.o _ _ _ h0 M1.o)⟩
 |true =>
  have hN:el c.pg p q=spanV p q:=by unfold el;rw[hth];rfl
  rw[hN] at HY⊢
  obtain⟨r0,r1,r2⟩:=d6.1 hth
  have pg2:=R.pg2
  have q1:IntKind.i64.wrap (p+q)=p+q:=aB (by omega) (by omega)
  have q2:IntKind.i64.wrap (p+q-1)=p+q-1:=aB (by omega) (by omega)
  have o1:ofV p=p / 4:=if_neg (by omega)
  have o2:ofV (p+q-1)=(p+q-1) / 4:=if_neg (by omega)
  obtain⟨sp,_⟩:=AM hth pg2
  have OP:=hQQ (fun w=>Mk p (by omega) (by omega) w)
  have OQ:=hQQ (fun w=>Mk (p+q-1) (by omega) (by omega) w)
  rw[o1] at OP
  rw[o2] at OQ
  clear o1 o2 r1 R hp
  gi_wp2_with (first
   |(refine ej rfl 28 _ rfl _ rfl 28 _ _ _ HL.o Tryz.underlying28 rfl (by kernel_rfl) ?_)
   |((with_reducible refine And.intro ?_ ?_);exact trivial;gi_at_call 171;refine(callsIn_wide.2 (TH.o _)).mono ?_;rw[hth];rintro e w' ⟨rfl,h1⟩;have M1:=hQQ h1;have cp1:=h1.cell cp;clear h1)
   |((with_reducible refine And.intro ?_ ?_);exact trivial;gi_at_call 57;refine(callsIn_wide.2 (OP.o _)).mono ?_;rintro e w' ⟨rfl,rfl⟩))
  have J0:=hQQ (HJ.o _ _ _ h0 M1.o)
  have HL1:=hQQ (M1.o.block HL.o)
  have HP1:=hQQ (M1.o.block HP.o)
  have HQ1:=hQQ (M1.o.block HQ.o)
  clear cp cq cp1 h0
  gi_loopw [5] (fun u wr=>∃i:Nat,i≤spanV p q∧u=.int .i64 (p / 4+(i:Int))∧J i wr∧wr.heap[bl]?=some (.cells c.arr 28 (0,0))∧eF wr bp p∧eF wr bq q) (fun u _=>((p+q-1) / 4+1-intOf u).toNat)
  case atStart=>exact⟨0,Nat.zero_le _,by simp,J0.o,HL1.o,HP1.o,HQ1.o⟩
  case round =>
   obtain⟨i,hi,rfl,hJi,hli,hpi,hqi⟩:=hrel
   have cpi:=(aA hpi).1
   have cqi:=(aA hqi).1
   have HLi:=hQQ hli
   have HPi:=hQQ hpi
   have HQi:=hQQ hqi
   have HJi:=hQQ hJi
   clear hli hpi hqi hJi
   by_cases hlt:i<spanV p q
   ·obtain⟨fn,tmps,assign,body,hy,hR⟩:=HY.o i wr hlt HJi.o
    have hld:(loadVar 28 ⟨bl,0,none⟩).run Tryz.prog wr=.ok (.agg c.arr) wr:=run_loadVar_row wr bl _ _ _ _ _ HLi.o Tryz.underlying28 rfl (by kernel_rfl)
    have d1:decide (p / 4+(i:Int)≤(p+q-1) / 4)=true:=by simp;omega
    have q3:IntKind.i64.wrap (p / 4+(i:Int)+1)=p / 4+(i:Int)+1:=aB (by omega) (by omega)
    gi_wp2_with (first
     |((with_reducible refine gQ ?_ 28 (.tmp 1) ?_ bl ?_ (.agg c.arr) ?_ ?_);rfl;rfl;rfl;exact hld)
     |((with_reducible refine sT ?_ (.tmp 23) (.tmp 24) ?_ c (p / 4+(i:Int)) ?_ ?_ ?_);rfl;rfl;rfl;rfl)
     |((with_reducible refine And.intro ?_ ?_);exact trivial;gi_at_call 57;refine(callsIn_wide.2 (OQ.o _)).mono ?_;rintro e w' ⟨rfl,rfl⟩))
    refine hR.mono ?_
    rintro e W3 (⟨rfl,hJ3,hs3⟩|⟨he,hJx3⟩)
    ·have HL3:=hQQ ((hs3 bl (.inl rfl)).trans HLi.o)
     have HP3:=hQQ ((hs3 bp (.inr (.inl rfl))).trans HPi.o)
     have HQ3:=hQQ ((hs3 bq (.inr (.inr rfl))).trans HQi.o)
     clear hs3
     gi_wp2
     go_roundw
     case rel=>exact⟨i+1,by omega,by go_num,hJ3,HL3.o,HP3.o,HQ3.o⟩
     case measure=>simp[intOf];omega
    ·rcases he with rfl|⟨ch,rfl⟩
     ·gi_wp2
      refine bodyPost_ret (results_none rfl _ _ _) rfl ?_
      exact .inl ⟨⟨_,rfl⟩,.inr ⟨i,hlt,hJx3⟩⟩
     ·exact⟨rfl,.inr ⟨ch,i,rfl,hlt,hJx3⟩⟩
   ·obtain rfl:i=spanV p q:=by omega
    have d1:decide (p / 4+((spanV p q:Nat):Int)≤(p+q-1) / 4)=false:=by simp;omega
    gi_wp2_with (first
     |((with_reducible refine And.intro ?_ ?_);exact trivial;gi_at_call 57;refine(callsIn_wide.2 (OQ.o _)).mono ?_;rintro e w' ⟨rfl,rfl⟩))
    go_end0
    exact .inl ⟨⟨_,rfl⟩,.inl HJi.o⟩
theorem jG {α:Type}{w w':World}{F:Nat→Prop}{p:Nat}{kn:Int→Option Int}{val:α→Value}{R:Res α}{e:Ending}(h:aI w F p kn val R e w'):(∃a,R=.need a∧e=.panicked (bB p))∨∃x D,R=.ok x D∧e=.returned (val x):=by
 cases R with
 |need a=>exact .inl ⟨a,rfl,h.1⟩
 |ok x D=>exact .inr ⟨x,D,rfl,h.1⟩
theorem GM {c:Cfg}(R:c.Ok)(F:Nat→Prop)(p:Nat)(kn:Int→Option Int)(D:List KV)(k:Int)(w:World)(hv:aF w F p kn D):
 Calls Tryz.prog 56 #[.pointer (some ⟨p,0,none⟩),.agg c.arr,.int .i64 k] w (aI w F p kn (fun b=> .bool b) (dS c.pg c.st k kn D)):=by
 have HC:=hQQ (aW w c.arr 28)
 have HM:Hq (ae w (w.alloc (.cells c.arr 28))):=(ae.refl w).alloc _
 have HV:=hQQ (hv.more HM.o)
 clear hv
 go_enter Tryz.func56,Tryz.ntmps56
 go_wp2_with (first|refine aM rfl rfl rfl HC.o (by kernel_rfl) ?_|((with_reducible refine wZ ?_ (.tmp 7) (.tmp 8) ?_ c k ?_ ?_ ?_);rfl;rfl;rfl;rfl))
 refine(sS R F p kn D k _ HV.o).mono ?_
 intro e w1 he
 have FIN:=hQQ (he.after HM.o)
 rcases jG he with⟨a,_,rfl⟩|⟨x,D',_,rfl⟩
 ·exact⟨rfl,FIN.o⟩
 ·clear he
  go_wp2_with fail
  go_ret
  exact FIN.o
end Go.Proofs.YtddmeghbmdfgeaaGreatDoor
