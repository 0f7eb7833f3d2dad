/-
  Rows of values of one cell each, in memory of the call's own: what a store, a run of stores, and the library's Insert and Delete make of them.
-/
import Derived.Test.YtfddhogffpkhcaaGreatDoorTdAa
import Derived.Sort.Row
import Derived.Laws.IdiomCopy
import Derived.Laws.AppendOwn
import Derived.Lib.Hide
import Derived.Test.YtfddhogffpkhcaaGreatDoorTdAb
import Derived.Test.YtfddhogffpkhcaaGreatDoorChecked
import Derived.WalkKit
import Derived.Outline
import Derived.Handy
import Derived.Deep.RegionHeld3
import Derived.Maps.OwnSet
import Derived.WalkArith
import Derived.LaidEqlPtr
import Derived.WalkSmall
import Derived.WalkLawsBesides
import Derived.StillTailTactics
import Derived.Deep.AppendLies
import Derived.WalkSpells
import Derived.Deep.DeepMust
import Derived.Recover
import Derived.RangeFuncBox
import Derived.RangeFuncLeaves
import Derived.RangeFuncCalls
import Derived.Shelf.Abstract
import Derived.OwnWalkIn
import Derived.TacticsInMore
import Derived.LoopNIn
import Derived.LoopIn
import Derived.Carry
import Derived.RangeFuncNested
import Derived.Maps.OwnIn
import Derived.Test.YtfddhogffpkhcaaGreatDoorRows
import Derived.Shelf.SlicesG.Clone
set_option maxRecDepth 100000
set_option maxHeartbeats 8000000
set_option linter.all false
namespace Go.Proofs.YtfddhogffpkhcaaGreatDoor
open Go.RowKit Go.Sort
theorem lA {w:World}{b:Nat}{c:Array Value}{e:TypeId}{fr:Nat×Nat}(f:Array Value→Array Value)(h:w.heap[b]?=some (.cells c e fr)):(mapBlock w b f).heap[b]?=some (.cells (f c) e fr):=by
 simp[mapBlock,Array.getElem?_modify,h,onCells]
def RowAt (w:World)(e:TypeId)(xs:List Value)(a:Option Addr)(cap:Nat):Prop :=
 (a=none∧cap=0∧xs= [])∨∃g cur,a=some ⟨g,0,none⟩∧w.heap[g]?=some (.cells cur e (0,0))∧xs.length≤cap∧cap≤maxLen∧cur.size=cap∧cur.toList.take xs.length=xs
def fx (a:Option Addr)(k:Nat):Prop:=a.map (·.block)=some k
namespace RowAt
variable {w w':World}{e:TypeId}{xs:List Value}{a:Option Addr}{cap:Nat}
theorem nil (w:World)(e:TypeId):RowAt w e [] none 0:= .inl ⟨rfl,rfl,rfl⟩
theorem keep (h:RowAt w e xs a cap){S:Nat→Prop}(ht:Turned S w w')(hs:∀k,fx a k→¬S k):RowAt w' e xs a cap:=by
 rcases h with h|⟨g,cur,rfl,hg,rest⟩
 ·exact .inl h
 ·refine .inr ⟨g,cur,rfl,?_,rest⟩
  rw[Turned.block ht g (ac hg) (hs g rfl)];exact hg
theorem lt (h:RowAt w e xs a cap):∀k,fx a k→k<w.heap.size:=by
 rcases h with⟨rfl,_⟩|⟨g,cur,rfl,hg,_⟩
 ·intro k hk;cases hk
 ·intro k hk;cases hk;exact ac hg
theorem of_own {base n:Nat}{v:Value}(h:w.ownsRow base e 1 v n xs):∃a cap,v=.slice a n cap∧RowAt w e xs a cap∧(∀k,fx a k→base≤k)∧xs.length=n:=by
 have hl:xs.length=n:=by have:=h.1;omega
 rcases h.2 with⟨rfl,rfl⟩|⟨g,cap,cur,rfl,hb,hg,hn,hm,hs,ht⟩
 ·exact⟨none,0,rfl,.inl ⟨rfl,rfl,List.length_eq_zero_iff.1 hl⟩,(fun k hk=>by cases hk),hl⟩
 ·exact⟨_,cap,rfl,.inr ⟨g,cur,rfl,hg,by omega,hm,by omega,by rw[hl];simpa using ht⟩,fun k hk=>by cases hk;exact hb,hl⟩
theorem own (h:RowAt w e xs a cap){base:Nat}(hb:∀k,fx a k→base≤k):w.ownsRow base e 1 (.slice a xs.length cap) xs.length xs:=by
 refine⟨by omega,?_⟩
 rcases h with⟨rfl,rfl,rfl⟩|⟨g,cur,rfl,hg,hn,hm,hs,ht⟩
 ·exact .inl ⟨rfl,rfl⟩
 ·exact .inr ⟨g,cap,cur,rfl,hb g rfl,hg,hn,hm,by omega,by simpa using ht⟩
theorem reads (h:RowAt w e xs a cap)(h0:0<xs.length):∃g,a=some ⟨g,0,none⟩∧g<w.heap.size∧(∀j v,xs[j]?=some v→w.cell? ⟨g,j,none⟩=some v)∧∀j,w.frozen? ⟨g,j,none⟩=false:=by
 rcases h with⟨rfl,_,rfl⟩|⟨g,cur,rfl,hg,hn,hm,hs,ht⟩
 ·simp at h0
 ·refine⟨g,rfl,ac hg,fun j v hj=>?_,fun j=>by simp[World.frozen?,hg]⟩
  have hj':j<xs.length:=(List.getElem?_eq_some_iff.1 hj).1
  have e1:cur.toList[j]?=some v:=by
   have:(cur.toList.take xs.length)[j]?=some v:=by rw[ht];exact hj
   rw[List.getElem?_take,if_pos hj'] at this;exact this
  simp[World.cell?,hg]
  simpa using e1
end RowAt
theorem AH {w:World}{e:TypeId}{xs:List Value}{g cap i:Nat}(x:Value)(h:RowAt w e xs (some ⟨g,0,none⟩) cap)(hi:i<xs.length):RowAt (w.setCell ⟨g,i,none⟩ x) e (xs.set i x) (some ⟨g,0,none⟩) cap:=by
 rcases h with⟨h,_⟩|⟨g',cur,h,hg,hn,hm,hs,ht⟩
 ·cases h
 ·cases h
  rw[setCell_eq]
  refine .inr ⟨g,_,rfl,lA _ hg,by simpa using hn,hm,by simpa using hs,?_⟩
  rw[Array.toList_setIfInBounds,List.length_set,List.take_set,ht]
open Go.Shelf
theorem IW (zs:List Int)(k:Int)(a:Option Addr)(cap:Nat)(w:World)(h:RowAt w 3 (zs.map (Value.int .i64)) a cap)(hs:zs.Pairwise (· ≤ ·))(hl:zs.length≤1000000):
 Calls Tryz.prog 150 #[.slice a zs.length cap,.int .i64 k] w fun e w'=>e=.returned (.tuple #[.int .i64 (zs.countP (· <k):Nat),.bool (zs.contains k)])∧∃q,w'=w.drewN q:=by
 by_cases h0:zs.length=0
 ·obtain rfl:zs= []:=List.length_eq_zero_iff.1 h0
  clear h h0 hs hl
  have E:∃q,w.drewN 1=w.drewN q:=⟨_,rfl⟩
  go_enter Tryz.func150,Tryz.ntmps150
  go_wp2_with fail
  go_loop [7,8] (fun i j=>i=.int .i64 0∧j=.int .i64 0) (fun _ _=>0)
  case atStart=>exact⟨rfl,rfl⟩
  case round =>
   obtain⟨rfl,rfl⟩:=hrel
   go_wp2_with fail
   all_goals first|(go_quiet (fail);go_wp2_with fail)|skip
   all_goals go_ret2
   all_goals exact⟨rfl,0,rfl⟩
 ·obtain⟨g,rfl,hg,hc,hf⟩:=h.reads (by simp;omega)
  have:=AnyG.slices_BinarySearch_int Tryz.lSearch g 0 zs.length cap zs k w (Nat.le_refl _) (by omega) (fun j hj=>by rw[Nat.zero_add];exact hc j _ (by rw[List.getElem?_map,List.getElem?_eq_getElem hj];simp[List.getD,hj])) (by rw[List.take_length];exact hs)
  rw[List.take_length] at this
  exact this
section
theorem Gu (xs:List Int):∀v∈xs.map (Value.int .i64),v.oneCell'=true:=by
 intro v hv
 obtain⟨x,_,rfl⟩:=List.mem_map.1 hv
 rfl
theorem Dl:∃i:TypeInfo,Tryz.prog.info? 3=some i∧i.zero=some (Value.int .i64 0)∧i.size=1∧i.bytes=8:=by
 have h1:(Tryz.prog.info? 3).map (·.size)=some 1:=by kernel_rfl
 have h2:(Tryz.prog.info? 3).bind (·.zero)=some (Value.int .i64 0):=by kernel_rfl
 have h3:(Tryz.prog.info? 3).map (·.bytes)=some 8:=by kernel_rfl
 cases q:Tryz.prog.info? 3 with
 |none=>rw[q] at h1;simp at h1
 |some i=>rw[q] at h1 h2 h3;exact⟨i,rfl,by simpa using h2,by simpa using h1,by simpa using h3⟩
theorem rf (xs:List Int)(hl:xs.length≤1000000)(a:Option Addr)(cap:Nat)(w:World)(h:RowAt w 3 (xs.map (Value.int .i64)) a cap):
 Calls Tryz.prog 34 #[.slice a xs.length cap] w
  fun e w'=>∃a' cap',e=.returned (.slice a' xs.length cap')∧RowAt w' 3 (xs.map (Value.int .i64)) a' cap'∧ae w w'∧∀k,fx a' k→w.heap.size≤k:=by
 have hlen:(xs.map (Value.int .i64)).length=xs.length:=by simp
 rcases h with⟨rfl,rfl,hx⟩|⟨g,cur,rfl,hg,hn,hm,hs,ht⟩
 ·have h0:xs= []:=by simpa using hx
  subst h0
  refine(AnyE.slices_Clone_nil { Tryz.lCloneI with } 0 0 w).mono ?_
  rintro e w' ⟨rfl,rfl⟩
  exact⟨_,_,rfl,RowAt.nil _ _,ae.refl _,fun k hk=>by cases hk⟩
 ·obtain⟨i0,hi0,hz0,hz1,hz2⟩:=Dl
  refine(AnyE.slices_Clone { Tryz.lCloneI with } i0 (Value.int .i64 0) 1 8 hi0 hz0 hz1 hz2 rfl (by omega) Tryz.sizeOf3 g 0 xs.length cap (xs.map (Value.int .i64)) w (by omega) (by unfold maxLen;omega) (by omega)
   (fun j v hj=>by
    have hj':j<xs.length:=by have:=(List.getElem?_eq_some_iff.1 hj).1;omega
    rw[←ht,List.getElem?_take,if_pos (by omega)] at hj
    simp[World.cell?,hg]
    simpa using hj) (Gu xs)).mono ?_
  rintro e w' ⟨v',rfl,hown,_,hB⟩
  obtain⟨a',cap',rfl,hr,hb,_⟩:=RowAt.of_own hown
  exact⟨_,_,rfl,hr,⟨hB.os,hB.tape,hB.output,hB.size,fun k hk _=>hB.block k hk⟩,hb⟩
end
def gN (D:List KV):List Value:=(gy D).map (Value.int .i64)
def gO (D:List KV):List Value:=(lK D).map (Value.int .i64)
theorem jB (D:List KV):(gy D).length=D.length:=by simp[gy]
theorem pz (D:List KV):(lK D).length=D.length:=by simp[lK]
theorem sG (D:List KV):(gN D).length=D.length:=by simp[gN,gy]
theorem my (D:List KV):(gO D).length=D.length:=by simp[gO,lK]
structure ia (w:World)(F:Nat→Prop)(p:Nat)(D:List KV):Prop where
 asc:Asc D
 small:D.length≤100000
 lt:∀k,F k→k<w.heap.size
 ex:∃ka kc va vc,w.heap[p]?=some (.cells #[.slice ka D.length kc,.slice va D.length vc] 135 (0,0))∧RowAt w 3 (gN D) ka kc∧RowAt w 3 (gO D) va vc∧F p ∧
  (∀k,fx ka k→F k∧k≠p)∧(∀k,fx va k→F k∧k≠p∧¬fx ka k)
theorem ia.keep {w w':World}{F S:Nat→Prop}{p:Nat}{D:List KV}(h:ia w F p D)(ht:Turned S w w')(hs:∀k,F k→¬S k):ia w' F p D:=by
 obtain⟨ka,kc,va,vc,hp,hk,hv,fp,fk,fv⟩:=h.ex
 exact⟨h.asc,h.small,fun k hk=>Nat.lt_of_lt_of_le (h.lt k hk) ht.size,ka,kc,va,vc,by rw[Turned.block ht p (ac hp) (hs p fp)];exact hp,
  hk.keep ht (fun k q=>hs k (fk k q).1),hv.keep ht (fun k q=>hs k (fv k q).1),fp,fk,fv⟩
theorem ia.more {w w':World}{F:Nat→Prop}{p:Nat}{D:List KV}(h:ia w F p D)(ht:ae w w'):ia w' F p D:=h.keep ht (fun _ _ q=>q)
theorem jC (w:World)(q:Nat):ae w (w.drewN q):=(ae.refl w).drewN q
theorem uo {D:List KV}(h:Asc D):(gy D).Pairwise (· ≤ ·):=by
 unfold gy Asc at *
 rw[List.pairwise_map]
 exact h.imp (fun {a b} q=>by omega)
theorem xb (D:List KV)(k:Int):(gy D).countP (· <k)=pos D k:=by
 unfold gy pos
 rw[List.countP_map];rfl
theorem Dm (D:List KV)(k:Int):(gy D).contains k=(look D k).isSome:=by
 rw[Bool.eq_iff_iff]
 rw[List.contains_iff_mem]
 unfold gy
 rw[List.mem_map]
 constructor
 ·rintro⟨p,hp,rfl⟩
  cases e:look D p.1 with
  |some v=>rfl
  |none=>exact absurd rfl (gG.1 e p hp)
 ·intro h
  cases e:look D k with
  |none=>rw[e] at h;cases h
  |some v=>exact⟨_,mt e,rfl⟩
theorem mz {w:World}{p:Nat}{a b:Value}{T:TypeId}(h:w.heap[p]?=some (.cells #[a,b] T (0,0))):w.cell? ⟨p,0,none⟩=some a∧w.cell? ⟨p,1,none⟩=some b∧(∀j,w.frozen? ⟨p,j,none⟩=false)∧p<w.heap.size :=
 ⟨by simp[World.cell?,h],by simp[World.cell?,h],fun j=>by simp[World.frozen?,h],ac h⟩
theorem xd {w:World}{D:List KV}(hD:Asc D)(hs:D.length≤100000)(k:Int){ka:Option Addr}{kc:Nat}(hk:RowAt w 3 (gN D) ka kc):
 Calls Tryz.prog 150 #[.slice ka D.length kc,.int .i64 k] w fun e w'=>e=.returned (.tuple #[.int .i64 (pos D k:Nat),.bool (look D k).isSome])∧∃q,w'=w.drewN q:=by
 have S:=IW (gy D) k ka kc w hk (uo hD) (by rw[jB];omega)
 rw[jB,xb,Dm] at S
 exact S
theorem Gv (F:Nat→Prop)(p:Nat)(D:List KV)(k:Int)(w:World)(h:ia w F p D):
 Calls Tryz.prog 140 #[.pointer (some ⟨p,0,none⟩),.int .i64 k] w fun e w'=>e=.returned (.tuple #[.int .i64 (pos D k:Nat),.bool (look D k).isSome])∧∃q,w'=w.drewN q:=by
 obtain⟨ka,kc,va,vc,hp,hk,hv,_⟩:=h.ex
 obtain⟨c0,c1,f0,hlt⟩:=mz hp
 have C:=hQQ (xd h.asc h.small k hk)
 clear h hp hk hv
 generalize pos D k=i at C⊢
 generalize (look D k).isSome=b at C⊢
 generalize D.length=n at c0 c1 C
 go_enter Tryz.func140,Tryz.ntmps140
 go_wp2_with (go_at_call 150;refine C.o.mono ?_;rintro e w' ⟨rfl,q,rfl⟩)
 go_ret2
 exact⟨rfl,q,rfl⟩
theorem Dn (F:Nat→Prop)(p:Nat)(D:List KV)(w:World)(h:ia w F p D):
 Calls Tryz.prog 138 #[.pointer (some ⟨p,0,none⟩)] w fun e w'=>e=.returned (.int .i64 D.length)∧w'=w:=by
 obtain⟨ka,kc,va,vc,hp,hk,hv,_⟩:=h.ex
 obtain⟨c0,c1,f0,hlt⟩:=mz hp
 clear h hp hk hv
 generalize D.length=n at c0 c1⊢
 go_enter Tryz.func138,Tryz.ntmps138
 go_wp2_with fail
 go_ret
 exact⟨rfl,rfl⟩
theorem xe (F:Nat→Prop)(p:Nat)(D:List KV)(k:Int)(w:World)(h:ia w F p D):
 Calls Tryz.prog 115 #[.pointer (some ⟨p,0,none⟩),.int .i64 k] w fun e w'=>e=.returned (.tuple #[.int .i64 ((look D k).getD 0),.bool (look D k).isSome])∧∃q,w'=w.drewN q:=by
 have C:=hQQ (Gv F p D k w h)
 have hasc:=h.asc
 obtain⟨ka,kc,va,vc,hp,hk,hv,_⟩:=h.ex
 obtain⟨c0,c1,f0,hlt⟩:=mz hp
 cases e:look D k with
 |none =>
  rw[e] at C
  clear h hp hk hv e hasc
  generalize D.length=n at c0 c1
  go_enter Tryz.func115,Tryz.ntmps115
  go_wp2_with (go_at_call 140;refine C.o.mono ?_;rintro e w' ⟨rfl,q,rfl⟩)
  go_ret2
  exact⟨rfl,q,rfl⟩
 |some v =>
  rw[e] at C
  obtain⟨A,B,hD,hl,_⟩:=hasc.with e
  have hi:pos D k<D.length:=by rw[←hl,hD];simp
  obtain⟨g,rfl,hg,hc,hf⟩:=hv.reads (by rw[my];omega)
  have cv:w.cell? ⟨g,pos D k,none⟩=some (.int .i64 v):=hc _ _ (by rw[←hl];unfold gO lK;rw[hD];simp)
  clear h hp hk hv e hasc hc hD hl
  generalize pos D k=i at C cv hi
  generalize D.length=n at c0 c1 hi
  go_enter Tryz.func115,Tryz.ntmps115
  go_wp2_with (go_at_call 140;refine C.o.mono ?_;rintro e w' ⟨rfl,q,rfl⟩)
  go_ret2
  exact⟨rfl,q,rfl⟩
theorem JW (F:Nat→Prop)(p:Nat)(D:List KV)(i:Nat)(q:KV)(w:World)(h:ia w F p D)(hq:D[i]?=some q):
 Calls Tryz.prog 139 #[.pointer (some ⟨p,0,none⟩),.int .i64 i] w fun e w'=>e=.returned (.tuple #[.int .i64 q.1,.int .i64 q.2,.bool true])∧∃n,w'=w.drewN n:=by
 have C:=hQQ (Dn F p D w h)
 have hi:i<D.length:=(List.getElem?_eq_some_iff.1 hq).1
 obtain⟨ka,kc,va,vc,hp,hk,hv,_⟩:=h.ex
 obtain⟨c0,c1,f0,hlt⟩:=mz hp
 obtain⟨g,rfl,hg,hc,hf⟩:=hv.reads (by rw[my];omega)
 obtain⟨g2,rfl,hg2,hc2,hf2⟩:=hk.reads (by rw[sG];omega)
 have cv:w.cell? ⟨g,i,none⟩=some (.int .i64 q.2):=hc _ _ (by unfold gO lK;simp[hq])
 have ck:w.cell? ⟨g2,i,none⟩=some (.int .i64 q.1):=hc2 _ _ (by unfold gN gy;simp[hq])
 have hs:=h.small
 clear h hp hk hv hc hc2 hq
 have d1:decide ((i:Int)<0)=false:=by simp
 have d2:decide ((D.length:Int)≤(i:Int))=false:=by simp;omega
 generalize D.length=n at c0 c1 hi C hs d2
 obtain⟨qk,qv⟩:=q
 simp only at cv ck⊢
 go_enter Tryz.func139,Tryz.ntmps139
 go_wp2_with (go_at_call 138;refine C.o.mono ?_;rintro e w' ⟨rfl,rfl⟩)
 go_quiet (fail)
 go_wp2_with fail
 go_ret3
 exact⟨rfl,_,rfl⟩
def o8 (w:World)(D:List KV)(e:Ending)(w':World):Prop:=∃F p,e=.returned (.pointer (some ⟨p,0,none⟩))∧ia w' F p D∧ae w w'∧∀k,F k→w.heap.size≤k
theorem bu {w:World}{b o:Nat}{c:Array Value}{e:TypeId}{fr:Nat×Nat}(x:Value)(h:w.heap[b]?=some (.cells c e fr)):(w.setCell ⟨b,o,none⟩ x).heap[b]?=some (.cells (c.setIfInBounds o x) e fr):=by
 rw[setCell_eq];exact lA _ h
theorem cu {S:Nat→Prop}{w w':World}(ht:Turned S w w'){b o:Nat}(hb:b<w.heap.size→S b)(x:Value):Turned S w (w'.setCell ⟨b,o,none⟩ x):=ht.setCell _ _ hb
theorem IX (w:World):Calls Tryz.prog 72 #[] w (o8 w []):=by
 have hh:=bm w (.cells #[.slice none 0 0,.slice none 0 0] 135)
 have fin:o8 w [] (.returned (.pointer (some ⟨w.heap.size,0,none⟩))) (w.alloc (.cells #[.slice none 0 0,.slice none 0 0] 135)):=by
  refine⟨fun k=>k=w.heap.size,w.heap.size,rfl,⟨yM,by simp,fun k hk=>by subst hk;simp,none,0,none,0,hh,RowAt.nil _ _,RowAt.nil _ _,rfl,(fun k hk=>by cases hk),(fun k hk=>by cases hk)⟩,(ae.refl w).alloc _,fun k hk=>by omega⟩
 go_enter Tryz.func72,Tryz.ntmps72
 go_wp2_with fail
 go_ret
 exact fin
structure sH (w W W':World)(e:TypeId)(xs:List Value)(a:Option Addr)(cap:Nat):Prop where
 row:RowAt W' e xs a cap
 step:ae W W'
 all:ae w W'
 new:∀k,fx a k→W.heap.size≤k
theorem xg {w:World}{D:List KV}(hs:D.length≤100000){a:Option Addr}{cap:Nat}(h:RowAt w 3 (gN D) a cap)(W:World)(hW:ae w W):
 Calls Tryz.prog 34 #[.slice a D.length cap] W fun e W'=>∃a' cap',e=.returned (.slice a' D.length cap')∧sH w W W' 3 (gN D) a' cap':=by
 have:=rf (gy D) (by rw[jB];omega) a cap W (h.keep hW (fun _ _ q=>q))
 rw[jB] at this
 refine this.mono ?_
 rintro e W' ⟨a',cap',rfl,hr,hm,hn⟩
 exact⟨a',cap',rfl,hr,hm,hW.trans hm,hn⟩
theorem xi {w:World}{D:List KV}(hs:D.length≤100000){a:Option Addr}{cap:Nat}(h:RowAt w 3 (gO D) a cap)(W:World)(hW:ae w W):
 Calls Tryz.prog 34 #[.slice a D.length cap] W fun e W'=>∃a' cap',e=.returned (.slice a' D.length cap')∧sH w W W' 3 (gO D) a' cap':=by
 have:=rf (lK D) (by rw[pz];omega) a cap W (h.keep hW (fun _ _ q=>q))
 rw[pz] at this
 refine this.mono ?_
 rintro e W' ⟨a',cap',rfl,hr,hm,hn⟩
 exact⟨a',cap',rfl,hr,hm,hW.trans hm,hn⟩
theorem uq {w Wk Wk' Wv Wv' W:World}{D:List KV}(ha:Asc D)(hs:D.length≤100000){ka va:Option Addr}{kc vc:Nat}(hk:sH w Wk Wk' 3 (gN D) ka kc)(hv:sH w Wv Wv' 3 (gO D) va vc)
 (mk:ae Wk' W) (mv:ae Wv' W) (hw1:w.heap.size≤Wk.heap.size) (hw2:w.heap.size≤Wv.heap.size) (hd:Wk'.heap.size≤Wv.heap.size∨Wv'.heap.size≤Wk.heap.size):
 o8 w D (.returned (.pointer (some ⟨W.heap.size,0,none⟩))) (W.alloc (.cells #[.slice ka D.length kc,.slice va D.length vc] 135)):=by
 have m:=(ae.refl W).alloc (.cells #[.slice ka D.length kc,.slice va D.length vc] 135)
 have hk':=hk.row.keep mk (fun _ _ q=>q)
 have hv':=hv.row.keep mv (fun _ _ q=>q)
 have lk:=hk.row.lt
 have lv:=hv.row.lt
 have sk:=mk.size
 have sv:=mv.size
 refine⟨fun k=>w.heap.size≤k∧k<W.heap.size+1,W.heap.size,rfl,⟨ha,hs,fun k q=>by simp;omega,ka,kc,va,vc,bm W _,hk'.keep m (fun _ _ q=>q),hv'.keep m (fun _ _ q=>q),⟨by have:=hk.all.size;omega,by omega⟩,?_,?_⟩,(hk.all.trans mk).trans m,fun k q=>q.1⟩
 ·intro k q
  have:=hk.new k q;have:=lk k q
  exact⟨⟨by omega,by omega⟩,by omega⟩
 ·intro k q
  have:=hv.new k q;have:=lv k q
  refine⟨⟨by omega,by omega⟩,by omega,fun r=>?_⟩
  have:=hk.new k r;have:=lk k r
  omega
theorem Gw (F:Nat→Prop)(p:Nat)(D:List KV)(w:World)(h:ia w F p D):
 Calls Tryz.prog 137 #[.pointer (some ⟨p,0,none⟩)] w (o8 w D):=by
 obtain⟨ka,kc,va,vc,hp,hk,hv,_⟩:=h.ex
 obtain⟨c0,c1,f0,hlt⟩:=mz hp
 have CK:=hQQ (xg h.small hk)
 have CV:=hQQ (xi h.small hv)
 have HA:=hQQ h.asc
 have HS:=hQQ h.small
 have C0:=hQQ c0
 have C1:=hQQ c1
 clear h hp hk hv
 go_enter Tryz.func137,Tryz.ntmps137
 go_wp2_with fail
 go_region_held3 (fun w'=>w'.cell? ⟨p,0,none⟩=some (.slice ka D.length kc)∧w'.cell? ⟨p,1,none⟩=some (.slice va D.length vc))
  (first|exact⟨M40.o.cell C0.o,M40.o.cell C1.o⟩|exact⟨M41.o.cell C0.o,M41.o.cell C1.o⟩|go_keep)
  (first
   |(go_at_call 34;refine(CK.o _ (by first|exact M41.o|exact M41.o.drew|exact(ae.refl w).drew|exact ae.refl w)).mono ?_;rintro e w40 ⟨a40,c40,rfl,h40⟩;have H40:=hQQ h40;have M40:=hQQ h40.all;clear h40)
   |(go_at_call 34;refine(CV.o _ (by first|exact M40.o|exact M40.o.drew|exact(ae.refl w).drew|exact ae.refl w)).mono ?_;rintro e w41 ⟨a41,c41,rfl,h41⟩;have H41:=hQQ h41;have M41:=hQQ h41.all;clear h41))
 all_goals go_wp2_with fail
 all_goals go_ret
 all_goals first
  |exact uq HA.o HS.o H40.o H41.o H41.o.step (ae.refl _) (by simp) M40.o.size (.inl (Nat.le_refl _))
  |exact uq HA.o HS.o H40.o H41.o (ae.refl _) H40.o.step M41.o.size (by simp) (.inr (Nat.le_refl _))
open Go.Maps
theorem Iu {x:Int}(h:W64 x):(Lit.int .i64 x).wf=true:=WalkArith.wf_i64 h
theorem yT {x:Int}(h:(Lit.int .i64 x).wf=true):W64 x:=by
 simp only[Lit.wf,Bool.and_eq_true,decide_eq_true_eq] at h
 exact⟨h.1,h.2⟩
theorem sI:Keyed Tryz.prog 3:=int_keyed Tryz.underlying3
theorem Dp (w:World):(zeroValue 3).run Tryz.prog w=.ok (.int .i64 0) w:=by kernel_rfl
theorem sJ {x:Int}(h:W64 x):keyOf Tryz.prog 3 (.int .i64 x)=some (.int .i64 x):=keyOf_int_mk Tryz.underlying3 (Iu h)
def KnownAt (w:World)(M n:Nat)(kn:Int→Option Int):Prop :=
 ∃D:DataW Unit,w.ownsMap Tryz.prog 3 (plainElem Tryz.prog 3) M n D∧∀x,W64 x→Maps.has D (.int .i64 x)=(kn x).isSome∧D.atKey (.int .i64 x) (.lit (.int .i64 0))=.lit (.int .i64 ((kn x).getD 0))
namespace KnownAt
variable {w w':World}{M n:Nat}{kn:Int→Option Int}
theorem lt (h:KnownAt w M n kn):M<w.heap.size:=by obtain⟨D,hD,_⟩:=h;exact hD.lt
theorem keep (h:KnownAt w M n kn){S:Nat→Prop}(t:Turned S w w')(hs:¬S M):KnownAt w' M n kn:=by
 obtain⟨D,⟨es,clock,hb,F⟩,hk⟩:=h
 exact⟨D,⟨es,clock,(Turned.block t M (ac hb) hs).trans hb,F⟩,hk⟩
theorem more (h:KnownAt w M n kn)(t:ae w w'):KnownAt w' M n kn:=h.keep t (fun q=>q)
theorem look (h:KnownAt w M n kn){a:Int}(ha:W64 a):(Instr.lookup 77 (.map (some M)) (.int .i64 a) true).run Tryz.prog w=.ok (.tuple #[.int .i64 ((kn a).getD 0),.bool (kn a).isSome]) w:=by
 obtain⟨D,hD,hk⟩:=h
 obtain⟨v,ps,hr,hv⟩:=hD.look_ok sI Tryz.underlying77 (Dp w) (plainElem_int Tryz.underlying3 (by decide)) (sJ ha)
 obtain⟨c,rfl,hc,_⟩:=plainElem_int_inv Tryz.underlying3 hv
 obtain⟨h1,h2⟩:=hk a ha
 rw[h1] at hr
 rw[h2] at hc
 simp only[Prod.mk.injEq,DataW.lit.injEq,Lit.int.injEq,true_and] at hc
 rw[hr,←hc.1]
theorem made (w:World):KnownAt (w.alloc (.map #[] 0)) w.heap.size 0 (fun _=>none):=
 ⟨.map [],World.ownsMap_made _ _ _ _,fun x _=>⟨rfl,rfl⟩⟩
theorem store (h:KnownAt w M n kn){a x:Int}(ha:W64 a)(hx:W64 x)(hn:n<maxLen):
 ∃w',(Instr.mapUpdate 77 (.map (some M)) (.int .i64 a) (.int .i64 x)).run Tryz.prog w=.ok () w'∧KnownAt w' M (n+1) (fun y=>if y=a then some x else kn y)∧Turned (fun k=>k=M) w w':=by
 obtain⟨D,hD,hk⟩:=h
 obtain⟨w',hr,h1,h2⟩:=hD.update sI Tryz.underlying77 hn (sJ ha) (plainElem_int Tryz.underlying3 (Iu hx))
 refine⟨w',hr,⟨_,h1,fun y hy=>?_⟩,⟨h2.os,h2.tape,h2.output,h2.size,fun k hk hne=>h2.block k hk (fun e=>hne (Option.some.inj e))⟩⟩
 by_cases e:y=a
 ·subst e
  dsimp only
  rw[if_pos rfl]
  refine⟨has_put_same hD.isMap ?_ _,atKey_put_same hD.isMap ?_ _ _⟩<;>exact sI.key (sJ ha)
 ·have hne:(Lit.int .i64 y)≠Lit.int .i64 a:=fun q=>e (by simpa using q)
  dsimp only
  rw[if_neg e,has_put_other hne,atKey_put_other hne]
  exact hk y hy
end KnownAt
def bS (self:Option Addr)(M q:Nat)(need:Int):Array Value:= #[.pointer self,.map (some M),.pointer (some ⟨q,0,none⟩),.int .i64 need]
structure bI (w:World)(F:Nat→Prop)(p:Nat)(kn:Int→Option Int)(D:List KV):Prop where
 ex:∃M q n F0,w.heap[p]?=some (.cells (bS (some ⟨p,0,none⟩) M q (-1)) 107 (0,0))∧KnownAt w M n kn∧ia w F0 q D∧F p∧(∀k,F0 k→F k∧k≠p)∧¬F M
 lt:∀k,F k→k<w.heap.size
def eC (w:World)(p:Nat)(need:Int):Prop:=∃M q,w.heap[p]?=some (.cells (bS none M q need) 107 (0,0))
theorem bI.keep {w w':World}{F S:Nat→Prop}{p:Nat}{kn:Int→Option Int}{D:List KV}(h:bI w F p kn D)(ht:Turned S w w')(hs:∀k,F k→¬S k)(hM:∀k,S k→F k∨False):bI w' F p kn D:=by
 obtain⟨M,q,n,F0,hp,hk,hm,fp,f0,fM⟩:=h.ex
 refine⟨⟨M,q,n,F0,by rw[Turned.block ht p (ac hp) (hs p fp)];exact hp,hk.keep ht (fun q=>?_),hm.keep ht (fun k q=>hs k (f0 k q).1),fp,f0,fM⟩,fun k hk=>Nat.lt_of_lt_of_le (h.lt k hk) ht.size⟩
 rcases hM M q with r|r
 ·exact fM r
 ·exact r
theorem bI.more {w w':World}{F:Nat→Prop}{p:Nat}{kn:Int→Option Int}{D:List KV}(h:bI w F p kn D)(ht:ae w w'):bI w' F p kn D:=h.keep ht (fun _ _ q=>q) (fun _ q=> .inr q)
theorem eC.keep {w w':World}{S:Nat→Prop}{p:Nat}{a:Int}(h:eC w p a)(ht:Turned S w w')(hs:¬S p):eC w' p a:=by
 obtain⟨M,q,hp⟩:=h
 exact⟨M,q,by rw[Turned.block ht p (ac hp) hs];exact hp⟩
def eT (p:Nat):List PanicEntry:= [{ v:= .iface 109 (.agg #[.pointer (some ⟨p,0,none⟩)]),recovered:=false }]
theorem dC {w:World}{p M q:Nat}{self:Option Addr}{need:Int}(h:w.heap[p]?=some (.cells (bS self M q need) 107 (0,0))):
 w.cell? ⟨p,0,none⟩=some (.pointer self)∧w.cell? ⟨p,1,none⟩=some (.map (some M))∧w.cell? ⟨p,2,none⟩=some (.pointer (some ⟨q,0,none⟩))∧w.cell? ⟨p,3,none⟩=some (.int .i64 need)∧(∀j,w.frozen? ⟨p,j,none⟩=false)∧p<w.heap.size :=
 ⟨by simp[World.cell?,h,bS],by simp[World.cell?,h,bS],by simp[World.cell?,h,bS],by simp[World.cell?,h,bS],fun j=>by simp[World.frozen?,h],ac h⟩
theorem rg:∃j,Tryz.prog.info? 107=some j:=by
 have h:(Tryz.prog.info? 107).isSome=true:=by kernel_rfl
 exact Option.isSome_iff_exists.1 h
theorem Dq (p:Addr)(w:World):Sem.run Tryz.prog (binOp BinOp.eql 42 (.pointer (some p)) (.pointer (some p))) w=.ok (.bool true) w:=by
 obtain⟨j,hj⟩:=rg
 exact run_eql_ptr_same w p Tryz.underlying42 hj
theorem Dr (p:Addr)(w:World):Sem.run Tryz.prog (binOp BinOp.neq 42 (.pointer (some p)) (.pointer (some p))) w=.ok (.bool false) w:=by
 obtain⟨j,hj⟩:=rg
 have h:Sem.run Tryz.prog (Op.equal 42 (.pointer (some p)) (.pointer (some p))) w=.ok true w:=by
  have:=run_eql_ptr_same (P:=Tryz.prog) w p Tryz.underlying42 hj
  simp only[binOp] at this
  cases e:Sem.run Tryz.prog (Op.equal 42 (.pointer (some p)) (.pointer (some p))) w<;>rw[Sem.run_bind,e] at this<;>simp[Result.andThen] at this
  obtain⟨rfl,rfl⟩:=this
  rfl
 simp only[binOp]
 simp[h]
theorem jD (p:Nat)(w:World)(h:w.cell? ⟨p,0,none⟩=some (.pointer (some ⟨p,0,none⟩))):Calls Tryz.prog 114 #[.pointer (some ⟨p,0,none⟩)] w fun e w'=>e=.returned (.bool true)∧w'=w:=by
 have hq:=fun w=>Dq ⟨p,0,none⟩ w
 go_enter Tryz.func114,Tryz.ntmps114
 go_wp2_with fail
 go_ret
 exact⟨rfl,rfl⟩
theorem Ds (F:Nat→Prop)(p:Nat)(kn:Int→Option Int)(D:List KV)(a:Int)(w:World)(h:bI w F p kn D)(ha:a<0):
 Calls Tryz.prog 76 #[.pointer (some ⟨p,0,none⟩),.int .i64 a] w fun e w'=>e=.returned (.int .i64 0)∧∃n,w'=w.drewN n:=by
 obtain⟨M,q,n,F0,hp,hk,hm,_⟩:=h.ex
 obtain⟨c0,_⟩:=dC hp
 have S:=hQQ (jD p w c0)
 have d:decide (a<0)=true:=by simp;omega
 have E:∃n,w=w.drewN n:=⟨0,rfl⟩
 clear h hp hk hm c0 ha
 go_enter Tryz.func76,Tryz.ntmps76
 go_wp2_with (go_at_call 114;refine S.o.mono ?_;rintro e w' ⟨rfl,rfl⟩)
 go_ret
 exact⟨rfl,0,rfl⟩
theorem xj (F:Nat→Prop)(p:Nat)(kn:Int→Option Int)(D:List KV)(a y:Int)(w:World)(h:bI w F p kn D)(ha:0≤a)(hy:look D a=some y):
 Calls Tryz.prog 76 #[.pointer (some ⟨p,0,none⟩),.int .i64 a] w fun e w'=>e=.returned (.int .i64 y)∧∃n,w'=w.drewN n:=by
 obtain⟨M,q,n,F0,hp,hk,hm,_⟩:=h.ex
 obtain⟨c0,c1,c2,c3,_,hl⟩:=dC hp
 have S:=hQQ (jD p w c0)
 have G:=xe F0 q D a w hm
 rw[hy] at G
 have G:=hQQ G
 have d:decide (a<0)=false:=by simp;omega
 clear h hp hk hm ha c0 c1 c3
 go_enter Tryz.func76,Tryz.ntmps76
 go_wp2_with (first|(go_at_call 114;refine S.o.mono ?_;rintro e w' ⟨rfl,rfl⟩)|(go_at_call 115;refine G.o.mono ?_;rintro e w' ⟨rfl,n,rfl⟩))
 go_ret
 exact⟨rfl,n,rfl⟩
theorem xm (F:Nat→Prop)(p:Nat)(kn:Int→Option Int)(D:List KV)(a y:Int)(w:World)(h:bI w F p kn D)(ha:0≤a)(hw:W64 a)(hy:look D a=none)(hk':kn a=some y):
 Calls Tryz.prog 76 #[.pointer (some ⟨p,0,none⟩),.int .i64 a] w fun e w'=>e=.returned (.int .i64 y)∧∃n,w'=w.drewN n:=by
 obtain⟨M,q,n,F0,hp,hk,hm,_⟩:=h.ex
 have S:=hQQ (jD p w (dC hp).1)
 have G:=xe F0 q D a w hm
 rw[hy] at G
 have G:=hQQ G
 have L:∀m,Sem.run Tryz.prog (Instr.lookup 77 (.map (some M)) (.int .i64 a) true) (w.drewN m)=.ok (.tuple #[.int .i64 y,.bool true]) (w.drewN m):=fun m=>by
  have:=(hk.more (jC w m)).look hw
  rw[hk'] at this
  exact this
 have d:decide (a<0)=false:=by simp;omega
 obtain⟨c0,c1,c2,c3,_,hl⟩:=dC hp
 clear h hp hk hm ha c0 c3
 go_enter Tryz.func76,Tryz.ntmps76
 go_wp2_with (first|(go_at_call 114;refine S.o.mono ?_;rintro e w' ⟨rfl,rfl⟩)|(go_at_call 115;refine G.o.mono ?_;rintro e w' ⟨rfl,n,rfl⟩))
 go_ret
 exact⟨rfl,n,rfl⟩
theorem ri (F:Nat→Prop)(p:Nat)(kn:Int→Option Int)(D:List KV)(a y:Int)(w:World)(h:bI w F p kn D)(hw:W64 a)(hy:gM kn D a=some y):
 Calls Tryz.prog 76 #[.pointer (some ⟨p,0,none⟩),.int .i64 a] w fun e w'=>e=.returned (.int .i64 y)∧∃n,w'=w.drewN n:=by
 unfold gM at hy
 split at hy
 ·cases hy;exact Ds F p kn D a w h (by omega)
 ·cases e:look D a with
  |none=>rw[e] at hy;exact xm F p kn D a y w h (by omega) hw e (by simpa using hy)
  |some v =>
   rw[e] at hy
   have:v=y:=by simpa using hy
   subst this
   exact xj F p kn D a v w h (by omega) e
def ur (w:World)(F:Nat→Prop)(p:Nat)(a:Int)(e:Ending)(w':World):Prop:=e=.panicked (eT p)∧eC w' p a∧Turned F w w'
theorem Dt {w:World}{F:Nat→Prop}{p M q:Nat}{a:Int}{n:Nat}(hp:w.heap[p]?=some (.cells (bS (some ⟨p,0,none⟩) M q (-1)) 107 (0,0)))(fp:F p):
 eC (((w.drewN n).setCell ⟨p,0,none⟩ (.pointer none)).setCell ⟨p,3,none⟩ (.int .i64 a)) p a∧Turned F w (((w.drewN n).setCell ⟨p,0,none⟩ (.pointer none)).setCell ⟨p,3,none⟩ (.int .i64 a)):=by
 have h1:(w.drewN n).heap[p]?=_:=hp
 have h2:=bu (o:=0) (.pointer none) h1
 have h4:=bu (o:=3) (.int .i64 a) h2
 exact⟨⟨M,q,by rw[h4];simp[bS]⟩,cu (cu ((Turned.refl F w).drewN n) (fun _=>fp) _) (fun _=>fp) _⟩
theorem rj (F:Nat→Prop)(p:Nat)(kn:Int→Option Int)(D:List KV)(a:Int)(w:World)(h:bI w F p kn D)(hw:W64 a)(hy:gM kn D a=none):
 Calls Tryz.prog 76 #[.pointer (some ⟨p,0,none⟩),.int .i64 a] w (ur w F p a):=by
 obtain⟨ha,hy,hk'⟩:=rc hy
 obtain⟨M,q,n,F0,hp,hk,hm,fp,_⟩:=h.ex
 have S:=hQQ (jD p w (dC hp).1)
 have G:=xe F0 q D a w hm
 rw[hy] at G
 have G:=hQQ G
 have L:∀m,Sem.run Tryz.prog (Instr.lookup 77 (.map (some M)) (.int .i64 a) true) (w.drewN m)=.ok (.tuple #[.int .i64 0,.bool false]) (w.drewN m):=fun m=>by
  have:=(hk.more (jC w m)).look hw
  rw[hk'] at this
  exact this
 have d:decide (a<0)=false:=by simp;omega
 obtain⟨c0,c1,c2,c3,hf,hl⟩:=dC hp
 have FIN:Hq (∀n,eC (((w.drewN n).setCell ⟨p,0,none⟩ (.pointer none)).setCell ⟨p,3,none⟩ (.int .i64 a)) p a∧Turned F w (((w.drewN n).setCell ⟨p,0,none⟩ (.pointer none)).setCell ⟨p,3,none⟩ (.int .i64 a))):=hQQ fun n=>Dt hp fp
 clear h hp hk hm ha
 go_enter Tryz.func76,Tryz.ntmps76
 go_wp2_with (first|(go_at_call 114;refine S.o.mono ?_;rintro e w' ⟨rfl,rfl⟩)|(go_at_call 115;refine G.o.mono ?_;rintro e w' ⟨rfl,n,rfl⟩))
 exact⟨rfl,rfl,FIN.o n⟩
def kS (w:World)(F:Nat→Prop)(p:Nat)(kn:Int→Option Int)(D:List KV)(v:Value)(e:Ending)(w':World):Prop :=
 e=.returned v∧∃F',bI w' F' p kn D∧Turned F w w'∧∀k,F' k→F k∨w.heap.size≤k
theorem kS.same {w w':World}{F:Nat→Prop}{p:Nat}{kn:Int→Option Int}{D:List KV}{v:Value}(h:bI w F p kn D)(t:ae w w'):kS w F p kn D v (.returned v) w' :=
 ⟨rfl,F,h.more t,Turned.mono t (fun _ _ q=>q.elim),fun k hk=> .inl hk⟩
def iR (w:World)(a:Option Addr)(l:List KV):Prop :=
 l= []∨∃s o,a=some ⟨s,o,none⟩∧s<w.heap.size∧∀i t,l[i]?=some t→w.cell? ⟨s,o+i * 2,none⟩=some (.int .i64 t.1)∧w.cell? ⟨s,o+i * 2+1,none⟩=some (.int .i64 t.2)
def lB (a:Option Addr)(k:Nat):Prop:=a.map (·.block)=some k
theorem eW {S:Nat→Prop}{w w':World}(t:Turned S w w'){s o:Nat}{v:Value}(hs:¬S s)(h:w.cell? ⟨s,o,none⟩=some v):w'.cell? ⟨s,o,none⟩=some v:=by
 rw[World.cell?_of_block (w:=w) (Turned.block t s (dA h) hs)];exact h
theorem iR.keep {w w':World}{a:Option Addr}{l:List KV}(h:iR w a l){S:Nat→Prop}(t:Turned S w w')(hs:∀k,lB a k→¬S k):iR w' a l:=by
 rcases h with h|⟨s,o,rfl,hl,hc⟩
 ·exact .inl h
 ·exact .inr ⟨s,o,rfl,Nat.lt_of_lt_of_le hl t.size,fun i u hi=>by
   obtain⟨c0,c1⟩:=hc i u hi
   exact⟨eW t (hs s rfl) c0,eW t (hs s rfl) c1⟩⟩
theorem iR.more {w w':World}{a:Option Addr}{l:List KV}(h:iR w a l)(t:ae w w'):iR w' a l:=h.keep t (fun _ _ q=>q)
theorem aq {F F':Nat→Prop}{W w w':World}(h:Turned F W w)(t:Turned F' w w')(n:∀k,F' k→F k∨W.heap.size≤k):Turned F W w' :=
 ⟨t.os.trans h.os,t.tape.trans h.tape,t.output.trans h.output,Nat.le_trans h.size t.size,fun k hk hs=>by
  rw[Turned.block t k (Nat.lt_of_lt_of_le hk h.size) (fun q=>by rcases n k q with r|r;exact hs r;omega)]
  exact Turned.block h k hk hs⟩
theorem jY {S:Nat→Prop}{wa w w':World}{v:Value}{e:TypeId}{s n:Nat}{xs:List Value}(hW:Turned S wa w)(h:w.ownsRow wa.heap.size e s v n xs)(g:w.grownBy w' v.ownBlock):Turned S wa w' :=
 ⟨g.os.trans hW.os,g.tape.trans hW.tape,g.output.trans hW.output,Nat.le_trans hW.size g.size,fun k hk hs=>by
  rw[g.block k (Nat.lt_of_lt_of_le hk hW.size) (by
   rcases h.2 with⟨rfl,_⟩|⟨b,cap,cur,rfl,hb,_⟩
   ·simp[Value.ownBlock]
   ·simp only[Value.ownBlock,ne_eq,Option.some.injEq];omega)]
  exact Turned.block hW k hk hs⟩
theorem mA {w w':World}{base:Nat}{e:TypeId}{s n:Nat}{v:Value}{xs:List Value}(h:w.ownsRow base e s v n xs){S:Nat→Prop}(hW:Turned S w w')(hs:∀k,base≤k→¬S k):w'.ownsRow base e s v n xs:=by
 refine⟨h.1,?_⟩
 rcases h.2 with q|⟨g,cap,cur,h1,h2,h3,h4⟩
 ·exact .inl q
 ·exact .inr ⟨g,cap,cur,h1,h2,by rw[Turned.block hW g (ac h3) (hs g h2)];exact h3,h4⟩
theorem qK {w:World}{base base':Nat}{e:TypeId}{s n:Nat}{v:Value}{xs:List Value}(h:w.ownsRow base e s v n xs)(hb:base'≤base):w.ownsRow base' e s v n xs:=by
 refine⟨h.1,?_⟩
 rcases h.2 with q|⟨g,cap,cur,h1,h2,h3,h4⟩
 ·exact .inl q
 ·exact .inr ⟨g,cap,cur,h1,by omega,h3,h4⟩
def dZ (ps:List KV):List Value:=ps.flatMap fun p=> [.int .i64 p.1,.int .i64 p.2]
theorem iy (ps:List KV)(p:KV):dZ (ps++ [p])=dZ ps++ [.int .i64 p.1,.int .i64 p.2]:=by simp[dZ]
theorem iz (p:KV)(ps:List KV):dZ (p::ps)=.int .i64 p.1:: .int .i64 p.2::dZ ps:=by simp[dZ]
theorem lC:∀ps:List KV,(dZ ps).length=ps.length * 2
 | []=>rfl
 |p::ps=>by rw[iz,List.length_cons,List.length_cons,lC ps,List.length_cons];omega
theorem lD:∀(ps:List KV) (i:Nat) (p:KV),ps[i]?=some p→(dZ ps)[i * 2]?=some (.int .i64 p.1)∧(dZ ps)[i * 2+1]?=some (.int .i64 p.2)
 | [],i,p,h=>by cases h
 |q::ps,0,p,h=>by
  simp at h;subst h
  rw[iz];exact⟨rfl,rfl⟩
 |q::ps,i+1,p,h=>by
  have:=lD ps i p (by simpa using h)
  rw[iz,show(i+1) * 2=i * 2+1+1 by omega]
  exact this
theorem nE:∃i:TypeInfo,Tryz.prog.info? 55=some i∧i.zero=some (.agg #[.int .i64 0,.int .i64 0])∧i.size=2∧i.bytes=16:=by
 have h1:(Tryz.prog.info? 55).map (·.size)=some 2:=by kernel_rfl
 have h2:(Tryz.prog.info? 55).bind (·.zero)=some (.agg #[.int .i64 0,.int .i64 0]):=by kernel_rfl
 have h3:(Tryz.prog.info? 55).map (·.bytes)=some 16:=by kernel_rfl
 cases q:Tryz.prog.info? 55 with
 |none=>rw[q] at h1;simp at h1
 |some i=>rw[q] at h1 h2 h3;exact⟨i,rfl,by simpa using h2,by simpa using h1,by simpa using h3⟩
def PRw (base:Nat)(w:World)(v:Value)(ps:List KV):Prop:=w.ownsRow base 55 2 v ps.length (dZ ps)
theorem PRw.nil (base:Nat)(w:World):PRw base w (.slice none 0 0) []:=World.ownsRow_nil w base _ 2
theorem PRw.keep {base:Nat}{w w':World}{v:Value}{ps:List KV}(h:PRw base w v ps){S:Nat→Prop}(hW:Turned S w w')(hs:∀k,base≤k→¬S k):PRw base w' v ps:=mA h hW hs
theorem PRw.more {base:Nat}{w w':World}{v:Value}{ps:List KV}(h:PRw base w v ps)(hW:ae w w'):PRw base w' v ps:=mA h hW (fun _ _ q=>q)
theorem PRw.mono {base base':Nat}{w:World}{v:Value}{ps:List KV}(h:PRw base w v ps)(hb:base'≤base):PRw base' w v ps:=qK h hb
theorem PRw.reads {base:Nat}{w:World}{v:Value}{ps:List KV}(h:PRw base w v ps):∃a cap,v=.slice a ps.length cap∧iR w a ps∧∀k,lB a k→base≤k:=by
 rcases h.2 with⟨rfl,h0⟩|⟨g,cap,cur,rfl,hb,hg,_,_,hs,ht⟩
 ·have:ps= []:=List.length_eq_zero_iff.1 h0
  subst this
  exact⟨none,0,rfl,.inl rfl,fun k hk=>by cases hk⟩
 ·refine⟨_,cap,rfl,.inr ⟨g,0,rfl,ac hg,fun i t hi=>?_⟩,fun k hk=>by cases hk;exact hb⟩
  have hil:=(List.getElem?_eq_some_iff.1 hi).1
  have hcell:∀j u,(dZ ps)[j]?=some u→w.cell? ⟨g,0+j,none⟩=some u:=fun j u hj=>by
   have hj':j<ps.length * 2:=by have:=(List.getElem?_eq_some_iff.1 hj).1;rw[lC] at this;exact this
   have e:cur.toList[j]?=some u:=by
    have h1:(cur.toList.take (ps.length * 2))[j]?=some u:=by rw[ht];exact hj
    rw[List.getElem?_take,if_pos (by omega)] at h1
    exact h1
   simp[World.cell?,hg]
   simpa using e
  obtain⟨p1,p2⟩:=lD ps i t hi
  exact⟨hcell _ _ p1,by have:=hcell _ _ p2;rwa [←Nat.add_assoc] at this⟩
theorem ut {ops:Array Oper}{rest:List Oper}{o:Oper}{a:Act}{Q:Exit→Act→World→Prop}{S:Nat→Prop}{w wa:World}{v:Value}{ps:List KV}(p q:Int)(hgd:o.guard=none)(s x:Operand)
 (ho:o.op=.call { callee:= .builtin .append,args:= #[s,x],argTypes:= #[39,39] })
 (hs:a.eval s=v) (hn:PRw wa.heap.size w v ps) (hW:Turned S wa w) (hl:ps.length≤1000000)
 (hx:a.eval x=.slice (some ⟨w.heap.size,0,none⟩) 1 1)
 (h:∀g cap w',PRw wa.heap.size w' (.slice (some ⟨g,0,none⟩) (ps.length+1) cap) (ps++ [(p,q)])→Turned S wa w'→(∀k ob,w.heap[k]?=some ob→v.ownBlock≠some k→w'.heap[k]?=some ob)→wpList Tryz.prog ops Q rest (a.put o.dst (.slice (some ⟨g,0,none⟩) (ps.length+1) cap)) w'):wpList Tryz.prog ops Q (o::rest) a (w.alloc (.cells #[.int .i64 p,.int .i64 q] 55)):=by
 obtain⟨i,i1,i2,i3,i4⟩:=nE
 have hn':=hn.more ((ae.refl w).alloc (.cells #[.int .i64 p,.int .i64 q] 55))
 have hB:=bm w (.cells #[.int .i64 p,.int .i64 q] 55)
 refine wpList_append_lies _ hgd s x 39 ho wa.heap.size 55 i _ 2 16 Tryz.underlying39 i1 i2 i3 i4 rfl (by omega) v ps.length _ hs hn' ⟨w.heap.size,0,none⟩ 1 1 [.int .i64 p,.int .i64 q] hx (by simp)
  (fun j u hu=>World.news_of_block hB j u (by simpa using hu)) (by intro u hu;simp at hu;rcases hu with rfl|rfl<;>rfl) (by omega) (by simp only[maxLen];omega) (by omega) (by have:=hW.size;simp;omega) _ rfl ?_
 intro g cap w1 hown hgrow _ _
 refine h g cap w1 ?_ (jY (hW.alloc _) hn' hgrow) (fun k ob hk hne=>?_)
 ·unfold PRw
  rw[List.length_append,iy]
  exact hown
 ·rw[hgrow.block k (by have:=ac hk;simp;omega) (Ne.symm hne),Below.heap_alloc _ _ _ (ac hk)];exact hk
theorem nG {P:Program}(w:World)(d:Nat)(t:TypeId) {a b c}(h:P.underlying t=some (.func a b c))(f:Fn)(xs ys:Array Value):
 (Op.equalIn (d+1) t (.func f xs ys) .nilFunc).run P w=.ok false w:=by
 simp[Op.equalIn,run_underlying h]
theorem mB {P:Program}(w:World)(t:TypeId) {a b c}(h:P.underlying t=some (.func a b c))(f:Fn)(xs ys:Array Value):Sem.run P (binOp BinOp.eql t (Value.func f xs ys) Value.nilFunc) w=.ok (.bool false) w:=by
 have:Sem.run P (Op.equal t (Value.func f xs ys) Value.nilFunc) w=.ok false w:=nG w 9999 t h f xs ys
 simp[binOp,this]
theorem bd {w:World}{b:Nat}{v:Value}{T:TypeId}(h:w.heap[b]?=some (.cells #[v] T (0,0))):w.cell? ⟨b,0,none⟩=some v∧w.frozen? ⟨b,0,none⟩=false∧b<w.heap.size :=
 ⟨by simp[World.cell?,h],by simp[World.frozen?,h],ac h⟩
theorem kT {w:World}{b:Nat}{v:Value}{T:TypeId}(x:Value)(h:w.heap[b]?=some (.cells #[v] T (0,0))):(w.setCell ⟨b,0,none⟩ x).heap[b]?=some (.cells #[x] T (0,0)):=by
 have:=bu (o:=0) x h
 simpa using this
structure sK (wa W:World)(b:Nat)(ps:List KV):Prop where
 ex:∃v,W.heap[b]?=some (.cells #[v] 39 (0,0))∧PRw wa.heap.size W v ps
 turn:Turned (fun k=>k=b) wa W
theorem sK.more {wa W W':World}{b:Nat}{ps:List KV}(h:sK wa W b ps)(t:ae W W'):sK wa W' b ps:=by
 obtain⟨v,hb,hv⟩:=h.ex
 exact⟨⟨v,t.block hb,hv.more t⟩,aq (F':=fun _=>False) h.turn t (fun _ q=>q.elim)⟩
theorem Gx (wa W:World)(b:Nat)(ps:List KV)(x y:Int)(hlt:b<wa.heap.size)(h:sK wa W b ps)(hl:ps.length≤100000):
 Calls Tryz.prog 113 #[.int .i64 x,.int .i64 y,.pointer (some ⟨b,0,none⟩)] W fun e w'=>e=.returned (.bool true)∧sK wa w' b (ps++ [(x,y)]):=by
 obtain⟨v,hb,hv⟩:=h.ex
 obtain⟨c0,f0,l0⟩:=bd hb
 have HB:=hQQ hb
 have HV:=hQQ hv
 have HT:=hQQ h.turn
 have FIN:Hq (∀v' w',PRw wa.heap.size w' v' (ps++ [(x,y)])→Turned (fun k=>k=b) wa w'→w'.heap[b]?=some (.cells #[v] 39 (0,0))→sK wa (w'.setCell ⟨b,0,none⟩ v') b (ps++ [(x,y)])):=hQQ fun v' w' hp ht hbb =>
  ⟨⟨v',kT v' hbb,hp.keep (cu (S:=fun k=>k=b) (Turned.refl _ w') (fun _=>rfl) v') (fun k hk e=>by omega)⟩,cu ht (fun _=>rfl) v'⟩
 have NE:Hq (∀k,v.ownBlock=some k→k≠b):=hQQ fun k hk e=>by have:=hv.lt k hk;omega
 clear h hb hv
 go_enter Tryz.func113,Tryz.ntmps113
 go_wp2_with (at_builtin;refine ut (S:=fun k=>k=b) (wa:=wa) (v:=v) (ps:=ps) x y rfl _ _ rfl rfl HV.o HT.o (by omega) rfl ?_;intro g' c' w1 hp1 ht1 hk1;have H1:=hQQ hp1;have T1:=hQQ ht1;have B1:=hQQ (hk1 b _ HB.o (fun e=>NE.o b e rfl));have c1:=(bd B1.o).1;have f1:=(bd B1.o).2.1;clear hp1 ht1 hk1)
 go_ret
 exact⟨rfl,FIN.o _ _ H1.o T1.o B1.o⟩
theorem AI (F:Nat→Prop)(q:Nat)(D:List KV)(b:Nat)(W:World)(h:ia W F q D)(hb:W.heap[b]?=some (.cells #[.slice none 0 0] 39 (0,0)))(hF:¬F b):
 Calls Tryz.prog 112 #[.pointer (some ⟨q,0,none⟩),.func (.func 113) #[] #[.pointer (some ⟨b,0,none⟩)]] W fun e w'=>e=.returned (.tuple #[])∧Turned (fun k=>k=b) W w'∧∃v,w'.heap[b]?=some (.cells #[v] 39 (0,0))∧PRw W.heap.size w' v D:=by
 have hq:∀w,Sem.run Tryz.prog (binOp BinOp.eql 88 (Value.func (.func 113) #[] #[.pointer (some ⟨b,0,none⟩)]) Value.nilFunc) w=.ok (.bool false) w:=fun w=>mB w _ Tryz.underlying88 _ _ _
 have hlb:=ac hb
 have hsm:=h.small
 have CP:=hQQ (Gw F q D W h)
 have HB:=hQQ hb
 clear h hb hF
 go_enter Tryz.func112,Tryz.ntmps112
 go_wp2_with fail
 refine CP.o.mono ?_
 rintro e w1 ⟨Fc,c,rfl,mc,M1,nc⟩
 have MC:=hQQ mc
 have K1:=hQQ M1
 have T0:=hQQ (show sK w1 w1 b [] from⟨⟨_,M1.block HB.o,PRw.nil _ _⟩,Turned.refl _ _⟩)
 have hlb1:b<w1.heap.size:=Nat.lt_of_lt_of_le hlb M1.size
 have NC:Hq (∀x,Fc x→¬x=b):=hQQ (fun x hx q=>by have:=nc x hx;omega)
 have FIN:Hq (∀wr,sK w1 wr b D→Turned (fun k=>k=b) W wr∧∃v,wr.heap[b]?=some (.cells #[v] 39 (0,0))∧PRw W.heap.size wr v D):=hQQ fun wr ht=>by
  obtain⟨v,h1,h2⟩:=ht.ex
  exact⟨(Turned.mono K1.o (fun _ _ q=>q.elim)).trans ht.turn,v,h1,h2.mono K1.o.size⟩
 clear mc M1 nc
 go_wp2_with fail
 refine(Dn Fc c D w1 MC.o).mono ?_
 rintro e w2 ⟨rfl,h2⟩
 obtain rfl:w2=w1:=h2
 go_wp2_with fail
 go_loopw [15] (fun i wr=>∃t:Nat,t≤D.length∧i=.int .i64 (t:Nat)∧sK w2 wr b (D.take t)) (fun i _=>D.length-(intOf i).toNat)
 case atStart=>exact⟨0,Nat.zero_le _,rfl,T0.o⟩
 case round =>
  obtain⟨t,ht,rfl,htell⟩:=hrel
  have T3:=hQQ htell;have C3:=hQQ (MC.o.keep htell.turn NC.o)
  clear htell
  by_cases hlt3:t<D.length
  ·obtain⟨x,hx⟩:∃x,D[t]?=some x:=⟨_,List.getElem?_eq_getElem hlt3⟩
   have TK:Hq (D.take (t+1)=D.take t++ [x]):=hQQ (by rw[List.take_add_one,hx];rfl)
   have HX:=hQQ hx
   clear hx
   obtain⟨xk,xv⟩:=x
   go_wp2_with fail
   refine(JW Fc c D t (xk,xv) wr C3.o HX.o).mono ?_
   rintro e w4 ⟨rfl,n4,rfl⟩
   have C4:=hQQ (C3.o.more (jC wr n4));have T4:=hQQ (T3.o.more (jC wr n4))
   clear C3 T3
   generalize wr.drewN n4=w4 at C4 T4⊢
   simp only
   go_wp2_with fail
   refine(Gx w2 w4 b (D.take t) xk xv hlb1 T4.o (by simp;omega)).mono ?_
   rintro e w5 ⟨rfl,htell⟩
   have T5:=hQQ htell
   clear htell C4 T4
   go_wp2_with fail
   go_roundw
   case rel=>exact⟨t+1,by omega,by go_num,by rw[TK.o];exact T5.o⟩
   case measure=>simp[intOf];omega
  ·obtain rfl:t=D.length:=by omega
   have FIN2:Hq (∀wr',wr'=wr→Turned (fun k=>k=b) W wr'∧∃v,wr'.heap[b]?=some (.cells #[v] 39 (0,0))∧PRw W.heap.size wr' v D):=hQQ (fun wr' e=>by subst e;exact FIN.o _ (by have:=T3.o;rwa [List.take_length] at this))
   go_wp2_with fail
   go_end0
   exact⟨rfl,FIN2.o _ rfl⟩
theorem Gy (F:Nat→Prop)(p q:Nat)(D:List KV)(W:World)(hp:W.cell? ⟨p,2,none⟩=some (.pointer (some ⟨q,0,none⟩)))(hm:ia W F q D):
 Calls Tryz.prog 74 #[.pointer (some ⟨p,0,none⟩)] W fun e w'=>∃v,e=.returned v∧PRw W.heap.size w' v D∧ae W w':=by
 have M1:ae W (W.alloc (.cells #[.slice none 0 0] 39)):=(ae.refl W).alloc _
 have hb:=bm W (.cells #[.slice none 0 0] 39)
 have E:=hQQ (AI F q D W.heap.size _ (hm.more M1) hb (fun r=>by have:=hm.lt _ r;omega))
 have hp1:=M1.cell hp
 have hlp:=dA hp
 have HM:=hQQ M1
 clear hm hb M1
 go_enter Tryz.func74,Tryz.ntmps74
 go_wp2_with fail
 refine E.o.mono ?_
 rintro e w1 ⟨rfl,ht,v,hv,hr⟩
 have FIN:Hq (PRw W.heap.size w1 v D∧ae W w1):=hQQ ⟨hr.mono (by simp),Turned.mono (aq (F:=fun _=>False) HM.o ht (fun k hk=> .inr (by omega))) (fun _ _ q=>q)⟩
 obtain⟨c0,f0,l0⟩:=bd hv
 clear ht hr hv
 go_wp2_with fail
 go_ret
 exact⟨_,rfl,FIN.o⟩
theorem xn (v:Value)(w:World):(Instr.typeAssert (.iface 109 v) 20 109 true).run Tryz.prog w=.ok (.tuple #[v,.bool true]) w:=by kernel_rfl
theorem uu (w:World):(Instr.typeAssert .nilIface 20 109 true).run Tryz.prog w=.ok (.tuple #[.agg #[.pointer none],.bool false]) w:=by kernel_rfl
def sL (w:World)(p bn:Nat)(a:Int)(w':World):Prop:=eC w' p a∧w'.heap[bn]?=some (.cells #[.int .i64 a] 3 (0,0))∧Turned (fun k=>k=p∨k=bn) w w'
theorem AJ (p bv bn:Nat)(a n:Int)(w:World)(h:eC w p a)(hv:w.heap[bv]?=some (.cells #[.pointer (some ⟨p,0,none⟩)] 42 (0,0)))(hn:w.heap[bn]?=some (.cells #[.int .i64 n] 3 (0,0)))(h1:bv≠p)(h2:bn≠p)(h3:bv≠bn):
 CallsD Tryz.prog 73 #[.pointer (some ⟨bv,0,none⟩),.pointer (some ⟨bn,0,none⟩)] (.panicking (eT p)) w fun e u' w' =>
  e=.returned (.tuple #[])∧u'= .panicking [{ v:= .iface 109 (.agg #[.pointer (some ⟨p,0,none⟩)]),recovered:=true }]∧sL w p bn a w':=by
 have hq:=fun w=>Dr ⟨p,0,none⟩ w
 obtain⟨M,q,hp⟩:=h
 obtain⟨c0,c1,c2,c3,cf,cl⟩:=dC hp
 obtain⟨v0,vf,vl⟩:=bd hv
 obtain⟨n0,nf,nl⟩:=bd hn
 refine callsD_of_wpS Tryz.func73 rfl fun c₀ cs hu=>?_
 apply wpS_seq
 apply wpS_region
 simp[wpOpsS,go_sem,recoverD,hu,Tryz.ntmps73,Exit.thenS,v0,c0,cf,vf]
 apply wpS_seq
 apply wpS_seq
 apply wpS_region
 simp[wpOpsS,go_sem,recoverD,hu,eT,Exit.thenS,Array.replicate_succ,v0,c0,cf,vf,xn]
 have t1:Turned (fun k=>k=p∨k=bn) w ((w.setCell ⟨p,0,none⟩ (.pointer none)).alloc (.cells #[.pointer (some ⟨p,0,none⟩)] 109)):=Turned.alloc (cu (Turned.refl _ w) (fun _=> .inl rfl) _) _
 have hp1:((w.setCell ⟨p,0,none⟩ (.pointer none)).alloc (.cells #[.pointer (some ⟨p,0,none⟩)] 109)).heap[p]?=some (.cells (bS none M q a) 107 (0,0)):=by
  rw[Below.heap_alloc _ _ _ (by simpa using cl)]
  have:=bu (o:=0) (.pointer none) hp
  simpa [bS] using this
 have hv1:((w.setCell ⟨p,0,none⟩ (.pointer none)).alloc (.cells #[.pointer (some ⟨p,0,none⟩)] 109)).heap[bv]?=some (.cells #[.pointer (some ⟨p,0,none⟩)] 42 (0,0)):=by
  rw[Turned.block t1 bv vl (by omega)];exact hv
 have hs1:=bm (w.setCell ⟨p,0,none⟩ (.pointer none)) (.cells #[.pointer (some ⟨p,0,none⟩)] 109)
 rw[show(w.setCell ⟨p,0,none⟩ (.pointer none)).heap.size=w.heap.size by simp] at hs1
 have hn1:((w.setCell ⟨p,0,none⟩ (.pointer none)).alloc (.cells #[.pointer (some ⟨p,0,none⟩)] 109)).heap[bn]?=some (.cells #[.int .i64 n] 3 (0,0)):=by
  rw[Below.heap_alloc _ _ _ (by simpa using nl),Below.heap_setCell _ _ _ _ h2];exact hn
 generalize (w.setCell ⟨p,0,none⟩ (.pointer none)).alloc (.cells #[.pointer (some ⟨p,0,none⟩)] 109)=W1 at t1 hp1 hv1 hs1 hn1⊢
 generalize w.heap.size=bs at hs1⊢
 obtain⟨_,_,_,x3,_,xl⟩:=dC hp1
 obtain⟨y0,yf,yl⟩:=bd hv1
 obtain⟨z0,zf,zl⟩:=bd hs1
 obtain⟨n1,nf1,nl1⟩:=bd hn1
 have FIN:Hq (sL w p bn a (W1.setCell ⟨bn,0,none⟩ (.int .i64 a))):=hQQ ⟨⟨M,q,by rw[Below.heap_setCell _ _ _ _ (Ne.symm h2)];exact hp1⟩,kT _ hn1,cu t1 (fun _=> .inr rfl) _⟩
 clear c0 c1 c2 c3 cf cl v0 vf vl n0 nf nl hp hv hn hp1 hv1 hs1 hn1 t1
 refine wpS_of_wp ?_
 go_wp2_with fail
 refine wpS_of_wp ?_
 go_wp2_with fail
 exact⟨rfl,_,rfl,_,results_none rfl _ _ _,rfl,rfl,FIN.o⟩
theorem xo (p bv bn M q:Nat)(n:Int)(w:World)(hp:w.heap[p]?=some (.cells (bS (some ⟨p,0,none⟩) M q (-1)) 107 (0,0)))(hv:w.heap[bv]?=some (.cells #[.pointer (some ⟨p,0,none⟩)] 42 (0,0)))(hn:w.heap[bn]?=some (.cells #[.int .i64 n] 3 (0,0)))(h1:bv≠p)(h2:bn≠p)(h3:bv≠bn):
 CallsD Tryz.prog 73 #[.pointer (some ⟨bv,0,none⟩),.pointer (some ⟨bn,0,none⟩)] .returning w fun e u' w' =>
  e=.returned (.tuple #[])∧u'= .returning∧sL w p bn (-1) w':=by
 obtain⟨c0,c1,c2,c3,cf,cl⟩:=dC hp
 obtain⟨v0,vf,vl⟩:=bd hv
 obtain⟨n0,nf,nl⟩:=bd hn
 refine callsD_of_wpS Tryz.func73 rfl fun c₀ cs hu=>?_
 apply wpS_seq
 apply wpS_region
 simp[wpOpsS,go_sem,recoverD,hu,Tryz.ntmps73,Exit.thenS,v0,c0,cf,vf]
 apply wpS_seq
 apply wpS_seq
 apply wpS_region
 simp[wpOpsS,go_sem,recoverD,hu,eT,Exit.thenS,Array.replicate_succ,v0,c0,cf,vf,uu]
 have t1:Turned (fun k=>k=p∨k=bn) w ((w.setCell ⟨p,0,none⟩ (.pointer none)).alloc (.cells #[.pointer none] 109)):=Turned.alloc (cu (Turned.refl _ w) (fun _=> .inl rfl) _) _
 have hp1:((w.setCell ⟨p,0,none⟩ (.pointer none)).alloc (.cells #[.pointer none] 109)).heap[p]?=some (.cells (bS none M q (-1)) 107 (0,0)):=by
  rw[Below.heap_alloc _ _ _ (by simpa using cl)]
  have:=bu (o:=0) (.pointer none) hp
  simpa [bS] using this
 have hv1:((w.setCell ⟨p,0,none⟩ (.pointer none)).alloc (.cells #[.pointer none] 109)).heap[bv]?=some (.cells #[.pointer (some ⟨p,0,none⟩)] 42 (0,0)):=by
  rw[Turned.block t1 bv vl (by omega)];exact hv
 have hn1:((w.setCell ⟨p,0,none⟩ (.pointer none)).alloc (.cells #[.pointer none] 109)).heap[bn]?=some (.cells #[.int .i64 n] 3 (0,0)):=by
  rw[Below.heap_alloc _ _ _ (by simpa using nl),Below.heap_setCell _ _ _ _ h2];exact hn
 generalize (w.setCell ⟨p,0,none⟩ (.pointer none)).alloc (.cells #[.pointer none] 109)=W1 at t1 hp1 hv1 hn1⊢
 obtain⟨_,_,_,x3,_,xl⟩:=dC hp1
 obtain⟨y0,yf,yl⟩:=bd hv1
 obtain⟨n1,nf1,nl1⟩:=bd hn1
 have FIN:Hq (sL w p bn (-1) (W1.setCell ⟨bn,0,none⟩ (.int .i64 (-1)))):=hQQ ⟨⟨M,q,by rw[Below.heap_setCell _ _ _ _ (Ne.symm h2)];exact hp1⟩,kT _ hn1,cu t1 (fun _=> .inr rfl) _⟩
 clear c0 c1 c2 c3 cf cl v0 vf vl n0 nf nl hp hv hn hp1 hv1 hn1 t1
 refine wpS_of_wp ?_
 go_wp2_with fail
 refine wpS_of_wp ?_
 go_wp2_with fail
 refine⟨rfl,.returning,?_,_,results_none rfl _ _ _,rfl,rfl,FIN.o⟩
 cases c₀
 simp_all
structure Du (w W:World)(F:Nat→Prop)(p bv bn:Nat)(kn:Int→Option Int):Prop where
 view:bI W F p kn []
 v:W.heap[bv]?=some (.cells #[.pointer (some ⟨p,0,none⟩)] 42 (0,0))
 n:W.heap[bn]?=some (.cells #[.int .i64 0] 3 (0,0))
 more:ae w W
 new:∀k,F k→w.heap.size≤k
 fv:¬F bv
 fn:¬F bn
 vn:bv≠bn
 lv:w.heap.size≤bv
 ln:w.heap.size≤bn
 lp:w.heap.size≤p
theorem Dv {w w1:World}{M q n:Nat}{F0:Nat→Prop}{kn:Int→Option Int}(hk:KnownAt w M n kn)(hm:ia w1 F0 q [])(hM:ae (w.alloc (.cells #[.int .i64 0] 3)) w1)(hn:∀k,F0 k→(w.alloc (.cells #[.int .i64 0] 3)).heap.size≤k):
 ∃F,Du w ((w1.alloc (.cells (bS (some ⟨w1.heap.size,0,none⟩) M q (-1)) 107)).alloc (.cells #[.pointer (some ⟨w1.heap.size,0,none⟩)] 42)) F w1.heap.size (w1.heap.size+1) w.heap.size kn:=by
 have m0:ae w (w.alloc (.cells #[.int .i64 0] 3)):=(ae.refl w).alloc _
 have hb:=bm w (.cells #[.int .i64 0] 3)
 have hs0:(w.alloc (.cells #[.int .i64 0] 3)).heap.size=w.heap.size+1:=by simp
 rw[hs0] at hn
 have h1:=hM.size
 rw[hs0] at h1
 have hp:=bm w1 (.cells (bS (some ⟨w1.heap.size,0,none⟩) M q (-1)) 107)
 have m2:ae w1 (w1.alloc (.cells (bS (some ⟨w1.heap.size,0,none⟩) M q (-1)) 107)):=(ae.refl w1).alloc _
 have hs2:(w1.alloc (.cells (bS (some ⟨w1.heap.size,0,none⟩) M q (-1)) 107)).heap.size=w1.heap.size+1:=by simp
 generalize w1.alloc (.cells (bS (some ⟨w1.heap.size,0,none⟩) M q (-1)) 107)=w2 at hp m2 hs2⊢
 have hv:=bm w2 (.cells #[.pointer (some ⟨w1.heap.size,0,none⟩)] 42)
 rw[hs2] at hv
 have m3:ae w2 (w2.alloc (.cells #[.pointer (some ⟨w1.heap.size,0,none⟩)] 42)):=(ae.refl w2).alloc _
 have hs3:(w2.alloc (.cells #[.pointer (some ⟨w1.heap.size,0,none⟩)] 42)).heap.size=w1.heap.size+2:=by simp[hs2]
 generalize w2.alloc (.cells #[.pointer (some ⟨w1.heap.size,0,none⟩)] 42)=w3 at hv m3 hs3⊢
 have lM:=hk.lt
 have all:ae w w3:=((m0.trans hM).trans m2).trans m3
 refine⟨fun k=>F0 k∨k=w1.heap.size,⟨⟨⟨M,q,n,F0,m3.block hp,hk.more all,(hm.more m2).more m3,.inr rfl,fun k hk=>⟨.inl hk,fun e=>by have:=hm.lt k hk;omega⟩,fun r=>?_⟩,fun k r=>?_⟩,hv,m3.block (m2.block (hM.block hb)),all,fun k r=>?_,fun r=>?_,fun r=>?_,by omega,by omega,Nat.le_refl _,by omega⟩⟩
 ·rcases r with r|r
  ·have:=hn M r;omega
  ·omega
 ·rcases r with r|r
  ·have:=hm.lt k r;omega
  ·omega
 ·rcases r with r|r
  ·have:=hn k r;omega
  ·omega
 ·rcases r with r|r
  ·have:=hm.lt _ r;omega
  ·omega
 ·rcases r with r|r
  ·have:=hn _ r;omega
  ·omega
theorem uv {w W w2 w3:World}{F S:Nat→Prop}{p bv bn:Nat}{kn:Int→Option Int}(hb:Du w W F p bv bn kn)(t:Turned (fun k=>F k∨S k) W w2)(t':Turned (fun k=>k=p∨k=bn) w2 w3):Turned S w w3:=by
 have m:Turned S w W:=Turned.mono hb.more (fun _ _ q=>q.elim)
 have h1:Turned S w w2:=aq m t (fun k q=>by rcases q with q|q;exact .inr (hb.new k q);exact .inl q)
 exact aq h1 t' (fun k q=>by have:=hb.lp;have:=hb.ln;rcases q with q|q<;>exact .inr (by omega))
theorem yU {w W w2:World}{F S:Nat→Prop}{p bv bn:Nat}{kn:Int→Option Int}(hb:Du w W F p bv bn kn)(hS:∀k,S k→k<w.heap.size)(t:Turned (fun k=>F k∨S k) W w2):
 w2.heap[bv]?=some (.cells #[.pointer (some ⟨p,0,none⟩)] 42 (0,0))∧w2.heap[bn]?=some (.cells #[.int .i64 0] 3 (0,0))∧bv≠p∧bn≠p:=by
 obtain⟨M,q,n,F0,hp,_,_,fp,_⟩:=hb.view.ex
 refine⟨?_,?_,fun e=>hb.fv (e▸fp),fun e=>hb.fn (e▸fp)⟩
 ·rw[Turned.block t bv (ac hb.v) (fun q=>by rcases q with q|q;exact hb.fv q;have:=hS _ q;have:=hb.lv;omega)];exact hb.v
 ·rw[Turned.block t bn (ac hb.n) (fun q=>by rcases q with q|q;exact hb.fn q;have:=hS _ q;have:=hb.ln;omega)];exact hb.n
attribute [local go_sem] Oper.semAt_some
theorem lE {w w':World}(h:Below w.heap.size w w'):ae w w':=⟨h.1,h.2,h.3,h.4,fun k hk _=>h.5 k hk⟩
def gd (a b:Nat)(w w':World):Prop:=w'.heap[a]?=w.heap[a]? ∧w'.heap[b]?=w.heap[b]?
theorem gd.refl (a b:Nat)(w:World):gd a b w w:=⟨rfl,rfl⟩
theorem gd.trans {a b:Nat}{w w' w'':World}(h:gd a b w w')(k:gd a b w' w''):gd a b w w'':=⟨k.1.trans h.1,k.2.trans h.2⟩
theorem gd.cell2 {a b o:Nat}{w w':World}{v:Value}(h:gd a b w w')(hc:w.cell? ⟨b,o,none⟩=some v):w'.cell? ⟨b,o,none⟩=some v:=by
 rw[World.cell?_of_block (w:=w) h.2];exact hc
theorem xq {a b n:Nat}(ha:a<n)(hb:b<n)(W:World)(l:Nat)(o o':Obj)(hl:n≤l)(h:W.heap[l]?=some o) (_:o.isCells=false) (_:o.isWalk=false):gd a b W (W.putObj l o'):=
 ⟨World.putObj_heap_other (by omega),World.putObj_heap_other (by omega)⟩
attribute [local go_sem] Oper.semAt_some
theorem mC {w w':World}{base:Nat}{e:TypeId}{s n:Nat}{v:Value}{xs:List Value}(h:w.ownsRow base e s v n xs)(hW:ae w w'):w'.ownsRow base e s v n xs:=by
 refine⟨h.1,?_⟩
 rcases h.2 with q|⟨g,cap,cur,h1,h2,h3,h4⟩
 ·exact .inl q
 ·exact .inr ⟨g,cap,cur,h1,h2,hW.block h3,h4⟩
theorem gQ {w:World}{base base':Nat}{e:TypeId}{s n:Nat}{v:Value}{xs:List Value}(h:w.ownsRow base e s v n xs)(hb:base'≤base):w.ownsRow base' e s v n xs:=by
 refine⟨h.1,?_⟩
 rcases h.2 with q|⟨g,cap,cur,h1,h2,h3,h4⟩
 ·exact .inl q
 ·exact .inr ⟨g,cap,cur,h1,by omega,h3,h4⟩
theorem lF {wa w w':World}{v:Value}{e:TypeId}{s n:Nat}{xs:List Value}(hW:ae wa w)(h:w.ownsRow wa.heap.size e s v n xs)(g:w.grownBy w' v.ownBlock):ae wa w' :=
 ⟨g.os.trans hW.os,g.tape.trans hW.tape,g.output.trans hW.output,Nat.le_trans hW.size g.size,fun k hk _=>by
  rw[g.block k (Nat.lt_of_lt_of_le hk hW.size) (by
   rcases h.2 with⟨rfl,_⟩|⟨b,cap,cur,rfl,hb,_⟩
   ·simp[Value.ownBlock]
   ·simp only[Value.ownBlock,ne_eq,Option.some.injEq];omega)]
  exact Turned.block hW k hk (fun q=>q)⟩
theorem iA:∃i:TypeInfo,Tryz.prog.info? 3=some i∧i.zero=some (.int .i64 0)∧i.size=1∧i.bytes=8:=by
 have h1:(Tryz.prog.info? 3).map (·.size)=some 1:=by kernel_rfl
 have h2:(Tryz.prog.info? 3).bind (·.zero)=some (.int .i64 0):=by kernel_rfl
 have h3:(Tryz.prog.info? 3).map (·.bytes)=some 8:=by kernel_rfl
 cases q:Tryz.prog.info? 3 with
 |none=>rw[q] at h1;simp at h1
 |some i=>rw[q] at h1 h2 h3;exact⟨i,rfl,by simpa using h2,by simpa using h1,by simpa using h3⟩
def Rw (base:Nat)(w:World)(v:Value)(xs:List Int):Prop:=w.ownsRow base 3 1 v xs.length (xs.map (Value.int .i64))
theorem Rw.nil (base:Nat)(w:World):Rw base w (.slice none 0 0) []:=World.ownsRow_nil w base _ 1
theorem Rw.more {base:Nat}{w w':World}{v:Value}{xs:List Int}(h:Rw base w v xs)(hW:ae w w'):Rw base w' v xs:=mC h hW
theorem Rw.mono {base base':Nat}{w:World}{v:Value}{xs:List Int}(h:Rw base w v xs)(hb:base'≤base):Rw base' w v xs:=by
 refine⟨h.1,?_⟩
 rcases h.2 with q|⟨g,cap,cur,h1,h2,h3,h4⟩
 ·exact .inl q
 ·exact .inr ⟨g,cap,cur,h1,by omega,h3,h4⟩
theorem Rw.reads {base:Nat}{w:World}{v:Value}{xs:List Int}(h:Rw base w v xs):
 ∃a cap,v=.slice a xs.length cap∧∀k,k<xs.length→∃g,a=some ⟨g,0,none⟩∧base≤g∧g<w.heap.size∧∀j,j<xs.length→w.cell? ⟨g,j,none⟩=some (.int .i64 (xs.getD j 0)):=by
 rcases h.2 with⟨rfl,h0⟩|⟨g,cap,cur,rfl,hb,hg,_,_,hs,ht⟩
 ·exact⟨none,0,by rw[h0],fun k hk=>by omega⟩
 ·refine⟨_,cap,rfl,fun k hk=>⟨g,rfl,hb,ac hg,fun j hj=>?_⟩⟩
  rw[World.cell?_of_block (w:=w) (w':=w) rfl]
  have e:cur.toList[j]?=some (.int .i64 (xs.getD j 0)):=by
   have h1:(cur.toList.take (xs.length * 1))[j]?=some (.int .i64 (xs.getD j 0)):=by
    rw[ht,List.getElem?_map,List.getElem?_eq_getElem hj];simp[List.getD,hj]
   rw[List.getElem?_take,if_pos (by omega)] at h1
   exact h1
  simp[World.cell?,hg]
  simpa using e
def uw (w:World)(xs:List Int)(e:Ending)(w':World):Prop:=∃v,e=.returned v∧Rw w.heap.size w' v xs∧ae w w'
theorem kg {ops:Array Oper}{rest:List Oper}{o:Oper}{a:Act}{Q:Exit→Act→World→Prop}{w wa:World}{v:Value}{xs:List Int}(y:Int)(hgd:o.guard=none)(s x:Operand)
 (ho:o.op=.call { callee:= .builtin .append,args:= #[s,x],argTypes:= #[28,28] })
 (hs:a.eval s=v) (hn:Rw wa.heap.size w v xs) (hW:ae wa w) (hl:xs.length≤1000000)
 (hx:a.eval x=.slice (some ⟨w.heap.size,0,none⟩) 1 1)
 (h:∀v' w',Rw wa.heap.size w' v' (xs++ [y])→ae wa w'→wpList Tryz.prog ops Q rest (a.put o.dst v') w'):wpList Tryz.prog ops Q (o::rest) a (w.alloc (.cells #[.int .i64 y] 3)):=by
 obtain⟨i,i1,i2,i3,i4⟩:=iA
 have hn':=hn.more ((ae.refl w).alloc (.cells #[.int .i64 y] 3))
 have hB:=bm w (.cells #[.int .i64 y] 3)
 refine wpList_append_lies _ hgd s x 28 ho wa.heap.size 3 i _ 1 8 Tryz.underlying28 i1 i2 i3 i4 rfl (by omega) v xs.length _ hs hn' ⟨w.heap.size,0,none⟩ 1 1 [.int .i64 y] hx (by simp)
  (fun j u hu=>World.news_of_block hB j u (by simpa using hu)) (by intro u hu;simp at hu;subst hu;rfl) (by omega) (by simp only[maxLen];omega) (by omega) (by have:=hW.size;simp;omega) _ rfl ?_
 intro g cap w1 hown hgrow _ _
 refine h _ w1 ?_ (lF (hW.alloc _) hn' hgrow)
 unfold Rw
 rw[List.length_append,List.map_append]
 exact hown
def ig (w:World)(a:Option Addr)(zs:List Int):Prop :=
 zs= []∨∃s o,a=some ⟨s,o,none⟩∧s<w.heap.size∧∀i,i<zs.length→w.cell? ⟨s,o+i,none⟩=some (.int .i64 (zs.getD i 0))
theorem ux (a:Option Addr)(cap:Nat)(zs:List Int)(w:World)(h:ig w a zs)(hl:zs.length≤1000000):
 Calls Tryz.prog 34 #[.slice a zs.length cap] w fun e w'=>∃a' cap',e=.returned (.slice a' zs.length cap')∧RowAt w' 3 (zs.map (Value.int .i64)) a' cap'∧(∀k,fx a' k→w.heap.size≤k)∧ae w w':=by
 have fin:∀ {v':Value} {w':World},w'.ownsRow w.heap.size 3 1 v' zs.length (zs.map (Value.int .i64))→Below w.heap.size w w'→∃a' cap',Ending.returned v'= .returned (.slice a' zs.length cap')∧RowAt w' 3 (zs.map (Value.int .i64)) a' cap'∧(∀k,fx a' k→w.heap.size≤k)∧ae w w':=by
  intro v' w' ho hb
  obtain⟨a',cap',rfl,hr,hn,_⟩:=RowAt.of_own ho
  exact⟨a',cap',rfl,hr,hn,lE hb⟩
 cases a with
 |none =>
  obtain rfl:zs= []:=by
   rcases h with h|⟨s,o,h,_⟩
   ·exact h
   ·cases h
  refine(AnyG.slices_Clone_int_nil Tryz.lCloneN 0 cap w).mono ?_
  rintro e w' ⟨rfl,rfl⟩
  exact⟨none,0,rfl,RowAt.nil _ _,(fun k hk=>by cases hk),ae.refl _⟩
 |some b =>
  by_cases h0:zs= []
  ·subst h0
   refine(AnyG.slices_Clone_int_zero Tryz.lCloneN b cap w).mono ?_
   rintro e w' ⟨v',rfl,ho,_,hb⟩
   exact fin ho hb
  ·obtain⟨s,o,e,hs,hc⟩:=h.resolve_left h0
   cases e
   refine(AnyG.slices_Clone_int Tryz.lCloneN s o zs.length cap zs w (Nat.le_refl _) (by omega) hc).mono ?_
   rintro e w' ⟨v',rfl,ho,_,hb⟩
   rw[List.take_length] at ho
   exact fin ho hb
def ki (w:World)(zs:List Int)(D:List KV)(a:Option Addr)(cap:Nat)(vn:Value)(e:Ending)(w':World):Prop :=
 Turned (fx a) w w'∧((jb zs D=true∧e=.returned (.tuple #[.slice a zs.length cap,vn,.int .i64 0])∧RowAt w' 3 ((bG zs D).map (Value.int .i64)) a cap) ∨
  (jb zs D=false∧e=.returned (.tuple #[.slice none 0 0,.slice none 0 0,.int .i64 3])))
theorem AK (zs:List Int)(D:List KV)(a ad an:Option Addr)(cap cd n cn:Nat)(w:World)(hr:RowAt w 3 (zs.map (Value.int .i64)) a cap)(hd:iR w ad D)(hl:D.length≤1000000)(hz:zs.length≤1000000)(hD:OkD D)(hne:∀k,lB ad k→¬fx a k):
 Calls Tryz.prog 36 #[.slice a zs.length cap,.slice an n cn,.slice ad D.length cd] w (ki w zs D a cap (.slice an n cn)):=by
 have HR:=hQQ hr;have HD:=hQQ hd;have HO:=hQQ hD;have HN:=hQQ hne
 clear hr hd hD hne
 go_enter Tryz.func36,Tryz.ntmps36
 go_wp2_with fail
 go_loopw [13] (fun u wr=>∃i:Nat,u=.int .i64 i∧i≤D.length∧jb zs (D.take i)=true∧RowAt wr 3 ((bG zs (D.take i)).map (Value.int .i64)) a cap∧Turned (fx a) w wr) (fun u _=>D.length-(intOf u).toNat)
 case atStart=>exact⟨0,rfl,by omega,rfl,HR.o,Turned.refl _ _⟩
 case round =>
  obtain⟨i,rfl,hi,hf,hr,ht⟩:=hrel
  have HF:=hQQ hf;have HR2:=hQQ hr;have HT:=hQQ ht
  clear hf hr ht
  by_cases hlt:i<D.length
  ·obtain⟨⟨k,v⟩,hp⟩:∃p,D[i]?=some p:=⟨_,List.getElem?_eq_getElem hlt⟩
   obtain⟨s,o,rfl,hs,hc⟩:=(HD.o.keep HT.o HN.o).resolve_left (by intro q;rw[q] at hlt;simp at hlt)
   obtain⟨c0,c1⟩:=hc i _ hp
   simp only at c0 c1
   obtain⟨hk0,_,_⟩:=HO.o _ (List.mem_of_getElem? hp)
   simp only at hk0
   have HP:=hQQ hp
   clear hc hp
   by_cases hk:k<zs.length
   ·obtain⟨j,rfl⟩:∃j:Nat,k=j:=⟨k.toNat,by omega⟩
    have d1:decide ((zs.length:Int)≤(j:Int))=false:=by simp;omega
    have hj:j<zs.length:=by omega
    have hlen:=dS (D.take i) zs
    have hrow:=HR2.o
    rcases hrow with⟨rfl,rfl,hx⟩|⟨g,cur,rfl,hg,hn,hm,hsz,htk⟩
    ·have:=congrArg List.length hx;rw[List.length_map,hlen,List.length_nil] at this;omega
    have hgl:=ac hg
    have hcell:wr.cell? ⟨g,j,none⟩=cur[j]? :=by simp[World.cell?,hg]
    have hcell2:∃u,wr.cell? ⟨g,j,none⟩=some u:=by
     have:j<cur.size:=by rw[List.length_map,hlen] at hn;omega
     exact⟨cur[j],by rw[hcell,Array.getElem?_eq_getElem this]⟩
    obtain⟨u0,hu⟩:=hcell2
    have hfr:wr.frozen? ⟨g,j,none⟩=false:=by simp[World.frozen?,hg]
    have NX:Hq (jb zs (D.take (i+1))=true∧RowAt ((wr.setCell ⟨g,j,none⟩ (.int .i64 v)).alloc (.cells #[.int .i64 (j:Int),.int .i64 v] 55)) 3 ((bG zs (D.take (i+1))).map (Value.int .i64)) (some ⟨g,0,none⟩) cap∧Turned (fx (some ⟨g,0,none⟩)) w ((wr.setCell ⟨g,j,none⟩ (.int .i64 v)).alloc (.cells #[.int .i64 (j:Int),.int .i64 v] 55))):=hQQ (by
     rw[Au HP.o,wS,tZ,HF.o]
     refine⟨by simp;omega,?_,(cu HT.o (fun _=>rfl) _).alloc _⟩
     have r2:=AH (i:=j) (.int .i64 v) HR2.o (by simp[hlen];omega)
     have r3:=r2.keep ((ae.refl _).alloc (.cells #[.int .i64 (j:Int),.int .i64 v] 55)) (fun _ _ q=>q)
     simpa [List.map_set] using r3)
    clear hn hm hsz htk hg hcell hk
    go_wp2_with fail
    go_roundw
    case rel=>exact⟨i+1,by go_num,by omega,NX.o.1,NX.o.2.1,NX.o.2.2⟩
    case measure=>simp[intOf];omega
   ·have d1:decide ((zs.length:Int)≤k)=true:=by simp;omega
    have FIN:Hq (∀w',ae wr w'→ki w zs D a cap (.slice an n cn) (.returned (.tuple #[.slice none 0 0,.slice none 0 0,.int .i64 3])) w'):=hQQ fun w' t=>⟨aq (F':=fun _=>False) HT.o t (fun _ q=>q.elim),.inr ⟨Av HP.o hk,rfl⟩⟩
    have HM:Hq (∀o,ae wr (wr.alloc o)):=hQQ fun o=>(ae.refl wr).alloc o
    clear hk
    go_wp2_with fail
    go_ret3
    exact FIN.o _ (HM.o _)
  ·obtain rfl:i=D.length:=by omega
   have FIN:Hq (ki w zs D a cap (.slice an n cn) (.returned (.tuple #[.slice a zs.length cap,.slice an n cn,.int .i64 0])) wr):=hQQ ⟨HT.o,.inl ⟨by have:=HF.o;rwa [List.take_length] at this,rfl,by have:=HR2.o;rwa [List.take_length] at this⟩⟩
   go_wp2_with fail
   go_ret3
   exact FIN.o
def yV:Value→Nat
 | .slice _ n _=>n
 | _=>0
theorem KnownAt.of_block {w w':World}{M n:Nat}{kn:Int→Option Int}(h:KnownAt w M n kn)(e:∀ob,w.heap[M]?=some ob→w'.heap[M]?=some ob):KnownAt w' M n kn:=by
 obtain⟨D,⟨es,clock,hb,F⟩,hk⟩:=h
 exact⟨D,⟨es,clock,e _ hb,F⟩,hk⟩
def lG (w:World)(F S:Nat→Prop)(Y X:World→Prop)(p:Nat)(kn:Int→Option Int)(R:Ran)(e:Ending)(w':World):Prop :=
 match R with
 | .need a=>e=.panicked (eT p)∧eC w' p a∧Turned (fun k=>F k∨S k) w w'∧Y w'
 | .done D=>e=.returned (.tuple #[])∧(∃F',bI w' F' p kn D)∧Turned (fun k=>F k∨S k) w w'∧Y w'∧X w'
theorem sM {ops:Array Oper}{rest:List Oper}{o:Oper}{a:Act}{Q:Exit→Act→World→Prop}{S:Nat→Prop}{w wa:World}{v:Value}{ps:List KV}(p q:Int)(hgd:o.guard=none)(s x:Operand)
 (ho:o.op=.call { callee:= .builtin .append,args:= #[s,x],argTypes:= #[39,39] })
 (hs:a.eval s=v) (hn:PRw wa.heap.size w v ps) (hW:Turned S wa w) (hl:ps.length≤1000000)
 (hx:a.eval x=.slice (some ⟨w.heap.size,0,none⟩) 1 1)
 (h:∀g cap w',PRw wa.heap.size w' (.slice (some ⟨g,0,none⟩) (ps.length+1) cap) (ps++ [(p,q)])→Turned S wa w'→(∀k ob,w.heap[k]?=some ob→v.ownBlock≠some k→w'.heap[k]?=some ob)→Turned (fun k=>v.ownBlock=some k) w w'→wpList Tryz.prog ops Q rest (a.put o.dst (.slice (some ⟨g,0,none⟩) (ps.length+1) cap)) w'):wpList Tryz.prog ops Q (o::rest) a (w.alloc (.cells #[.int .i64 p,.int .i64 q] 55)):=by
 obtain⟨i,i1,i2,i3,i4⟩:=nE
 have hn':=hn.more ((ae.refl w).alloc (.cells #[.int .i64 p,.int .i64 q] 55))
 have hB:=bm w (.cells #[.int .i64 p,.int .i64 q] 55)
 refine wpList_append_lies _ hgd s x 39 ho wa.heap.size 55 i _ 2 16 Tryz.underlying39 i1 i2 i3 i4 rfl (by omega) v ps.length _ hs hn' ⟨w.heap.size,0,none⟩ 1 1 [.int .i64 p,.int .i64 q] hx (by simp)
  (fun j u hu=>World.news_of_block hB j u (by simpa using hu)) (by intro u hu;simp at hu;rcases hu with rfl|rfl<;>rfl) (by omega) (by simp only[maxLen];omega) (by omega) (by have:=hW.size;simp;omega) _ rfl ?_
 intro g cap w1 hown hgrow _ _
 have ht:Turned (fun k=>v.ownBlock=some k) w w1:=⟨hgrow.os,hgrow.tape,hgrow.output,Nat.le_trans (by simp) hgrow.size,fun k hk hne=>by
  rw[hgrow.block k (by simp;omega) (fun e=>hne e.symm),Below.heap_alloc _ _ _ hk]⟩
 refine h g cap w1 ?_ (jY (hW.alloc _) hn' hgrow) (fun k ob hk hne=>by rw[Turned.block ht k (ac hk) hne];exact hk) ht
 unfold PRw
 rw[List.length_append,iy]
 exact hown
structure OnY (w wb wr:World)(S:Nat→Prop)(Y:World→Prop)(M:Nat)(zs:List Int)(sem:List KV→Ran)(R:Option (List Int×List KV))(K:List KV)(v:Value):Prop where
 okn:jx zs K
 res:doP sem zs (zs.length+1-K.length) K=R
 row:PRw wb.heap.size wr v K
 known:KnownAt wr M K.length (look K)
 turn:Turned (fun k=>k=M∨S k) wb wr
 y:Y wr
theorem bI.keepS {w w':World}{F S:Nat→Prop}{p:Nat}{kn:Int→Option Int}{D:List KV}(h:bI w F p kn D)(ht:Turned S w w')(hs:∀k,F k→¬S k)(hM:∀k es cl,S k→w.heap[k]? ≠some (.map es cl)):bI w' F p kn D:=by
 obtain⟨M,q,n,F0,hp,hk,hm,fp,f0,fM⟩:=h.ex
 have nM:¬S M:=by
  obtain⟨D',⟨es,clock,hb,_⟩,_⟩:=hk
  intro q
  exact hM M _ _ q hb
 exact⟨⟨M,q,n,F0,by rw[Turned.block ht p (ac hp) (hs p fp)];exact hp,hk.keep ht nM,hm.keep ht (fun k q=>hs k (f0 k q).1),fp,f0,fM⟩,fun k hk=>Nat.lt_of_lt_of_le (h.lt k hk) ht.size⟩
theorem uy {W:World}{g:Nat}{v:Value}{t:TypeId}(h:W.heap[g]?=some (.cells #[v] t (0,0)))(z:Value):(W.setCell ⟨g,0,none⟩ z).heap[g]?=some (.cells #[z] t (0,0)):=by
 have:=bu (o:=0) z h
 simpa using this
def bw {α:Type}(w:World)(F:Nat→Prop)(p:Nat)(kn:Int→Option Int)(val:α→Value)(R:Res α)(e:Ending)(w':World):Prop :=
 match R with
 | .need a=>ur w F p a e w'
 | .ok x D=>kS w F p kn D (val x) e w'
theorem bw.from {α:Type}{w w2 w':World}{F F':Nat→Prop}{p:Nat}{kn:Int→Option Int}{val:α→Value}{R:Res α}{e:Ending}(t:Turned F w w2)(n:∀k,F' k→F k∨w.heap.size≤k)(h:bw w2 F' p kn val R e w'):bw w F p kn val R e w':=by
 cases R with
 |need a=>exact⟨h.1,h.2.1,aq t h.2.2 n⟩
 |ok x D =>
  obtain⟨he,F1,hv,ht,hn⟩:=h
  refine⟨he,F1,hv,aq t ht n,fun k hk=>?_⟩
  rcases hn k hk with q|q
  ·exact n k q
  ·exact .inr (Nat.le_trans t.size q)
theorem bw.after {α:Type}{w w2 w':World}{F:Nat→Prop}{p:Nat}{kn:Int→Option Int}{val:α→Value}{R:Res α}{e:Ending}(t:ae w w2)(h:bw w2 F p kn val R e w'):bw w F p kn val R e w' :=
 h.from (Turned.mono t (fun _ _ q=>q.elim)) (fun k q=> .inl q)
theorem bw.need {α:Type}{w w':World}{F:Nat→Prop}{p:Nat}{kn:Int→Option Int}{val:α→Value}{R:Res α}{e:Ending}{a:Int}(hR:R=.need a)(h:ur w F p a e w'):bw w F p kn val R e w':=by subst hR;exact h
theorem bw.did {α:Type}{w w':World}{F:Nat→Prop}{p:Nat}{kn:Int→Option Int}{val:α→Value}{R:Res α}{e:Ending}{x:α}{D:List KV}(hR:R=.ok x D)(h:kS w F p kn D (val x) e w'):bw w F p kn val R e w':=by subst hR;exact h
theorem bw.same {α:Type}{w w':World}{F:Nat→Prop}{p:Nat}{kn:Int→Option Int}{D:List KV}{val:α→Value}{R:Res α}{x:α}(hR:R=.ok x D)(hv:bI w F p kn D)(t:ae w w'):bw w F p kn val R (.returned (val x)) w':=by
 subst hR;exact kS.same hv t
structure MidV (W wr:World)(F S:Nat→Prop)(p:Nat)(kn:Int→Option Int)(n:Nat)(D:List KV)(F':Nat→Prop):Prop where
 view:bI wr F' p kn D
 from':∀k,F' k→F k∨W.heap.size≤k
 turn:Turned (fun b=>F b∨S b) W wr
 inv:fy n D
namespace MidV
variable {W wr w1 w2:World}{F S F':Nat→Prop}{p n:Nat}{kn:Int→Option Int}{D:List KV}
theorem begin (hv:bI W F p kn D)(hD:fy n D):MidV W W F S p kn n D F:=⟨hv,fun k q=> .inl q,Turned.refl _ _,hD⟩
theorem more (h:MidV W wr F S p kn n D F')(m:ae wr w1):MidV W w1 F S p kn n D F' :=
 ⟨h.view.more m,h.from',aq (F':=fun _=>False) h.turn m (fun _ q=>q.elim),h.inv⟩
theorem size (h:MidV W wr F S p kn n D F'):W.heap.size≤wr.heap.size:=h.turn.size
theorem off (h:MidV W wr F S p kn n D F'){b:Nat}(hb:b<W.heap.size)(nF:¬F b):¬F' b:=fun q=>by
 rcases h.from' b q with r|r
 ·exact nF r
 ·omega
theorem box (h:MidV W wr F S p kn n D F'){b:Nat}(hS:b<W.heap.size→S b)(nF:¬F' b)(v:Value){cs:Array Value}{t:TypeId}{fr:Nat×Nat}(hb:wr.heap[b]?=some (.cells cs t fr)):MidV W (wr.setCell ⟨b,0,none⟩ v) F S p kn n D F' :=
 ⟨h.view.keepS (S:=fun k=>k=b) (Turned.setCell (S:=fun k=>k=b) (Turned.refl _ wr) ⟨b,0,none⟩ v (fun _=>rfl)) (fun k q e=>nF (e▸q)) (fun k es cl e q=>by subst e;rw[hb] at q;cases q),
  h.from',aq h.turn (Turned.setCell (S:=fun k=>k=b) (Turned.refl _ wr) ⟨b,0,none⟩ v (fun _=>rfl)) (fun k q=>by
   subst q
   rcases Nat.lt_or_ge k W.heap.size with r|r
   ·exact .inl (.inr (hS r))
   ·exact .inr r),h.inv⟩
theorem step {α:Type}{val:α→Value}{Q:α→Prop}{pr:Prg α}{e:Ending}(h:MidV W wr F S p kn n D F')(m:ae wr w1)(hk:OkK kn)(G:fX n Q pr)(he:bw w1 F' p kn val (pr kn D) e w2):
 (∃a,pr kn D=.need a∧e=.panicked (eT p)∧eC w2 p a∧Turned (fun b=>F b∨S b) W w2∧∀b o,¬F' b→wr.heap[b]?=some o→w2.heap[b]?=some o) ∨
 (∃x D1 F1,pr kn D=.ok x D1∧e=.returned (val x)∧MidV W w2 F S p kn n D1 F1∧Q x∧(∀b o,¬F' b→wr.heap[b]?=some o→w2.heap[b]?=some o)∧∀b,F1 b→F' b∨wr.heap.size≤b):=by
 have hm:=h.more m
 have hs:=m.size
 have hK:∀t,Turned F' w1 t→∀b o,¬F' b→wr.heap[b]?=some o→t.heap[b]?=some o:=fun t ht b o nb hb=>(ht.block b (ac (m.block hb)) nb).trans (m.block hb)
 cases hE:pr kn D with
 |need a =>
  rw[hE] at he
  obtain⟨h1,h2,h3⟩:=he
  exact .inl ⟨a,rfl,h1,h2,aq hm.turn h3 (fun k q=>(h.from' k q).imp .inl id),hK _ h3⟩
 |ok x D1 =>
  rw[hE] at he
  obtain⟨h1,F1,hv,ht,hn⟩:=he
  obtain⟨i1,q1⟩:=G.ok hk h.inv hE
  refine .inr ⟨x,D1,F1,rfl,h1,⟨hv,fun k q=>?_,aq hm.turn ht (fun k q=>(h.from' k q).imp .inl id),i1⟩,q1,hK _ ht,fun b q=>(hn b q).imp id (fun r=>by omega)⟩
  rcases hn k q with r|r
  ·exact h.from' k r
  ·have:=hm.size;exact .inr (by omega)
end MidV
theorem yW {W w2:World}{F S:Nat→Prop}{Y X:World→Prop}{p:Nat}{kn:Int→Option Int}{R:Ran}{a:Int}(hR:R=.need a)(hd:eC w2 p a)(ht:Turned (fun b=>F b∨S b) W w2)(hy:Y w2):lG W F S Y X p kn R (.panicked (eT p)) w2:=by
 subst hR;exact⟨rfl,hd,ht,hy⟩
theorem yX {W wr:World}{F S F':Nat→Prop}{Y X:World→Prop}{p n:Nat}{kn:Int→Option Int}{D:List KV}{R:Ran}(h:MidV W wr F S p kn n D F')(hR:R=.done D)(hy:Y wr)(hx:X wr):lG W F S Y X p kn R (.returned (.tuple #[])) wr:=by
 subst hR;exact⟨rfl,⟨F',h.view⟩,h.turn,hy,hx⟩
theorem pA {α:Type}{R:Res α}{a:Int}(h:R=.need a):hZ R=.need a:=by rw[h];rfl
theorem uz {α:Type}{R:Res α}{x:α}{D:List KV}(h:R=.ok x D):hZ R=.done D:=by rw[h];rfl
theorem df (w:World)(o0:Obj):∃w1,w.alloc o0=w1∧w1.heap[w.heap.size]?=some o0∧ae w w1∧w1.heap.size=w.heap.size+1:=⟨_,rfl,bm w o0,(ae.refl _).alloc _,by simp⟩
theorem nH (w:World)(o0 o1:Obj):∃w2,(w.alloc o0).alloc o1=w2∧w2.heap[w.heap.size]?=some o0∧w2.heap[w.heap.size+1]?=some o1∧ae w w2∧w2.heap.size=w.heap.size+2:=by
 obtain⟨w1,e1,h0,m0,s0⟩:=df w o0
 rw[e1]
 obtain⟨w2,e2,h1,m1,s1⟩:=df w1 o1
 rw[s0] at h1
 exact⟨w2,e2,m1.block h0,h1,m0.trans m1,by omega⟩
theorem lT (w:World)(o0 o1 o2:Obj):∃w3,((w.alloc o0).alloc o1).alloc o2=w3∧w3.heap[w.heap.size]?=some o0∧w3.heap[w.heap.size+1]?=some o1∧w3.heap[w.heap.size+2]?=some o2∧ae w w3∧w3.heap.size=w.heap.size+3:=by
 have h0:=bm w o0
 have s0:(w.alloc o0).heap.size=w.heap.size+1:=by simp
 have m0:ae w (w.alloc o0):=(ae.refl _).alloc _
 generalize w.alloc o0=w1 at h0 s0 m0⊢
 have h1:=bm w1 o1
 rw[s0] at h1
 have s1:(w1.alloc o1).heap.size=w.heap.size+2:=by simp[s0]
 have m1:ae w1 (w1.alloc o1):=(ae.refl _).alloc _
 generalize w1.alloc o1=w2 at h1 s1 m1⊢
 have h2:=bm w2 o2
 rw[s1] at h2
 have m2:ae w2 (w2.alloc o2):=(ae.refl _).alloc _
 exact⟨_,rfl,m2.block (m1.block h0),m2.block h1,h2,(m0.trans m1).trans m2,by simp[s1]⟩
theorem Dw {α:Type}{w w1 w2:World}{F S:Nat→Prop}{p:Nat}{kn:Int→Option Int}{val:α→Value}{R:Res α}{a:Int}(m:ae w w1)(hS:∀b,S b→w.heap.size≤b)(hR:R=.need a)(hd:eC w2 p a)(ht:Turned (fun b=>F b∨S b) w1 w2):bw w F p kn val R (.panicked (eT p)) w2 :=
 bw.need hR ⟨rfl,hd,aq (Turned.mono m (fun _ _ q=>q.elim)) ht (fun k q=>q.imp id (hS k))⟩
theorem Dx {α:Type}{w w1 w2:World}{F S F':Nat→Prop}{p n:Nat}{kn:Int→Option Int}{val:α→Value}{R:Res α}{x:α}{D:List KV}(m:ae w w1)(hS:∀b,S b→w.heap.size≤b)(h:MidV w1 w2 F S p kn n D F')(hR:R=.ok x D):bw w F p kn val R (.returned (val x)) w2 :=
 bw.did hR ⟨rfl,F',h.view,aq (Turned.mono m (fun _ _ q=>q.elim)) h.turn (fun k q=>q.imp id (hS k)),fun k q=>(h.from' k q).imp id (fun r=>Nat.le_trans m.size r)⟩
theorem kV {w1 w2:World}{F S F':Nat→Prop}{p n:Nat}{kn:Int→Option Int}{D:List KV}(h:MidV w1 w2 F S p kn n D F'){b:Nat}{o:Obj}(hb:w1.heap[b]?=some o)(nF:¬F b)(nS:¬S b):w2.heap[b]?=some o :=
 (h.turn.block b (ac hb) (by rintro(q|q);exact nF q;exact nS q)).trans hb
theorem mD (F:Nat→Prop)(p:Nat)(kn:Int→Option Int)(D:List KV)(a:Int)(w:World)(h:bI w F p kn D)(hw:W64 a):
 Calls Tryz.prog 76 #[.pointer (some ⟨p,0,none⟩),.int .i64 a] w (bw w F p kn (fun x=> .int .i64 x) (dJ a kn D)):=by
 cases e:gM kn D a with
 |none=>exact(rj F p kn D a w h hw e).mono (fun _ _ he=>bw.need (jy e) he)
 |some y =>
  refine(ri F p kn D a y w h hw e).mono ?_
  rintro _ _ ⟨rfl,n,rfl⟩
  exact bw.same (gA e) h ((ae.refl w).drewN n)
theorem klZ {W:World}{F:Nat→Prop}{p n:Nat}{kn:Int→Option Int}{b:Nat}{o:Obj}(hb:W.heap[b]?=some o)(nF:¬F b):Hq (∀wr D' F',MidV W wr F (fun _=>False) p kn n D' F'→wr.heap[b]?=some o):=hQQ fun wr D' F' h=>kV h hb nF (fun q=>q)
theorem m0Z {W:World}{F:Nat→Prop}{p n:Nat}{kn:Int→Option Int}{D:List KV}(hv:bI W F p kn D)(hD:fy n D):Hq (MidV W W F (fun _=>False) p kn n D F):=hQQ (MidV.begin hv hD)
theorem ndZ {α:Type}{w w1:World}{F:Nat→Prop}{p:Nat}{kn:Int→Option Int}{R:Res α}(val:α→Value)(m:ae w w1):Hq (∀a w2,R=.need a→eC w2 p a→Turned (fun b=>F b∨False) w1 w2→bw w F p kn val R (.panicked (eT p)) w2):=hQQ fun a w2 e hd ht=>Dw m (fun _ q=>q.elim) e hd ht
theorem dnZ {α:Type}{w w1:World}{F:Nat→Prop}{p n:Nat}{kn:Int→Option Int}{R:Res α}(val:α→Value)(m:ae w w1):Hq (∀x w2 D' F',R=.ok x D'→MidV w1 w2 F (fun _=>False) p kn n D' F'→bw w F p kn val R (.returned (val x)) w2):=hQQ fun x w2 D' F' e h=>Dx m (fun _ q=>q.elim) h e
def aU (pg k:Int):Bool:=decide (0≤k) && decide (k<aD pg)
theorem bT {pg k:Int} :aU pg k=true↔0≤k∧k<aD pg:=by simp[aU]
theorem uA {pg k:Int} :aU pg k=false↔¬(0≤k∧k<aD pg):=by
 cases h:aU pg k with
 |true=>simp[bT.1 h]
 |false=>simp only[true_iff];intro q;rw[bT.2 q] at h;cases h
theorem i7 {pg st k:Int}(h:aU pg k=true):cI pg st k=aN st+k:=if_pos (bT.1 h)
theorem Gz {pg st k:Int}(h:aU pg k=false):cI pg st k=0:=if_neg (uA.1 h)
def ofV (p:Int):Int:=if p<0 then -1 else p / 4
def dv (pg k:Int):Int:=if aU pg k then min 4 (pg-4 * k) else 0
def aZ (pg p n:Int):Bool:=decide (0≤p) && (decide (1≤n) && decide (n≤pg-p))
theorem bo {pg p n:Int} :aZ pg p n=true↔0≤p∧1≤n∧n≤pg-p:=by simp[aZ]
theorem IY {pg k:Int}(h:aU pg k=true):1≤dv pg k:=by
 unfold dv
 rw[if_pos h]
 have:=bT.1 h
 unfold aD at *
 omega
def dK (pg st k:Int):Prg Bool:=if aU pg k then aJ (dJ (cI pg st k)) (fun y=>aK (decide (y=1))) else aK false
def Dy (pg st k x:Int):Prg Int:=if aU pg k then aJ (dK pg st k) (fun b=>if b=decide (x=1) then aK 0 else aJ (eL (cI pg st k) x) (fun _=>aK (dv pg k))) else aK 0
def gI (pg st:Int):Nat→Int→Prg Bool
 | 0,_=>aK true
 |m+1,k=>aJ (dK pg st k) (fun b=>if b then gI pg st m (k+1) else aK false)
def sN (pg st:Int):Nat→Int→Int→Prg Int
 | 0,_,s=>aK s
 |m+1,k,s=>aJ (Dy pg st k 1) (fun x=>sN pg st m (k+1) (s+x))
def Dz (pg st:Int):Nat→Int→Int→Prg Int
 | 0,_,s=>aK s
 |m+1,k,s=>aJ (dK pg st k) (fun b=>Dz pg st m (k+1) (s+if b then dv pg k else 0))
def spanV (p n:Int):Nat:=((p+n-1) / 4-p / 4+1).toNat
def gJ (pg st p n:Int):Prg Bool:=if aZ pg p n then gI pg st (spanV p n) (p / 4) else aK false
def sO (pg st p n:Int):Prg Int:=if aZ pg p n then sN pg st (spanV p n) (p / 4) 0 else aK 0
def xr (pg st:Int):Prg Int:=Dz pg st (aD pg).toNat 0 0
structure TblIn (pg st:Int)(n:Nat):Prop where
 st1:1≤st
 st2:st≤64
 pg1:1≤pg
 pg2:pg≤256
 top:aN st+aD pg≤n
section
variable {pg st:Int}{n:Nat}(H:TblIn pg st n)
include H
theorem jZ {k:Int}(h:aU pg k=true):4≤cI pg st k∧cI pg st k<n∧W64 (cI pg st k):=by
 rw[i7 h]
 have:=bT.1 h
 have h1:=H.st1;have h2:=H.st2;have h3:=H.top;have h4:=H.pg1;have h5:=H.pg2
 unfold aD at *
 unfold aN W64 at *
 omega
theorem oE (k:Int):fX n (fun _=>True) (dK pg st k):=by
 unfold dK
 split
 ·rename_i h
  exact cU (fi n (jZ H h).2.1) (fun y _=>cH n trivial)
 ·exact cH n trivial
theorem sP (m:Nat):∀k,fX n (fun _=>True) (gI pg st m k):=by
 induction m with
 |zero=>intro k;exact cH n trivial
 |succ m ih =>
  intro k
  refine cU (oE H k) (fun b _=>?_)
  split
  ·exact ih _
  ·exact cH n trivial
end
theorem sQ (pg st k:Int):eG (dK pg st k):=by
 unfold dK
 exact fR (cL (iu _) (fun _=>ci _)) (ci _)
theorem qL (pg st:Int)(m:Nat):∀k,eG (gI pg st m k):=by
 induction m with
 |zero=>intro k;exact ci _
 |succ m ih=>intro k;exact cL (sQ _ _ _) (fun b=>fR (ih _) (ci _))
theorem sR (pg st p n:Int):eG (gJ pg st p n):=fR (qL _ _ _ _) (ci _)
theorem xt {pg p n:Int}(h:aZ pg p n=true)(h2:pg≤256):(spanV p n:Int)=(p+n-1) / 4-p / 4+1∧spanV p n≤64:=by
 obtain⟨h0,h1,h3⟩:=bo.1 h
 unfold spanV;omega
theorem o9 {pg p n:Int}(h:aZ pg p n=true)(i:Nat)(hi:i<spanV p n):aU pg (p / 4+i)=true:=by
 obtain⟨h0,h1,h3⟩:=bo.1 h
 rw[bT]
 unfold spanV at hi
 unfold aD
 omega
def aG (pg st:Int)(ws:List Int)(k:Int):Bool:=aU pg k && decide (wAt ws (cI pg st k)=1)
def fF (pg st:Int)(k x:Int)(ws:List Int):Int×List Int :=
 if aU pg k then(if aG pg st ws k=decide (x=1) then(0,ws) else(dv pg k,ws.set (cI pg st k).toNat x)) else(0,ws)
def mE (pg st:Int):Nat→Int→List Int→Bool
 | 0,_,_=>true
 |m+1,k,ws=>aG pg st ws k && mE pg st m (k+1) ws
def iT (pg st:Int):Nat→Int→Int→List Int→Int×List Int
 | 0,_,s,ws=>(s,ws)
 |m+1,k,s,ws=>iT pg st m (k+1) (s+(fF pg st k 1 ws).1) (fF pg st k 1 ws).2
def jE (pg st:Int):Nat→Int→Int→List Int→Int
 | 0,_,s,_=>s
 |m+1,k,s,ws=>jE pg st m (k+1) (s+if aG pg st ws k then dv pg k else 0) ws
section
variable {pg st:Int}{n:Nat}(H:TblIn pg st n)
include H
theorem kj (k:Int):bO n (dK pg st k) (fun ws=>(aG pg st ws k,ws)):=by
 unfold dK aG
 split
 ·rename_i h
  obtain⟨h0,h1,h2⟩:=jZ H h
  exact bg (aE (cV (by omega) h1) (fun y=>az n (decide (y=1)))) (fun ws _=>by simp[h])
 ·rename_i h
  exact bg (az n false) (fun ws _=>by simp[h])
theorem AM (k x:Int)(hx:W64 x):bO n (Dy pg st k x) (fF pg st k x):=by
 unfold Dy
 split
 ·rename_i h
  obtain⟨h0,h1,h2⟩:=jZ H h
  have hb:∀b:Bool,bO n (if b=decide (x=1) then aK 0 else aJ (eL (cI pg st k) x) (fun _=>aK (dv pg k))) (fun ws=>if b=decide (x=1) then(0,ws) else(dv pg k,ws.set (cI pg st k).toNat x)):=fun b=>by
   by_cases e:b=decide (x=1)
   ·rw[if_pos e];exact bg (az n 0) (fun ws _=>by rw[if_pos e])
   ·rw[if_neg e];exact bg (aE (cM (by omega) h1 h2 hx) (fun _=>az n (dv pg k))) (fun ws _=>by rw[if_neg e])
  exact bg (aE (kj H k) hb) (fun ws _=>by unfold fF;rw[if_pos h])
 ·rename_i h
  exact bg (az n 0) (fun ws _=>by unfold fF;rw[if_neg h])
theorem sS (m:Nat):∀k,bO n (gI pg st m k) (fun ws=>(mE pg st m k ws,ws)):=by
 induction m with
 |zero=>intro k;exact az n true
 |succ m ih =>
  intro k
  have hb:∀b:Bool,bO n (if b then gI pg st m (k+1) else aK false) (fun ws=>(b && mE pg st m (k+1) ws,ws)):=fun b=>by
   cases b with
   |true=>exact ih (k+1)
   |false=>exact az n false
  exact aE (kj H k) hb
theorem sT (m:Nat):∀k s,bO n (sN pg st m k s) (iT pg st m k s):=by
 induction m with
 |zero=>intro k s;exact az n s
 |succ m ih=>intro k s;exact aE (AM H k 1 (by unfold W64;omega)) (fun x=>ih (k+1) (s+x))
end
theorem uB (pg st k x:Int)(ws:List Int):(fF pg st k x ws).2.length=ws.length:=by
 unfold fF;split
 ·split<;>simp
 ·rfl
structure Cfg where
 wk:Int
 cp:Int
 pg:Int
 st:Int
 tr:Int
 wt:Int
 ck:Int
 pr:Int
 ca:Int
 bi:Int
 ba:Int
def Cfg.Ok (c:Cfg):Prop:=bP c.wk c.cp c.pg c.st c.tr c.wt c.ck c.pr c.ca c.bi c.ba
def Cfg.starts (c:Cfg):Nat→Int:=aI c.cp c.pg c.st c.ca c.bi
def Cfg.arr (c:Cfg):Array Value:=aQ c.wk c.cp c.pg c.st c.tr c.wt c.ck c.pr c.ca c.bi c.ba c.starts
def Cfg.cells (c:Cfg):Array Value:= #[.int .i64 c.wk,.int .i64 c.cp,.int .i64 c.pg,.int .i64 c.st,.int .i64 c.tr,.int .i64 c.wt,.int .i64 c.ck,.int .i64 c.pr,.int .i64 c.ca,.int .i64 c.bi,.int .i64 c.ba]
def Cfg.words (c:Cfg):Int:=cW c.cp c.pg c.st c.ca c.bi
def dq (c:Cfg)(k:Int):Array Value:=c.arr.push (.int .i64 k)
theorem GB {c:Cfg}(R:c.Ok)(w:World)(k:Int):Calls Tryz.prog 142 #[.agg c.arr,.int .i64 k] w (aF w (.int .i64 (cI c.pg c.st k))):=IQ R w k
theorem uC {c:Cfg}(R:c.Ok)(w:World):Calls Tryz.prog 42 #[.agg c.arr] w (aF w (.agg #[.int .i64 c.wk,.int .i64 c.cp,.int .i64 c.pg,.int .i64 c.st,.int .i64 c.tr,.int .i64 c.wt,.int .i64 c.ck,.int .i64 c.pr,.int .i64 c.ca,.int .i64 c.bi,.int .i64 c.ba])):=Gt R w
theorem GC {c:Cfg}(R:c.Ok)(w:World):Calls Tryz.prog 54 #[.agg c.arr] w (aF w (.int .i64 c.words)):=IU R w
theorem oF (c:Cfg)(W:World):(Instr.field 23 (.agg #[.int .i64 c.wk,.int .i64 c.cp,.int .i64 c.pg,.int .i64 c.st,.int .i64 c.tr,.int .i64 c.wt,.int .i64 c.ck,.int .i64 c.pr,.int .i64 c.ca,.int .i64 c.bi,.int .i64 c.ba]) 2).run Tryz.prog W=.ok (.int .i64 c.pg) W:=by kernel_rfl
theorem uD (c:Cfg)(k:Int)(W:World):(Instr.build 117 #[(0,.agg c.arr),(1,.int .i64 k)]).run Tryz.prog W=.ok (.agg (dq c k)) W:=run_build W _ _ _ (by kernel_rfl)
theorem DA (c:Cfg)(k:Int):(dq c k)[24]?=some (.int .i64 k):=by rfl
theorem DB (c:Cfg)(k:Int):∀j,j<24→(dq c k)[j]?=c.arr[j]? :=fun j hj=>by
 unfold dq
 rw[Array.getElem?_push,if_neg (by show j≠24;omega)]
theorem nI {P:Program}(w:World)(g:Nat)(t ty:TypeId)(cs hs:Array Value)(fr:Nat×Nat)(d:TypeDesc)(hg:w.heap[g]?=some (.cells cs t fr))(hc:∀j,j<hs.size→cs[j]?=hs[j]?)
 (hu:P.underlying ty=some d) (hd:(match d with| .struct _| .array _ _=>true|_=>false)=true) (hi:(P.info? ty).map (·.size)=some hs.size):
 (loadVar ty ⟨g,0,none⟩).run P w=.ok (.agg hs) w:=by
 have hl:(loadCells ⟨g,0,none⟩ hs.toList.length).run P w=.ok hs.toList.toArray w :=
  run_loadCells_list (P:=P) w ⟨g,0,none⟩ hs.toList (fun j v hv=>by
   have hj:j<hs.size:=by have:=(List.getElem?_eq_some_iff.1 hv).1;simpa using this
   rw[eV,Nat.zero_add,cell_of_row w g j cs t fr hg,hc j hj]
   simpa using hv)
 cases hq:P.info? ty with
 |none=>simp[hq] at hi
 |some i =>
  have hs:i.size=hs.size:=by simpa [hq] using hi
  have hagg:(isAgg ty).run P w=.ok true w:=by
   unfold isAgg
   rw[Sem.run_bind,run_underlying hu w]
   cases d<;>simp_all
  simp only[Array.length_toList,Array.toArray_toList] at hl
  simp[loadVar,Sem.run_bind,hagg,sizeOf,typeInfo,hq,hs,hl]
theorem nJ {P:Program}{ops:Array Oper}{rest:List Oper}{o:Oper}{a:Act}{w:World}{Q:Exit→Act→World→Prop}(hw:Region.wanted o (yielded ops a.tmps)=true)(ty:TypeId)(x:Operand)(ho:o.op=.load ty x)
 (g:Nat) (hx:a.eval x=.pointer (some ⟨g,0,none⟩)) (t:TypeId) (cs hs:Array Value) (fr:Nat×Nat) (d:TypeDesc) (hg:w.heap[g]?=some (.cells cs t fr)) (hc:∀j,j<hs.size→cs[j]?=hs[j]?)
 (hu:P.underlying ty=some d) (hd:(match d with| .struct _| .array _ _=>true|_=>false)=true) (hi:(P.info? ty).map (·.size)=some hs.size)
 (h:wpList P ops Q rest (a.put o.dst (.agg hs)) w):wpList P ops Q (o::rest) a w :=
 eI hw fun K hK=>by
  unfold Oper.wp Oper.upon execOp
  simp only[ho,hx,Instr.loadAt,Instr.sureAddr,Sem.run_bind,Sem.run_pure,Result.andThen_ok,nI w g t ty cs hs fr d hg hc hu hd hi]
  exact hK _ _ h
theorem JX (p:Int)(h0: -9223372036854775808≤p)(h1:p≤9223372036854775807)(w:World):Calls Tryz.prog 121 #[.int .i64 p] w fun e w'=>e=.returned (.int .i64 (ofV p))∧w'=w:=by
 by_cases c:p<0
 ·rw[show ofV p= -1 from if_pos c]
  go_enter Tryz.func121,Tryz.ntmps121
  go_wp2_with fail
  go_ret
  exact⟨rfl,rfl⟩
 ·rw[show ofV p=p / 4 from if_neg c]
  have q2:IntKind.i64.wrap (p.tdiv 4)=p / 4:=by rw[Int.tdiv_eq_ediv_of_nonneg (by omega)];exact am (by omega) (by omega)
  have d0:decide (p<0)=false:=by simp;omega
  go_enter Tryz.func121,Tryz.ntmps121
  go_wp2_with fail
  go_ret
  exact⟨rfl,rfl⟩
theorem DC {c:Cfg}(R:c.Ok)(k:Int)(w:World):Calls Tryz.prog 123 #[.agg (dq c k)] w (aF w (.int .i64 (cI c.pg c.st k))):=by
 have HC:=hQQ (aH w (dq c k) 117)
 have x24:=aB HC.o (ae.refl _) (DA c k)
 have HM:Hq (ae w (w.alloc (.cells (dq c k) 117))):=(ae.refl w).alloc _
 go_enter Tryz.func123,Tryz.ntmps123
 go_wp2_with (refine nJ rfl 33 _ rfl _ rfl 117 _ c.arr _ _ HC.o (DB c k) Tryz.underlying33 rfl (by kernel_rfl) ?_)
 refine(GB R _ k).mono ?_
 rintro e w1 ⟨rfl,h1⟩
 go_wp2_with fail
 go_ret
 exact⟨rfl,HM.o.trans h1⟩
theorem DE {c:Cfg}(R:c.Ok)(k:Int):(cI c.pg c.st k==0)= !aU c.pg k:=by
 have h1:=R.st1
 cases h:aU c.pg k with
 |true =>
  rw[i7 h]
  have:=bT.1 h
  unfold aN
  simp;omega
 |false=>rw[Gz h];rfl
theorem DF {c:Cfg}(R:c.Ok)(k:Int)(w:World):Calls Tryz.prog 122 #[.agg (dq c k)] w (aF w (.bool (!aU c.pg k))):=by
 have HC:=hQQ (aH w (dq c k) 117)
 have HM:Hq (ae w (w.alloc (.cells (dq c k) 117))):=(ae.refl w).alloc _
 have b0:=DE R k
 go_enter Tryz.func122,Tryz.ntmps122
 go_wp2_with (refine wpList_load_row rfl 117 _ rfl _ rfl 117 _ _ _ HC.o Tryz.underlying117 rfl (by kernel_rfl) ?_)
 refine(DC R k _).mono ?_
 rintro e w1 ⟨rfl,h1⟩
 go_wp2_with fail
 go_ret
 exact⟨rfl,HM.o.trans h1⟩
theorem JY {c:Cfg}(R:c.Ok){k:Int}(h:aU c.pg k=true):W64 (cI c.pg c.st k):=by
 rw[i7 h]
 have:=bT.1 h
 have h1:=lO R;have h2:=jz R
 unfold W64;omega
theorem xu {c:Cfg}(R:c.Ok)(F:Nat→Prop)(p:Nat)(kn:Int→Option Int)(D:List KV)(k:Int)(w:World)(hv:bI w F p kn D):
 Calls Tryz.prog 82 #[.agg (dq c k),.pointer (some ⟨p,0,none⟩)] w (bw w F p kn (fun b=> .bool b) (dK c.pg c.st k kn D)):=by
 have HC:=hQQ (aH w (dq c k) 117)
 have HM:Hq (ae w (w.alloc (.cells (dq c k) 117))):=(ae.refl w).alloc _
 have HV:=hQQ hv
 have HR:=hQQ R
 clear hv
 cases h:aU c.pg k with
 |false =>
  have FIN:Hq (∀w',ae w w'→bw w F p kn (fun b=> .bool b) (dK c.pg c.st k kn D) (.returned (.bool false)) w'):=hQQ fun w' m=>bw.same (by unfold dK;rw[h];rfl) HV.o m
  go_enter Tryz.func82,Tryz.ntmps82
  go_wp2_with (refine wpList_load_row rfl 117 _ rfl _ rfl 117 _ _ _ HC.o Tryz.underlying117 rfl (by kernel_rfl) ?_)
  refine(DF HR.o k _).mono ?_
  rw[h]
  rintro e w1 ⟨rfl,h1⟩
  have HM1:=hQQ (HM.o.trans h1)
  clear h1
  go_wp2_with fail
  go_ret
  exact FIN.o _ HM1.o
 |true =>
  have hR:dK c.pg c.st k kn D=aJ (dJ (cI c.pg c.st k)) (fun y=>aK (decide (y=1))) kn D:=by unfold dK;rw[h];rfl
  rw[hR]
  have HW:=hQQ (JY R h)
  go_enter Tryz.func82,Tryz.ntmps82
  go_wp2_with (refine wpList_load_row rfl 117 _ rfl _ rfl 117 _ _ _ HC.o Tryz.underlying117 rfl (by kernel_rfl) ?_)
  refine(DF HR.o k _).mono ?_
  rw[h]
  rintro e w1 ⟨rfl,h1⟩
  have HM1:=hQQ (HM.o.trans h1)
  have HC1:=hQQ (h1.block HC.o)
  clear h1
  go_wp2_with (refine cX rfl 117 _ rfl _ rfl 117 _ _ _ HC1.o Tryz.underlying117 rfl (by kernel_rfl) ?_)
  refine(DC HR.o k _).mono ?_
  rintro e w2 ⟨rfl,h2⟩
  have HM2:=hQQ (HM1.o.trans h2)
  clear h2
  have HV2:=hQQ (HV.o.more HM2.o)
  cases hw:gM kn D (cI c.pg c.st k) with
  |none =>
   have HN:=hQQ hw
   clear hw
   go_wp2_with fail
   refine(rj F p kn D _ w2 HV2.o HW.o HN.o).mono ?_
   intro e w3 he
   obtain rfl:=he.1
   exact⟨rfl,bw.after HM2.o (bw.need (bK (jy HN.o)) he)⟩
  |some y =>
   have HN:=hQQ hw
   have FIN:Hq (∀n,bw w F p kn (fun b=> .bool b) (aJ (dJ (cI c.pg c.st k)) (fun y=>aK (decide (y=1))) kn D) (.returned (.bool (decide (y=1)))) (w2.drewN n)):=hQQ fun n=>bw.same (by rw[bE (gA HN.o)];rfl) HV.o (HM2.o.drewN n)
   have b1:(y==1)=decide (y=1):=by by_cases q:y=1<;>simp[q]
   clear hw
   go_wp2_with fail
   refine(ri F p kn D _ y w2 HV2.o HW.o HN.o).mono ?_
   rintro e w3 ⟨rfl,n,rfl⟩
   go_wp2_with fail
   go_ret
   exact FIN.o n
variable {F:Fence}{n:Nat}{P:Program}
def AN (P:Program)(l:Nat)(R:Ending→World→Prop):Exit→Act→World→Prop
 | .panic chain,a,w=>a.defers= []∧R (.panicked chain) w
 |e,a,w=>roundPost P l R e a w
theorem xw {l:Nat}{f:FuncId}{fn:Func}{tmps:Array Value}{assign body:Code}{w:World}{R:Ending→World→Prop}(hF:F.fn f)(hf:P.funcs[f]?=some fn)
 (h:assign.wpIn (F.inRound l) n P (Exit.then (fun a₁ w₁=>∃w₂,(Instr.beginRound l).run P w₁= .ok () w₂∧body.wpIn (F.inRound l) n P (AN P l R) a₁ w₂) (fun _ _ _=>False)) { tmps:=tmps,defers:= [] } w):
 RoundIn F n P l f tmps assign body w R:=by
 refine⟨hF,fun c cs hr=>?_⟩
 obtain⟨b,hb⟩:∃b:Frame,b= { (default:Frame) with fn:=f,kind:= .normal,roundOf:=some l } :=⟨_,rfl⟩
 have bf:b.fn=f:=by rw[hb]
 have bk:b.kind=.normal:=by rw[hb]
 have br:b.roundOf=some l:=by rw[hb]
 have start:Frame.round l f tmps assign body .normal=b.atR { tmps:=tmps,defers:= [] } [.code assign,.beginRound,.code body]:=by simp[Frame.round,Frame.atR,bf,bk,br]
 have room:(F.inRound l).room ((c::cs).length+1+n):=hr
 have inn:(F.inRound l).fn b.fn:=by rw[bf];exact hF
 have calm:∀ {a todo W},(b.atR a todo).about P W=none→(lone (b.atR a todo) (c::cs) W).fenced P F:=fun q=>fenced_calm (F:=F) (fr:=b.atR _ _) (by exact inn) room q
 obtain⟨e,a₁,w₁,hq,way⟩:=h b [.beginRound,.code body] (c::cs) br inn room
 rw[←start] at way
 cases e with
 |normal =>
  obtain⟨w₂,hbegin,hbody⟩:=hq
  obtain⟨e₂,a₂,w₃,hq₂,way₂⟩:=hbody b [] (c::cs) br inn room
  have here:StepsIn (Machine.fenced P F) P (lone (Frame.round l f tmps assign body .normal) (c::cs) w) (lone (b.atR a₁ [.code body]) (c::cs) w₂):=StepsIn.trans way (.one (calm rfl) (stepR_beginRound br hbegin))
  have some':b.roundOf.isSome=true:=by rw[br];rfl
  cases e₂ with
  |normal=>obtain⟨v,w₄,h1,h2⟩:=hq₂;exact⟨.returned v,w₄,h2,StepsIn.trans here (StepsIn.trans way₂ (.one (calm rfl) (stepR_round_end br bk h1)))⟩
  |ret=>obtain⟨v,w₄,h1,h2⟩:=hq₂;obtain⟨k₁,s⟩:=way₂.2 some';exact⟨.returned v,w₄,h2,StepsIn.trans here (StepsIn.trans s (.one (calm rfl) (stepR_round_ret br bk h1)))⟩
  |exit id=>obtain⟨v,w₄,h1,h2⟩:=hq₂;obtain⟨k₁,hk,s⟩:=way₂.2 some' rfl;exact⟨.returned v,w₄,h2,StepsIn.trans here (StepsIn.trans s (.one (calm rfl) (stepR_round_exit br bk hk h1)))⟩
  |goto t=>obtain⟨v,w₄,h1,h2⟩:=hq₂;obtain⟨k₁,hk,s⟩:=way₂.2 some' rfl;exact⟨.returned v,w₄,h2,StepsIn.trans here (StepsIn.trans s (.one (calm rfl) (stepR_round_goto br bk hk h1)))⟩
  |panic chain =>
   obtain⟨hd,h2⟩:=hq₂
   obtain⟨todo,s⟩:=way₂
   have lv:Frame.leaving P { b.atR a₂ todo with mode:= .panicking chain } w₃ (.panicked chain):=⟨rfl,hd,fn,by show P.funcs[b.fn]?=_;rw[bf];exact hf⟩
   exact⟨.panicked chain,w₃,h2,StepsIn.trans here (StepsIn.trans s (.one (fenced_leaving (F:=F) (by exact inn) room lv) (step_leave_panicked lv)))⟩
  |outgrown=>exact hq₂.elim
 |exit id=>exact hq.elim
 |goto t=>exact hq.elim
 |ret=>exact hq.elim
 |panic chain=>exact hq.elim
 |outgrown=>exact hq.elim
def qM (f0:FuncId)(F:Fence)(n:Nat)(P:Program)(c:Code)(Q:Exit→Act→World→Prop)(a:Act)(w:World):Prop :=
 ∀(b:Frame) (k:List Item) (cs:List Frame),b.roundOf=F.round→b.fn=f0→F.fn b.fn→F.room (cs.length+1+n) →
  ∃e a' w',Q e a' w'∧ArrivesIn (Machine.fenced P F) P (lone (b.atR a (.code c::k)) cs w) b k cs e a' w'
theorem yY {f0:FuncId}{c:Code}{Q:Exit→Act→World→Prop}{a:Act}{w:World}(h:c.wpIn F n P Q a w):qM f0 F n P c Q a w :=
 fun b k cs hro _ hb hr=>h b k cs hro hb hr
theorem uE {f0:FuncId}{x y:Code}{Q:Exit→Act→World→Prop}{a:Act}{w:World}(h:qM f0 F n P x (Exit.then (qM f0 F n P y Q) Q) a w):qM f0 F n P (.seq x y) Q a w:=by
 intro b k cs hro hf hb hr
 have first:StepsIn (Machine.fenced P F) P (lone (b.atR a (.code (.seq x y)::k)) cs w) (lone (b.atR a (.code x:: .code y::k)) cs w):= .one (fenced_calm hb hr rfl) stepR_seq
 obtain⟨e,a₁,w₁,hq,way⟩:=h b (.code y::k) cs hro hf hb hr
 by_cases he:e=.normal
 ·subst he
  obtain⟨e₂,a₂,w₂,hq₂,way₂⟩:=hq b k cs hro hf hb hr
  exact⟨e₂,a₂,w₂,hq₂,.of_steps (StepsIn.trans first way) way₂⟩
 ·refine⟨e,a₁,w₁,?_,.of_steps first (.pass (x:=.code y) rfl (fun _ _=> .inl he) way)⟩
  cases e<;>first|exact hq|exact(he rfl).elim
theorem pB {f0:FuncId}{x y:Code}{Q:Exit→Act→World→Prop}{a:Act}{w:World}(h:x.wpIn F n P (Exit.then (qM f0 F n P y Q) Q) a w):qM f0 F n P (.seq x y) Q a w :=
 uE (yY h)
theorem xx {f0:FuncId}{id:Nat}{x:Code}{Q:Exit→Act→World→Prop}{a:Act}{w:World}(h:qM f0 F n P x (Exit.inBlock id Q) a w):qM f0 F n P (.block id x) Q a w:=by
 intro b k cs hro hf hb hr
 have first:StepsIn (Machine.fenced P F) P (lone (b.atR a (.code (.block id x)::k)) cs w) (lone (b.atR a (.code x:: .inBlock id::k)) cs w):= .one (fenced_calm hb hr rfl) stepR_block
 obtain⟨e,a₁,w₁,hq,way⟩:=h b (.inBlock id::k) cs hro hf hb hr
 have gone:∀l,gotoIn l (.inBlock id::k)=gotoIn l k:=fun l=>by simp[gotoIn]
 cases e with
 |normal=>exact⟨.normal,a₁,w₁,hq,StepsIn.trans first (StepsIn.trans way (.one (fenced_calm hb hr rfl) stepR_inBlock))⟩
 |goto l=>exact⟨.goto l,a₁,w₁,hq,fun k' hk=>StepsIn.trans first (way.1 k' (by rw[gone];exact hk)),fun q hk=>let ⟨k₁,h1,h2⟩:=way.2 q (by rw[gone];exact hk); ⟨k₁,h1,StepsIn.trans first h2⟩⟩
 |exit i =>
  by_cases hi:i=id
  ·subst hi
   simp only[Exit.inBlock,if_true] at hq
   exact⟨.normal,a₁,w₁,hq,StepsIn.trans first (way.1 k (by simp[exitTo]))⟩
  ·simp only[Exit.inBlock,hi,if_false] at hq
   have out:exitTo i (.inBlock id::k)=exitTo i k:=by simp[exitTo,show(id==i)=false by simp;exact fun q=>hi q.symm]
   exact⟨.exit i,a₁,w₁,hq,fun k' hk=>StepsIn.trans first (way.1 k' (by rw[out];exact hk)),fun q hk=>let ⟨k₁,h1,h2⟩:=way.2 q (by rw[out];exact hk); ⟨k₁,h1,StepsIn.trans first h2⟩⟩
 |ret=>exact⟨_,a₁,w₁,hq,.of_steps first way⟩
 |panic ch=>exact⟨_,a₁,w₁,hq,.of_steps first way⟩
 |outgrown=>exact⟨_,a₁,w₁,hq,.of_steps first way⟩
theorem oQ {f:FuncId}{fn:Func}{c:Code}{args:Array Value}{w:World}{R:Ending→World→Prop}(hf:P.funcs[f]?=some fn)(hb:fn.body=some c)(hF:F.fn f)
 (h:qM f F n P c (bodyPostM F n P fn R) { tmps:=args++Array.replicate (fn.ntmps-args.size) undef,defers:= [] } w) (hro:F.round=none):CallsIn F n P f args w R:=by
 refine⟨hF,fun cs hr=>?_⟩
 obtain⟨b,hb0⟩:∃b:Frame,b= { (default:Frame) with fn:=f,kind:= .normal,roundOf:=none } :=⟨_,rfl⟩
 have bf:b.fn=f:=by rw[hb0]
 have bk:b.kind=.normal:=by rw[hb0]
 have br:b.roundOf=none:=by rw[hb0]
 have inn:F.fn b.fn:=by rw[bf];exact hF
 have hfb:P.funcs[b.fn]?=some fn:=by rw[bf];exact hf
 have start:Frame.enter P f args .normal=b.atR { tmps:=args++Array.replicate (fn.ntmps-args.size) undef,defers:= [] } [.code c]:=by simp[Frame.enter,Frame.atR,hf,hb,bf,bk,br]
 obtain⟨e,a',w',hq,way⟩:=h b [] cs (by rw[br,hro]) bf inn hr
 rw[←start] at way
 have leave:∀(u:FrameMode) (todo:List Item),LeavesInM F n P fn a'.tmps R a'.defers u w'→StepsIn (Machine.fenced P F) P (lone (Frame.enter P f args .normal) cs w) (lone { b.atR a' todo with mode:=u } cs w') →
  ∃e w' fr,R e w'∧ComesIn (Machine.fenced P F) P (lone (Frame.enter P f args .normal) cs w) (lone fr cs w') e∧fr.fn=f∧fr.leaving P w' e:=fun u todo hl s=>by
  obtain⟨e',w'',fr',h1,h2,h3,h4⟩:=leaves_stepsInM (F:=F) (n:=n) a'.defers u w' { b.atR a' todo with mode:=u } cs rfl rfl rfl hfb bk inn hr hl
  exact⟨e',w'',fr',h1,ComesIn.of_steps s h2,h3.trans bf,h4⟩
 cases e with
 |normal=>exact leave .returning [] hq (StepsIn.trans way (.one (fenced_calm (fr:=b.atR a' []) inn hr rfl) (stepR_end br)))
 |ret=>obtain⟨todo,s⟩:=way.1 br;exact leave .returning todo hq s
 |panic chain=>obtain⟨todo,s⟩:=way;exact leave (.panicking chain) todo hq s
 |exit id=>exact hq.elim
 |goto l=>exact hq.elim
 |outgrown=>exact⟨.outgrown,w',b,hq,way.resolve_left (by rw[bk];simp),bf,trivial⟩
def cS (S:Nat→Prop)(W W':World):Prop:=∀k,S k→W'.heap[k]?=W.heap[k]?
theorem cS.trans {S:Nat→Prop}{A B C:World}(h:cS S A B)(k:cS S B C):cS S A C:=fun i hi=>(k i hi).trans (h i hi)
theorem cS.put {S:Nat→Prop}(W:World)(l:Nat)(o:Obj)(hl:¬S l):cS S W (W.putObj l o):=fun i hi=>World.putObj_heap_other (fun e=>hl (e▸hi))
theorem cS.turned {S T:Nat→Prop}{W W':World}(h:Turned T W W')(hl:∀k,S k→k<W.heap.size)(ht:∀k,S k→¬T k):cS S W W':=fun i hi=>Turned.block h i (hl i hi) (ht i hi)
structure rk (B:Nat)(I:World→Prop):Prop where
 more:∀ {A A':World},I A→ae A A'→I A'
 put:∀ {A:World} {r:Loop} (r':Loop),I A→A.heap[B+1]?=some (.loop r)→I (A.putObj (B+1) (.loop r'))
def lU (B k:Nat):Prop:=k=B∨k=B+1
def yZ (F:Fence)(n:Nat)(P:Program)(gf:Nat)(lb:Array Value)(enc:Nat→Array Value)(N:Nat)(S:Nat→Prop)(w0:World):Prop :=
 ∀(l:Nat) (J:Nat→World→Prop) (Jx:Ending→Nat→World→Prop) (W:World),ae w0 W→(∀k A B,J k A→ae A B→J k B)→(∀e k A B,Jx e k A→ae A B→Jx e k B) →
  (∀k W1,k<N→J k W1→YieldAt F (n-1) P l (enc k) W1 fun e W'=>(e=.returned (.bool true)∧J (k+1) W'∧cS S W1 W')∨((e=.returned (.bool false)∨∃c,e=.panicked c)∧Jx e k W'))→J 0 W →
  CallsIn F n P gf (#[.func (.yield l) #[] #[]]++lb) W fun e W'=>((∃v,e=.returned v)∧(J N W'∨∃k,k<N∧Jx (.returned (.bool false)) k W'))∨(∃c k,e=.panicked c∧k<N∧Jx e k W')
def xy:Exit→Option Code
 | .ret=>some .ret
 | .exit id=>some (.exit id)
 | .goto t=>some (.goto t)
 | _=>none
def DH (B:Nat)(S:Nat→Prop)(I:Nat→World→Prop)(Ix:Exit→Nat→World→Prop)(k:Nat)(W:World):Exit→Act→World→Prop
 | .normal,_,W'=>cS (lU B) W W'∧cS S W W'∧I (k+1) W'
 | .panic c,a,W'=>cS (lU B) W W'∧a.defers= []∧Ix (.panic c) k W'
 | .outgrown,_,_=>False
 |e,_,W'=>cS (lU B) W W'∧Ix e k W'
theorem DI {f0:FuncId}{fn0:Func}(hf0:P.funcs[f0]?=some fn0){g:Operand}{ps:Array Tmp}{assign body:Code}{Q:Exit→Act→World→Prop}{a:Act}{w:World}
 (hro:F.round=none) (h1:1≤n) {gf:Nat} {lb:Array Value} (hg:a.eval g=.func (.func gf) #[] lb) (hFg:F.fn gf) (eg:∀args w,(callFunc gf args).run P w=.ok (.enter gf args) w)
 {enc:Nat→Array Value} {N:Nat} {S:Nat→Prop} {w0:World} (hseq:yZ F (n-1) P gf lb enc N S w0) (hw0:ae w0 w) (hS:∀k,S k→k<w.heap.size) (hps:∀k,(enc k).size=ps.size)
 (I:Nat→World→Prop) (Ix:Exit→Nat→World→Prop) (hI:∀i,rk w.heap.size (I i)) (hIx:∀e i,rk w.heap.size (Ix e i)) (h0:I 0 w) (Ax:Nat→Act→World→Prop) (hAx:∀k a',rk w.heap.size (Ax k a'))
 (hassign:∀(l k:Nat) (W:World) (K:Act→World→Prop),k<N→w.heap.size+2≤W.heap.size→I k W→(∀a' W',cS (lU w.heap.size) W W'→cS S W W'→Ax k a' W'→K a' W') →
  assign.wpIn (F.inRound l) (n-1-1) P (Exit.then K (fun _ _ _=>False)) { tmps:=(ps.zip (enc k)).foldl (fun t (p,v)=>t.setIfInBounds p v) a.tmps,defers:= [] } W)
 (hbody:∀(l k:Nat) (a':Act) (W:World),w.heap.size+2≤W.heap.size→k<N→Ax k a' W→body.wpIn (F.inRound l) (n-1-1) P (DH w.heap.size S I Ix k W) a' W)
 (hdone:∀W:World,I N W→W.heap[w.heap.size]?=some (.deferred (some []))→Q .normal { a with defers:= { target:= .collected w.heap.size,args:= #[] } ::a.defers } W)
 (hstop:∀(k:Nat) (e:Exit) (c:Code) (W:World),xy e=some c→k<N→Ix e k W→W.heap[w.heap.size]?=some (.deferred (some []))→c.wpIn F n P Q { a with defers:= { target:= .collected w.heap.size,args:= #[] } ::a.defers } W)
 (hpanic:∀(k:Nat) (ch:List PanicEntry) (W:World),k<N→Ix (.panic ch) k W→W.heap[w.heap.size]?=some (.deferred (some []))→Q (.panic ch) { a with defers:= { target:= .collected w.heap.size,args:= #[] } ::a.defers } W):
 qM f0 F n P (Code.rangeFunc g ps assign body) Q a w:=by
 intro b k cs hrb hf hb hr
 have hfb:P.funcs[b.fn]?=some fn0:=by rw[hf];exact hf0
 -- the record,at its states
 obtain⟨rec,hrec⟩:∃rec:LoopState→Option Code→Loop,rec=fun st pe=> { state:=st,pending:=pe,fn:=b.fn,tmps:=a.tmps,params:=ps,assign,body,defers:=w.heap.size } :=⟨_,rfl⟩
 obtain⟨W1,hW1⟩:∃W1,(w.alloc (.deferred (some []))).alloc (.loop (rec .ready none))=W1:=⟨_,rfl⟩
 have m1:ae w W1:=by rw[←hW1];exact((ae.refl w).alloc _).alloc _
 have L1:W1.heap[w.heap.size+1]?=some (.loop (rec .ready none)):=by
  rw[←hW1];have:=bm (w.alloc (.deferred (some []))) (.loop (rec .ready none));rwa [World.size_alloc] at this
 have D1:W1.heap[w.heap.size]?=some (.deferred (some [])):=by
  rw[←hW1];exact((ae.refl _).alloc _).block (bm w _)
 -- what is said between two rounds,and where a round has left
 obtain⟨J,hJ⟩:∃J:Nat→World→Prop,J=fun i W=>I i W∧W.heap[w.heap.size+1]?=some (.loop (rec .ready none))∧W.heap[w.heap.size]?=some (.deferred (some [])):=⟨_,rfl⟩
 obtain⟨Jx,hJx⟩:∃Jx:Ending→Nat→World→Prop,Jx=fun e i W=>(match e with
  | .panicked ch=>Ix (.panic ch) i W
  | _=>∃x c,xy x=some c∧Ix x i W∧W.heap[w.heap.size+1]?=some (.loop (rec .done (some c))))∧W.heap[w.heap.size]?=some (.deferred (some [])):=⟨_,rfl⟩
 have enter:(Instr.enterLoop b.fn a.tmps ps assign body b.roundOf).run P w=.ok (w.heap.size+1,[{ target:= .collected w.heap.size,args:= #[] }]) W1:=by
  rw[hrb,hro,←hW1,hrec];exact run_enterLoop_outer _ _ _ _ _
 have resol:(resolve a.eval (rangeCall g (w.heap.size+1)) 0).run P W1=.ok { target:= .fn (.func gf) lb,args:= #[.func (.yield (w.heap.size+1)) #[] #[]] } W1:=by
  simp only[resolve,hg];simp[go_sem]
 have invok:(invoke (.fn (.func gf) lb) #[.func (.yield (w.heap.size+1)) #[] #[]]).run P W1=.ok (.enter gf (#[.func (.yield (w.heap.size+1)) #[] #[]]++lb)) W1:=by
  simp[invoke,go_sem,eg]
 have lead:∀f',Target.leads P W1 (.fn (.func gf) lb) #[.func (.yield (w.heap.size+1)) #[] #[]]=some f'→F.fn f':=fun f' hf'=>by
  simp[Target.leads] at hf';subst hf';exact hFg
 have h00:(lone (b.atR a (.code (.rangeFunc g ps assign body)::k)) cs w).fenced P F:=by
  refine fenced_lone (.inl hb) (fun f' hf'=>lead f' ?_) (Fence.room_le hr (by omega))
  have hev:=Frame.eval_atR b a (.code (.rangeFunc g ps assign body)::k)
  simp only[Frame.atR] at hev
  simp only[Frame.about,Frame.atR,enter,hev,resol] at hf'
  exact hf'
 have step0:=stepR_rangeFunc (P:=P) (b:=b) (a:=a) (k:=k) (cs:=cs) (w:=w) enter resol invok
 have room1:F.room ((b.atR { a with defers:= [{ target:= .collected w.heap.size,args:= #[] }]++a.defers } (.inRangeFunc (w.heap.size+1)::k)::cs).length+1+(n-1)):=Fence.room_enter hr (fun _=>h1)
 have call:=hseq (w.heap.size+1) J Jx W1 (hw0.trans m1)
  (fun i A B hs m=>by rw[hJ] at hs⊢;exact⟨(hI i).more hs.1 m,m.block hs.2.1,m.block hs.2.2⟩)
  (fun e i A B hs m=>by
   rw[hJx] at hs⊢
   refine⟨?_,m.block hs.2⟩
   cases e with
   |panicked ch=>exact(hIx _ i).more hs.1 m
   |returned v=>obtain⟨x,c,q1,q2,q3⟩:=hs.1;exact⟨x,c,q1,(hIx _ i).more q2 m,m.block q3⟩
   |outgrown=>obtain⟨x,c,q1,q2,q3⟩:=hs.1;exact⟨x,c,q1,(hIx _ i).more q2 m,m.block q3⟩)
  ?round (by rw[hJ];exact⟨(hI 0).more h0 m1,L1,D1⟩)
 case round =>
  intro i W hi hs
  rw[hJ] at hs
  obtain⟨hin,hl,hd⟩:=hs
  have hy:=run_yield (P:=P) (args:=enc i) hl (by rw[hrec];exact hps i)
  rw[hrec] at hy
  refine⟨b.fn,_,assign,body,hy,xw hb hfb (hassign _ i W _ hi (ac hl) hin ?_)⟩
  clear hy
  intro a' Wa ka sa xa
  have la:=(ka _ (.inr rfl)).trans hl
  have da:=(ka _ (.inl rfl)).trans hd
  have lta:w.heap.size+1<Wa.heap.size:=ac la
  refine⟨_,run_beginRound la (by rw[hrec]),?_⟩
  have nS:¬S (w.heap.size+1):=fun q=>by have:=hS _ q;omega
  obtain⟨Wb,hWb⟩:∃Wb,Wa.putObj (w.heap.size+1) (.loop { rec .ready none with state:= .busy })=Wb:=⟨_,rfl⟩
  have lb2:Wb.heap[w.heap.size+1]?=some (.loop { rec .ready none with state:= .busy }):=by rw[←hWb];exact World.putObj_heap_same lta
  have db:Wb.heap[w.heap.size]?=some (.deferred (some [])):=by rw[←hWb];exact(World.putObj_heap_other (by omega)).trans da
  have sb:cS S W Wb:=sa.trans (by rw[←hWb];exact cS.put _ _ _ nS)
  rw[hWb]
  refine wpIn_mono (hbody _ i a' Wb (ac lb2) hi (by rw[←hWb];exact(hAx i a').put _ xa la)) ?_
  -- the record behind the body,and the round's end
  have fin:∀(jump:Option Code) (W3:World),cS (lU w.heap.size) Wb W3 →
   (Instr.endRound (w.heap.size+1) jump).run P W3=.ok (.bool jump.isNone) (W3.putObj (w.heap.size+1) (.loop (rec (if jump.isNone then .ready else .done) jump))) ∧
   W3.heap[w.heap.size+1]?=some (.loop { rec .ready none with state:= .busy }) ∧
   (W3.putObj (w.heap.size+1) (.loop (rec (if jump.isNone then .ready else .done) jump))).heap[w.heap.size+1]?=some (.loop (rec (if jump.isNone then .ready else .done) jump)) ∧
   (W3.putObj (w.heap.size+1) (.loop (rec (if jump.isNone then .ready else .done) jump))).heap[w.heap.size]?=some (.deferred (some [])):=fun jump W3 k3=>by
   have l3:=(k3 _ (.inr rfl)).trans lb2
   have e3:=run_endRound (P:=P) jump l3
   rw[hrec] at e3⊢
   exact⟨e3,by rw[hrec] at l3;exact l3,World.putObj_heap_same (ac l3),(World.putObj_heap_other (by omega)).trans ((k3 _ (.inl rfl)).trans db)⟩
  have left':∀(x:Exit) (c:Code) (W3:World),xy x=some c→cS (lU w.heap.size) Wb W3→Ix x i W3→∃v w',(Instr.endRound (w.heap.size+1) (some c)).run P W3=.ok v w' ∧
   ((Ending.returned v=.returned (.bool true)∧J (i+1) w'∧cS S W w')∨((Ending.returned v=.returned (.bool false)∨∃c,Ending.returned v=.panicked c)∧Jx (.returned v) i w')):=fun x c W3 hx k3 hix=>by
   obtain⟨r1,r2,r3,r4⟩:=fin (some c) W3 k3
   refine⟨_,_,r1,.inr ⟨.inl rfl,?_⟩⟩
   rw[hJx]
   exact⟨⟨x,c,hx,(hIx x i).put _ hix r2,r3⟩,r4⟩
  rintro e a3 W3 hp
  cases e with
  |normal =>
   obtain⟨k3,s3,i3⟩:=hp
   obtain⟨r1,r2,r3,r4⟩:=fin none W3 k3
   refine⟨_,_,r1,.inl ⟨rfl,?_,(sb.trans s3).trans (cS.put _ _ _ nS)⟩⟩
   rw[hJ]
   exact⟨(hI (i+1)).put _ i3 r2,r3,r4⟩
  |ret=>exact left' .ret _ W3 rfl hp.1 hp.2
  |exit id=>exact left' (.exit id) _ W3 rfl hp.1 hp.2
  |goto t=>exact left' (.goto t) _ W3 rfl hp.1 hp.2
  |panic ch =>
   obtain⟨k3,d3,i3⟩:=hp
   refine⟨d3,.inr ⟨.inr ⟨ch,rfl⟩,?_⟩⟩
   rw[hJx]
   exact⟨i3,(k3 _ (.inl rfl)).trans db⟩
  |outgrown=>exact hp.elim
 obtain⟨_,callee⟩:=call
 obtain⟨e,w₃,fr,hR,hsteps,hfn,hleave⟩:=callee (b.atR { a with defers:= [{ target:= .collected w.heap.size,args:= #[] }]++a.defers } (.inRangeFunc (w.heap.size+1)::k)::cs) room1
 rcases hR with⟨⟨v,rfl⟩,hR⟩|⟨ch,i,rfl,hi,hR⟩
 ·have lv:(lone fr (b.atR { a with defers:= [{ target:= .collected w.heap.size,args:= #[] }]++a.defers } (.inRangeFunc (w.heap.size+1)::k)::cs) w₃).fenced P F:=fenced_leaving (hfn▸hFg) room1 hleave
  have back:∀(jump:Option Code) (w₄:World),(Instr.endLoop (w.heap.size+1)).run P w₃= .ok jump w₄ →
   StepsIn (Machine.fenced P F) P (lone (b.atR a (.code (.rangeFunc g ps assign body)::k)) cs w) (lone (b.atR { a with defers:= { target:= .collected w.heap.size,args:= #[] } ::a.defers } ((jump.map Item.code).toList++k)) cs w₄):=fun jump w₄ hend=>by
   refine .head h00 step0 (StepsIn.trans hsteps (.head lv ?_ (.one (fenced_calm (fr:=b.atR { a with defers:= { target:= .collected w.heap.size,args:= #[] } ::a.defers } (.endRangeFunc (w.heap.size+1)::k)) hb hr rfl) (stepR_endRangeFunc hend))))
   exact(step_leave_returned hleave).trans (by rw[finish_atR_inRangeFunc];rfl)
  rcases hR with hR|⟨i,hi,hR⟩
  ·rw[hJ] at hR
   obtain⟨i3,l3,d3⟩:=hR
   have e3:=run_endLoop (P:=P) l3 (by rw[hrec];simp)
   have e4:(Instr.endLoop (w.heap.size+1)).run P w₃= .ok none (w₃.putObj (w.heap.size+1) (.loop { rec .ready none with state:= .exhausted })):=by rw[hrec] at e3⊢;exact e3
   exact⟨.normal,_,_,hdone _ ((hI N).put _ i3 l3) ((World.putObj_heap_other (o:=.loop { rec .ready none with state:= .exhausted }) (by omega)).trans d3),back none _ e4⟩
  ·rw[hJx] at hR
   obtain⟨⟨x,c,q1,q2,l3⟩,d3⟩:=hR
   have e3:=run_endLoop (P:=P) l3 (by rw[hrec];simp)
   obtain⟨e',a'',w₅,hq,way⟩:=hstop i x c _ q1 hi ((hIx x i).put _ q2 l3) ((World.putObj_heap_other (o:=.loop { rec .done (some c) with state:= .exhausted }) (by omega)).trans d3) b k cs hrb hb hr
   have e4:(Instr.endLoop (w.heap.size+1)).run P w₃= .ok (some c) (w₃.putObj (w.heap.size+1) (.loop { rec .done (some c) with state:= .exhausted })):=by rw[hrec] at e3⊢;exact e3
   exact⟨e',a'',w₅,hq,.of_steps (back (some c) _ e4) way⟩
 ·have lv:(lone fr (b.atR { a with defers:= [{ target:= .collected w.heap.size,args:= #[] }]++a.defers } (.inRangeFunc (w.heap.size+1)::k)::cs) w₃).fenced P F:=fenced_leaving (hfn▸hFg) room1 hleave
  rw[hJx] at hR
  refine⟨.panic ch,_,w₃,hpanic i ch w₃ hi hR.1 hR.2,.inRangeFunc (w.heap.size+1)::k,.head h00 step0 (StepsIn.trans hsteps (.one lv ?_))⟩
  exact(step_leave_panicked hleave).trans (by rw[←Frame.raise_atR];rfl)
attribute [local go_sem] Oper.semAt_some
section
variable {F:Fence}{n:Nat}{P:Program}{ops:Array Oper}{rest:List Oper}{o:Oper}{a:Act}{w:World}{Q:Exit→Act→World→Prop}
theorem dL (hw:Region.wanted o (yielded ops a.tmps)=true)(ty:TypeId)(x:Operand)(ho:o.op=.load ty x)(g:Nat)(hx:a.eval x=.pointer (some ⟨g,0,none⟩))(v:Value)
 (hr:(loadVar ty ⟨g,0,none⟩).run P w=.ok v w) (h:wpListIn F n P ops Q rest (a.put o.dst v) w):wpListIn F n P ops Q (o::rest) a w :=
 BigFrame.wpListIn_want hw fun K hK=>by
  refine⟨by simp[Oper.about,ho],?_⟩
  rw[Oper.semAt_plain F _ _ (by rw[ho];intro c hc;cases hc)]
  simp[execOp,ho,hx,Instr.loadAt,Instr.sureAddr,Sem.run_bind,hr,Result.andThen]
  exact hK _ _ h
theorem iU (hw:Region.wanted o (yielded ops a.tmps)=true)(ty:TypeId)(x:Operand)(ho:o.op=.load ty x)
 (g:Nat) (hx:a.eval x=.pointer (some ⟨g,0,none⟩)) (t:TypeId) (cs:Array Value) (fr:Nat×Nat) (d:TypeDesc) (hg:w.heap[g]?=some (.cells cs t fr))
 (hu:P.underlying ty=some d) (hd:(match d with| .struct _| .array _ _=>true|_=>false)=true) (hi:(P.info? ty).map (·.size)=some cs.size)
 (h:wpListIn F n P ops Q rest (a.put o.dst (.agg cs)) w):wpListIn F n P ops Q (o::rest) a w :=
 dL hw ty x ho g hx _ (run_loadVar_row w g t ty cs fr d hg hu hd hi) h
theorem lV (hw:Region.wanted o (yielded ops a.tmps)=true)(ty:TypeId)(x y:Operand)(ho:o.op=.store ty x y)
 (g:Nat) (hx:a.eval x=.pointer (some ⟨g,0,none⟩)) (cells:Array Value) (hy:a.eval y=.agg cells) (t:TypeId) (old:Array Value) (hg:w.heap[g]?=some (.cells old t (0,0)))
 (hi:(P.info? ty).map (·.size)=some cells.size) (hsz:old.size=cells.size) (hone:cells.all (·.oneCell')=true)
 (h:wpListIn F n P ops Q rest (a.put o.dst (.tuple #[])) (w.setRow g cells)):wpListIn F n P ops Q (o::rest) a w :=
 BigFrame.wpListIn_want hw fun K hK=>by
  refine⟨by simp[Oper.about,ho],?_⟩
  rw[Oper.semAt_plain F _ _ (by rw[ho];intro c hc;cases hc)]
  have hs:=run_storeVar_row (P:=P) w g t ty old cells hg hi hsz hone
  simp[execOp,ho,hx,hy,Instr.storeAt,Instr.sureAddr,Sem.run_bind,hs,Result.andThen]
  exact hK _ _ h
end
theorem pC {F:Fence}{n:Nat}{ops:Array Oper}{rest:List Oper}{o:Oper}{a:Act}{w:World}{Q:Exit→Act→World→Prop}(hw:Region.wanted o (yielded ops a.tmps)=true)(x y:Operand)(ho:o.op=.build 117 #[(0,x),(1,y)])(c:Cfg)(k:Int)
 (hx:a.eval x=.agg c.arr) (hy:a.eval y=.int .i64 k) (h:wpListIn F n Tryz.prog ops Q rest (a.put o.dst (.agg (dq c k))) w):wpListIn F n Tryz.prog ops Q (o::rest) a w :=
 BigFrame.wpListIn_want hw fun K hK=>by
  refine⟨by simp[Oper.about,ho],?_⟩
  rw[Oper.semAt_plain F _ _ (by rw[ho];intro c hc;cases hc)]
  have hb:=uD c k w
  simp only[execOp,ho,List.map_toArray,List.map_cons,List.map_nil,hx,hy,Sem.run_bind,hb,Result.andThen_ok]
  exact hK _ _ h
theorem za {c:Cfg}(R:c.Ok)(p n:Int)(hp:W64 p)(w:World):Calls Tryz.prog 83 #[.agg c.arr,.int .i64 p,.int .i64 n] w (aF w (.bool (aZ c.pg p n))):=by
 have HC:=hQQ (aH w c.arr 33)
 have HM:Hq (ae w (w.alloc (.cells c.arr 33))):=(ae.refl w).alloc _
 have hfl:=oF c
 have p1:=R.pg1
 have p2:=R.pg2
 by_cases c0:0≤p
 ·by_cases c1:1≤n
  ·have q1:IntKind.i64.wrap (c.pg-p)=c.pg-p:=by unfold W64 at hp;exact am (by omega) (by omega)
   rw[show aZ c.pg p n=decide (n≤c.pg-p) by unfold aZ;simp[c0,c1]]
   clear p1 p2 hp
   go_enter Tryz.func83,Tryz.ntmps83
   go_wp2_with (refine cQ rfl rfl rfl HC.o (by kernel_rfl) ?_)
   refine(uC R _).mono ?_
   rintro e w2 ⟨rfl,h2⟩
   have HM2:=hQQ (HM.o.trans h2)
   clear h2
   go_wp2_with fail
   go_ret
   exact⟨rfl,HM2.o⟩
  ·rw[show aZ c.pg p n=false by unfold aZ;simp[c1]]
   have d1:decide (1≤n)=false:=by simp;omega
   go_enter Tryz.func83,Tryz.ntmps83
   go_wp2_with fail
   go_ret
   exact⟨rfl,HM.o⟩
 ·rw[show aZ c.pg p n=false by unfold aZ;simp[c0]]
  have d0:decide (0≤p)=false:=by simp;omega
  go_enter Tryz.func83,Tryz.ntmps83
  go_wp2_with fail
  go_ret
  exact⟨rfl,HM.o⟩
def eU (pg p n:Int):Nat:=if aZ pg p n then spanV p n else 0
def nK (w:World)(b:Nat)(x:Int):Prop:=w.heap[b]?=some (.cells #[.int .i64 x] 3 (0,0))
theorem GD (n:Nat){c:Cfg}(p q:Int)(w:World):
 CallsIn Fence.wide n Tryz.prog 81 #[.agg c.arr,.int .i64 p,.int .i64 q] w fun e w' =>
  e=.returned (.func (.func 120) #[] #[.pointer (some ⟨w.heap.size,0,none⟩),.pointer (some ⟨w.heap.size+1,0,none⟩),.pointer (some ⟨w.heap.size+2,0,none⟩)]) ∧
  w'=((w.alloc (.cells c.arr 33)).alloc (.cells #[.int .i64 p] 3)).alloc (.cells #[.int .i64 q] 3):=by
 refine callsIn_of_wp Tryz.func81 rfl trivial ?_ rfl
 simp only[Tryz.ntmps81,List.size_toArray,List.length_cons,List.length_nil,Nat.reduceAdd,Nat.reduceSub,Array.replicate_succ,Array.replicate_zero,List.push_toArray,List.append_toArray,List.nil_append,List.cons_append]
 gi_wp2
 go_ret
 exact⟨rfl,rfl⟩
theorem AO (c:Cfg)(p q:Int)(w:World):
 (((w.alloc (.cells c.arr 33)).alloc (.cells #[.int .i64 p] 3)).alloc (.cells #[.int .i64 q] 3)).heap[w.heap.size]?=some (.cells c.arr 33 (0,0)) ∧
 nK (((w.alloc (.cells c.arr 33)).alloc (.cells #[.int .i64 p] 3)).alloc (.cells #[.int .i64 q] 3)) (w.heap.size+1) p ∧
 nK (((w.alloc (.cells c.arr 33)).alloc (.cells #[.int .i64 p] 3)).alloc (.cells #[.int .i64 q] 3)) (w.heap.size+2) q:=by
 have h0:=bm w (.cells c.arr 33)
 have s0:(w.alloc (.cells c.arr 33)).heap.size=w.heap.size+1:=by simp
 generalize w.alloc (.cells c.arr 33)=w1 at h0 s0⊢
 have h1:=bm w1 (.cells #[.int .i64 p] 3)
 rw[s0] at h1
 have s1:(w1.alloc (.cells #[.int .i64 p] 3)).heap.size=w.heap.size+2:=by simp[s0]
 have m1:ae w1 (w1.alloc (.cells #[.int .i64 p] 3)):=(ae.refl _).alloc _
 generalize w1.alloc (.cells #[.int .i64 p] 3)=w2 at h1 s1 m1⊢
 have h2:=bm w2 (.cells #[.int .i64 q] 3)
 rw[s1] at h2
 have m2:ae w2 (w2.alloc (.cells #[.int .i64 q] 3)):=(ae.refl _).alloc _
 exact⟨m2.block (m1.block h0),m2.block h1,h2⟩
theorem AP (n:Nat)(hn:1≤n){c:Cfg}(R:c.Ok)(p q:Int)(hp:W64 p)(bl bp bq:Nat)(w0:World)(hl:w0.heap[bl]?=some (.cells c.arr 33 (0,0)))(hbp:nK w0 bp p)(hbq:nK w0 bq q):
 yZ Fence.wide n Tryz.prog 120 #[.pointer (some ⟨bl,0,none⟩),.pointer (some ⟨bp,0,none⟩),.pointer (some ⟨bq,0,none⟩)] (fun i=> #[.agg (dq c (p / 4+(i:Int)))]) (eU c.pg p q) (fun k=>k=bl∨k=bp∨k=bq) w0:=by
 intro l J Jx W hW hJ hJx hY h0
 have HL:=hQQ (hW.block hl)
 have HP:=hQQ (hW.block hbp)
 have HQ:=hQQ (hW.block hbq)
 have HR:=hQQ R
 have cp:=(bd HP.o).1
 have cq:=(bd HQ.o).1
 have TH:=hQQ (fun w=>za (c:=c) R p q hp w)
 have HJ:=hQQ hJ
 have HJx:=hQQ hJx
 have HY:=hQQ hY
 clear hl hbp hbq hW hJ hJx hY
 refine callsIn_of_wp Tryz.func120 rfl trivial ?_ rfl
 simp only[Tryz.ntmps120,List.size_toArray,List.length_cons,List.length_nil,Nat.reduceAdd,Nat.reduceSub,Array.replicate_succ,Array.replicate_zero,List.push_toArray,List.append_toArray,List.nil_append,List.cons_append]
 cases hth:aZ c.pg p q with
 |false =>
  have hN:eU c.pg p q=0:=by unfold eU;rw[hth];rfl
  rw[hN] at HY⊢
  gi_wp2_with (first
   |(refine iU rfl 33 _ rfl _ rfl 33 _ _ _ HL.o Tryz.underlying33 rfl (by kernel_rfl) ?_)
   |((with_reducible refine And.intro ?_ ?_);exact trivial;gi_at_call 83;refine(callsIn_wide.2 (TH.o _)).mono ?_;rw[hth];rintro e w' ⟨rfl,h1⟩;have M1:=hQQ h1;clear h1))
  refine bodyPost_ret (results_none rfl _ _ _) rfl ?_
  exact .inl ⟨⟨_,rfl⟩,.inl (HJ.o _ _ _ h0 M1.o)⟩
 |true =>
  have hN:eU c.pg p q=spanV p q:=by unfold eU;rw[hth];rfl
  rw[hN] at HY⊢
  obtain⟨r0,r1,r2⟩:=bo.1 hth
  have pg2:=R.pg2
  have q1:IntKind.i64.wrap (p+q)=p+q:=am (by omega) (by omega)
  have q2:IntKind.i64.wrap (p+q-1)=p+q-1:=am (by omega) (by omega)
  have o1:ofV p=p / 4:=if_neg (by omega)
  have o2:ofV (p+q-1)=(p+q-1) / 4:=if_neg (by omega)
  obtain⟨sp,_⟩:=xt hth pg2
  have OP:=hQQ (fun w=>JX p (by omega) (by omega) w)
  have OQ:=hQQ (fun w=>JX (p+q-1) (by omega) (by omega) w)
  rw[o1] at OP
  rw[o2] at OQ
  clear o1 o2 r1 R hp
  gi_wp2_with (first
   |(refine iU rfl 33 _ rfl _ rfl 33 _ _ _ HL.o Tryz.underlying33 rfl (by kernel_rfl) ?_)
   |((with_reducible refine And.intro ?_ ?_);exact trivial;gi_at_call 83;refine(callsIn_wide.2 (TH.o _)).mono ?_;rw[hth];rintro e w' ⟨rfl,h1⟩;have M1:=hQQ h1;have cp1:=h1.cell cp;clear h1)
   |((with_reducible refine And.intro ?_ ?_);exact trivial;gi_at_call 121;refine(callsIn_wide.2 (OP.o _)).mono ?_;rintro e w' ⟨rfl,rfl⟩))
  have J0:=hQQ (HJ.o _ _ _ h0 M1.o)
  have HL1:=hQQ (M1.o.block HL.o)
  have HP1:=hQQ (M1.o.block HP.o)
  have HQ1:=hQQ (M1.o.block HQ.o)
  clear cp cq cp1 h0
  gi_loopw [5] (fun u wr=>∃i:Nat,i≤spanV p q∧u=.int .i64 (p / 4+(i:Int))∧J i wr∧wr.heap[bl]?=some (.cells c.arr 33 (0,0))∧nK wr bp p∧nK wr bq q) (fun u _=>((p+q-1) / 4+1-intOf u).toNat)
  case atStart=>exact⟨0,Nat.zero_le _,by simp,J0.o,HL1.o,HP1.o,HQ1.o⟩
  case round =>
   obtain⟨i,hi,rfl,hJi,hli,hpi,hqi⟩:=hrel
   have cpi:=(bd hpi).1
   have cqi:=(bd hqi).1
   have HLi:=hQQ hli
   have HPi:=hQQ hpi
   have HQi:=hQQ hqi
   have HJi:=hQQ hJi
   clear hli hpi hqi hJi
   by_cases hlt:i<spanV p q
   ·obtain⟨fn,tmps,assign,body,hy,hR⟩:=HY.o i wr hlt HJi.o
    have hld:(loadVar 33 ⟨bl,0,none⟩).run Tryz.prog wr=.ok (.agg c.arr) wr:=run_loadVar_row wr bl _ _ _ _ _ HLi.o Tryz.underlying33 rfl (by kernel_rfl)
    have d1:decide (p / 4+(i:Int)≤(p+q-1) / 4)=true:=by simp;omega
    have q3:IntKind.i64.wrap (p / 4+(i:Int)+1)=p / 4+(i:Int)+1:=am (by omega) (by omega)
    gi_wp2_with (first
     |((with_reducible refine dL ?_ 33 (.tmp 1) ?_ bl ?_ (.agg c.arr) ?_ ?_);rfl;rfl;rfl;exact hld)
     |((with_reducible refine pC ?_ (.tmp 23) (.tmp 24) ?_ c (p / 4+(i:Int)) ?_ ?_ ?_);rfl;rfl;rfl;rfl)
     |((with_reducible refine And.intro ?_ ?_);exact trivial;gi_at_call 121;refine(callsIn_wide.2 (OQ.o _)).mono ?_;rintro e w' ⟨rfl,rfl⟩))
    refine hR.mono ?_
    rintro e W3 (⟨rfl,hJ3,hs3⟩|⟨he,hJx3⟩)
    ·have HL3:=hQQ ((hs3 bl (.inl rfl)).trans HLi.o)
     have HP3:=hQQ ((hs3 bp (.inr (.inl rfl))).trans HPi.o)
     have HQ3:=hQQ ((hs3 bq (.inr (.inr rfl))).trans HQi.o)
     clear hs3
     gi_wp2
     go_roundw
     case rel=>exact⟨i+1,by omega,by go_num,hJ3,HL3.o,HP3.o,HQ3.o⟩
     case measure=>simp[intOf];omega
    ·rcases he with rfl|⟨ch,rfl⟩
     ·gi_wp2
      refine bodyPost_ret (results_none rfl _ _ _) rfl ?_
      exact .inl ⟨⟨_,rfl⟩,.inr ⟨i,hlt,hJx3⟩⟩
     ·exact⟨rfl,.inr ⟨ch,i,rfl,hlt,hJx3⟩⟩
   ·obtain rfl:i=spanV p q:=by omega
    have d1:decide (p / 4+((spanV p q:Nat):Int)≤(p+q-1) / 4)=false:=by simp;omega
    gi_wp2_with (first
     |((with_reducible refine And.intro ?_ ?_);exact trivial;gi_at_call 121;refine(callsIn_wide.2 (OQ.o _)).mono ?_;rintro e w' ⟨rfl,rfl⟩))
    go_end0
    exact .inl ⟨⟨_,rfl⟩,.inl HJi.o⟩
theorem xz {α:Type}{w w':World}{F:Nat→Prop}{p:Nat}{kn:Int→Option Int}{val:α→Value}{R:Res α}{e:Ending}(h:bw w F p kn val R e w'):(∃a,R=.need a∧e=.panicked (eT p))∨∃x D,R=.ok x D∧e=.returned (val x):=by
 cases R with
 |need a=>exact .inl ⟨a,rfl,h.1⟩
 |ok x D=>exact .inr ⟨x,D,rfl,h.1⟩
theorem iB {S:Nat→Prop}{w w':World}(h:Turned S w w')(l:Nat)(o:Obj)(hl:l<w.heap.size→S l):Turned S w (w'.putObj l o):=
 ⟨h.os,h.tape,h.output,by simpa using h.size,fun k hk hs=>by
  rw[World.putObj_heap_other (by rintro rfl;exact hs (hl hk))];exact Turned.block h k hk hs⟩
structure OnV (w6 W:World)(F T:Nat→Prop)(p:Nat)(kn:Int→Option Int)(n:Nat)(D:List KV)(F':Nat→Prop):Prop where
 view:bI W F' p kn D
 from':∀k,F' k→F k∨w6.heap.size+2≤k
 turn:Turned (fun k=>F k∨T k) w6 W
 inv:fy n D
namespace OnV
variable {w6 W W':World}{F T F':Nat→Prop}{p n:Nat}{kn:Int→Option Int}{D:List KV}
theorem begin (hv:bI w6 F p kn D)(hD:fy n D):OnV w6 w6 F T p kn n D F:=⟨hv,fun k q=> .inl q,Turned.refl _ _,hD⟩
theorem more (h:OnV w6 W F T p kn n D F')(m:ae W W'):OnV w6 W' F T p kn n D F' :=
 ⟨h.view.more m,h.from',aq (F':=fun _=>False) h.turn m (fun _ q=>q.elim),h.inv⟩
theorem put (h:OnV w6 W F T p kn n D F')(hF:∀k,F k→k<w6.heap.size){r:Loop}(r':Loop)(hl:W.heap[w6.heap.size+1]?=some (.loop r)):OnV w6 (W.putObj (w6.heap.size+1) (.loop r')) F T p kn n D F' :=
 ⟨h.view.keepS (S:=fun k=>k=w6.heap.size+1) (iB (Turned.refl _ W) _ _ (fun _=>rfl))
  (fun k q e=>by subst e;rcases h.from' _ q with r|r;have:=hF _ r;omega;omega)
  (fun k es cl e q=>by subst e;rw[hl] at q;cases q),
  h.from',iB h.turn _ _ (fun q=>by omega),h.inv⟩
theorem box (h:OnV w6 W F T p kn n D F'){b:Nat}(hT:T b)(hF:∀k,F k→k<b)(hb:b<w6.heap.size)(v:Value){o:Obj}(ho:W.heap[b]?=some o)(hm:∀es cl,o≠ .map es cl):OnV w6 (W.setCell ⟨b,0,none⟩ v) F T p kn n D F' :=
 ⟨h.view.keepS (S:=fun k=>k=b) (Turned.setCell (S:=fun k=>k=b) (Turned.refl _ W) ⟨b,0,none⟩ v (fun _=>rfl))
  (fun k q e=>by subst e;rcases h.from' _ q with r|r;have:=hF _ r;omega;omega)
  (fun k es cl e q=>by subst e;rw[ho] at q;cases q;exact hm _ _ rfl),
  h.from',h.turn.setCell ⟨b,0,none⟩ v (fun _=> .inr hT),h.inv⟩
theorem step (h:OnV w6 W F T p kn n D F')(hs:w6.heap.size+2≤W.heap.size){D1:List KV}{v:Value}{e:Ending}(m:ae W W'){W2:World}(hd:kS W' F' p kn D1 v e W2)(hI:fy n D1):
 e=.returned v∧∃F1,OnV w6 W2 F T p kn n D1 F1∧Turned F' W W2:=by
 obtain⟨he,F1,hv,ht,hn⟩:=hd
 refine⟨he,F1,⟨hv,fun k q=>?_,aq (aq (F':=fun _=>False) h.turn m (fun _ q=>q.elim)) ht (fun k q=>(h.from' k q).imp .inl (fun r=>by omega)),hI⟩,aq (Turned.mono m (fun _ _ q=>q.elim)) ht (fun k q=> .inl q)⟩
 rcases hn k q with r|r
 ·exact h.from' k r
 ·have:=m.size;exact .inr (by omega)
theorem same (h:OnV w6 W F T p kn n D F')(hF:∀k,F k→k<w6.heap.size)(hs:w6.heap.size+2≤W.heap.size){W2:World}(t:Turned F' W W2):cS (lU w6.heap.size) W W2 :=
 cS.turned t (fun k q=>by rcases q with q|q<;>omega) (fun k q r=>by
  rcases h.from' k r with s|s
  ·have:=hF k s;rcases q with q|q<;>omega
  ·rcases q with q|q<;>omega)
theorem sameS (h:OnV w6 W F T p kn n D F'){S:Nat→Prop}(hS:∀k,S k→k<w6.heap.size∧¬F k){W2:World}(t:Turned F' W W2):cS S W W2 :=
 cS.turned t (fun k q=>Nat.lt_of_lt_of_le (hS k q).1 h.turn.size) (fun k q r=>by
  rcases h.from' k r with s|s
  ·exact(hS k q).2 s
  ·have:=(hS k q).1;omega)
end OnV
def pD (w6 W:World)(F T:Nat→Prop)(p:Nat)(a:Int):Prop:=eC W p a∧Turned (fun k=>F k∨T k) w6 W
theorem pD.of {w6 W W' W2:World}{F T F':Nat→Prop}{p n:Nat}{kn:Int→Option Int}{D:List KV}(h:OnV w6 W F T p kn n D F')(hs:w6.heap.size≤W.heap.size)(m:ae W W'){a:Int}{e:Ending}(he:ur W' F' p a e W2):e=.panicked (eT p)∧pD w6 W2 F T p a∧Turned F' W W2 :=
 ⟨he.1,⟨he.2.1,aq (aq (F':=fun _=>False) h.turn m (fun _ q=>q.elim)) he.2.2 (fun k q=>(h.from' k q).imp .inl (fun r=>by omega))⟩,aq (Turned.mono m (fun _ _ q=>q.elim)) he.2.2 (fun k q=> .inl q)⟩
theorem pD.more {w6 W W':World}{F T:Nat→Prop}{p:Nat}{a:Int}(h:pD w6 W F T p a)(m:ae W W'):pD w6 W' F T p a :=
 ⟨h.1.keep m (fun q=>q),aq (F':=fun _=>False) h.2 m (fun _ q=>q.elim)⟩
theorem pD.put {w6 W:World}{F T:Nat→Prop}{p:Nat}{a:Int}(h:pD w6 W F T p a){l:Nat}{o:Obj}(hl:W.heap[l]?=some o)(ho:o.isCells=false)(hb:w6.heap.size≤l)(o':Obj):pD w6 (W.putObj l o') F T p a:=by
 refine⟨?_,iB h.2 _ _ (fun q=>by omega)⟩
 obtain⟨M,q,hp⟩:=h.1
 exact⟨M,q,(World.putObj_heap_other (by rintro rfl;rw[hl] at hp;cases hp;cases ho)).trans hp⟩
theorem DJ {α:Type}{w w6 W:World}{F T:Nat→Prop}{p:Nat}{kn:Int→Option Int}{a:Int}{val:α→Value}{R:Res α}(m:ae w w6)(hT:∀k,T k→w.heap.size≤k)(h:pD w6 W F T p a)(hR:R=.need a):bw w F p kn val R (.panicked (eT p)) W :=
 bw.need hR ⟨rfl,h.1,aq (Turned.mono m (fun _ _ q=>q.elim)) h.2 (fun k q=>q.imp id (hT k))⟩
theorem zc {α:Type}{w w6 W W2:World}{F T F' S:Nat→Prop}{p n:Nat}{kn:Int→Option Int}{D:List KV}{val:α→Value}{R:Res α}{x:α}(m:ae w w6)(hT:∀k,T k→w.heap.size≤k)(h:OnV w6 W F T p kn n D F')(hR:R=.ok x D)
 (t:Turned S W W2) (hS:∀k,S k→w.heap.size≤k∧¬F' k) (hM:∀k es cl,S k→W.heap[k]? ≠some (.map es cl)):bw w F p kn val R (.returned (val x)) W2:=by
 refine bw.did hR ⟨rfl,F',h.view.keepS t (fun k q r=>(hS k r).2 q) hM,?_,fun k q=>(h.from' k q).imp id (fun r=>by have:=m.size;omega)⟩
 exact aq (aq (Turned.mono m (fun _ _ q=>q.elim)) h.turn (fun k q=>q.imp id (hT k))) t (fun k q=> .inr (hS k q).1)
section
variable (w6:World)(F:Nat→Prop)(b p:Nat)(tb:TypeId)(kn:Int→Option Int)(n:Nat)
def DK (Sem:List KV→Value→Prop)(W:World):Prop:=∃F' D' v,OnV w6 W F (fun k=>k=b) p kn n D' F'∧W.heap[b]?=some (.cells #[v] tb (0,0))∧Sem D' v
def Iv (NeedR:Int→Prop)(Ret:List KV→Value→Prop):Exit→World→Prop
 | .panic ch,W=>ch=eT p∧∃a,NeedR a∧pD w6 W F (fun k=>k=b) p a
 | .ret,W=>DK w6 F b p tb kn n Ret W
 | _,_=>False
def Iw (Sem:List KV→Value→Prop)(tc:TypeId)(cs:Array Value)(acts:Nat→Act)(a':Act)(W:World):Prop :=
 ∃Bx F' D' v,w6.heap.size+2≤Bx∧¬F' Bx∧W.heap[Bx]?=some (.cells cs tc (0,0))∧OnV w6 W F (fun k=>k=b) p kn n D' F'∧W.heap[b]?=some (.cells #[v] tb (0,0))∧Sem D' v∧a'=acts Bx
end
section
variable {w6:World}{F:Nat→Prop}{b p:Nat}{tb:TypeId}{kn:Int→Option Int}{n:Nat}
theorem oG (hF:∀k,F k→k<w6.heap.size)(hb:b<w6.heap.size)(Sem:List KV→Value→Prop):rk w6.heap.size (DK w6 F b p tb kn n Sem):=
 ⟨fun {A A'} h m=>by obtain⟨F',D',v,h1,h2,h3⟩:=h;exact⟨F',D',v,h1.more m,m.block h2,h3⟩,
  fun {A r} r' h hl=>by obtain⟨F',D',v,h1,h2,h3⟩:=h;exact⟨F',D',v,h1.put hF r' hl,(World.putObj_heap_other (by omega)).trans h2,h3⟩⟩
theorem uF (hF:∀k,F k→k<w6.heap.size)(hb:b<w6.heap.size)(NeedR:Int→Prop)(Ret:List KV→Value→Prop)(e:Exit):rk w6.heap.size (Iv w6 F b p tb kn n NeedR Ret e):=by
 cases e with
 |panic ch =>
  exact⟨fun {A A'} h m=>by obtain⟨h1,a,h2,h3⟩:=h;exact⟨h1,a,h2,h3.more m⟩,
   fun {A r} r' h hl=>by obtain⟨h1,a,h2,h3⟩:=h;exact⟨h1,a,h2,h3.put hl rfl (by omega) _⟩⟩
 |ret=>exact oG hF hb Ret
 |normal=>exact⟨fun {A A'} h m=>h,fun {A r} r' h hl=>h⟩
 |exit _=>exact⟨fun {A A'} h m=>h,fun {A r} r' h hl=>h⟩
 |goto _=>exact⟨fun {A A'} h m=>h,fun {A r} r' h hl=>h⟩
 |outgrown=>exact⟨fun {A A'} h m=>h,fun {A r} r' h hl=>h⟩
theorem uG (hF:∀k,F k→k<w6.heap.size)(hb:b<w6.heap.size)(Sem:List KV→Value→Prop)(tc:TypeId)(cs:Array Value)(acts:Nat→Act)(a':Act):rk w6.heap.size (Iw w6 F b p tb kn n Sem tc cs acts a'):=
 ⟨fun {A A'} h m=>by obtain⟨Bx,F',D',v,h0,h1,h2,h3,h4,h5⟩:=h;exact⟨Bx,F',D',v,h0,h1,m.block h2,h3.more m,m.block h4,h5⟩,
  fun {A r} r' h hl=>by
   obtain⟨Bx,F',D',v,h0,h1,h2,h3,h4,h5⟩:=h
   exact⟨Bx,F',D',v,h0,h1,(World.putObj_heap_other (by omega)).trans h2,h3.put hF r' hl,(World.putObj_heap_other (by omega)).trans h4,h5⟩⟩
end
attribute [local go_sem] Oper.semAt_some
def sU:Array Value:= #[.int .i64 0,.int .i64 0,.int .i64 0,.int .i64 0,.int .i64 0,.int .i64 0,.int .i64 0,.int .i64 0,.int .i64 0,.int .i64 0,.int .i64 0,.int .i64 0,.int .i64 0,.int .i64 0,.int .i64 0,.int .i64 0,.int .i64 0,.int .i64 0,.int .i64 0,.int .i64 0,.int .i64 0,.int .i64 0,.int .i64 0,.int .i64 0,.int .i64 0]
theorem GF (c:Cfg)(k:Int):(dq c k).all (·.oneCell')=true:=by
 unfold dq
 rw[Array.all_push]
 have:c.arr.all (·.oneCell')=true:=lS ..
 rw[this];rfl
theorem AQ (W:World)(c:Cfg)(k:Int):((W.alloc (.cells sU 117)).setRow W.heap.size (dq c k)).heap[W.heap.size]?=some (.cells (dq c k) 117 (0,0))∧ae W ((W.alloc (.cells sU 117)).setRow W.heap.size (dq c k)):=
 ⟨setRow_heap _ _ _ _ _ _ (bm W _),((ae.refl W).alloc _).setRow _ _ (Nat.le_refl _)⟩
theorem rl {S:Nat→Prop}{W W':World}(m:ae W W')(hS:∀k,S k→k<W.heap.size):cS S W W':=cS.turned m hS (fun _ _ q=>q)
theorem DL {c:Cfg}(R:c.Ok){n:Nat}(H:TblIn c.pg c.st n)(F:Nat→Prop)(p:Nat)(kn:Int→Option Int)(D:List KV)(x y:Int)(hx:W64 x)(w:World)(hv:bI w F p kn D)(hk:OkK kn)(hD:fy n D):
 Calls Tryz.prog 41 #[.pointer (some ⟨p,0,none⟩),.agg c.arr,.int .i64 x,.int .i64 y] w (bw w F p kn (fun b=> .bool b) (gJ c.pg c.st x y kn D)):=by
 obtain⟨Rr,hRr⟩:∃Rr,gJ c.pg c.st x y kn D=Rr:=⟨_,rfl⟩
 rw[hRr]
 refine(callsIn_wide (n:=3)).1 ?_
 refine oQ Tryz.func41 rfl trivial ?_ rfl
 simp only[Tryz.ntmps41,List.size_toArray,List.length_cons,List.length_nil,Nat.reduceAdd,Nat.reduceSub,Array.replicate_succ,Array.replicate_zero,List.push_toArray,List.append_toArray,List.nil_append,List.cons_append]
 refine pB ?_
 gi_wp2
 refine uE ?_
 refine pB ?_
 obtain⟨w3,e3,hb0,hb1,hb2,m3,s3⟩:=lT w (.cells #[.pointer (some ⟨p,0,none⟩)] 42) (.cells c.arr 33) (.cells #[.bool false] 4)
 rw[e3]
 clear e3
 have hld3:(loadVar 33 ⟨w.heap.size+1,0,none⟩).run Tryz.prog w3=.ok (.agg c.arr) w3:=run_loadVar_row w3 _ _ _ _ _ _ hb1 Tryz.underlying33 rfl (by kernel_rfl)
 have HB0:=hQQ hb0
 have HB1:=hQQ hb1
 have HB2:=hQQ hb2
 clear hb0 hb1 hb2
 gi_wp2_with (first
  |((with_reducible refine dL ?_ 33 (.tmp 5) ?_ (w.heap.size+1) ?_ (.agg c.arr) ?_ ?_);rfl;rfl;rfl;exact hld3)
  |((with_reducible refine And.intro ?_ ?_);exact trivial;gi_at_call 81;refine(GD _ x y _).mono ?_;rintro e w' ⟨rfl,rfl⟩))
 obtain⟨hl,hp4,hp5⟩:=AO c x y w3
 have m6:ae w3 (((w3.alloc (.cells c.arr 33)).alloc (.cells #[.int .i64 x] 3)).alloc (.cells #[.int .i64 y] 3)):=(((ae.refl _).alloc _).alloc _).alloc _
 have s6:(((w3.alloc (.cells c.arr 33)).alloc (.cells #[.int .i64 x] 3)).alloc (.cells #[.int .i64 y] 3)).heap.size=w.heap.size+6:=by simp[s3]
 rw[s3] at hl hp4 hp5
 generalize ((w3.alloc (.cells c.arr 33)).alloc (.cells #[.int .i64 x] 3)).alloc (.cells #[.int .i64 y] 3)=w6 at hl hp4 hp5 m6 s6⊢
 have hc0:=m6.block HB0.o
 have hc1:=m6.block HB1.o
 have hc2:=m6.block HB2.o
 have m06:=m3.trans m6
 have hv6:=hv.more m06
 have hF:=hv.lt
 have hF6:∀k,F k→k<w6.heap.size:=fun k q=>by have:=hF k q;omega
 have HR:=hQQ R
 have HK:=hQQ hk
 have HH:=hQQ H
 have HT:=hQQ (fun w=>za (c:=c) R x y hx w)
 have OE:=hQQ (AP 2 (by omega) R x y hx (w.heap.size+3) (w.heap.size+3+1) (w.heap.size+3+2) w6 hl hp4 hp5)
 have hR0:(aZ c.pg x y=true→gI c.pg c.st (eU c.pg x y) (x / 4) kn D=Rr)∧(aZ c.pg x y=false→Rr=.ok false D):=by
  unfold gJ at hRr
  unfold eU
  cases hth:aZ c.pg x y with
  |true=>rw[hth] at hRr;exact⟨fun _=>hRr,fun q=>(by cases q)⟩
  |false=>rw[hth] at hRr;exact⟨fun q=>(by cases q),fun _=>hRr.symm⟩
 have HR0:=hQQ hR0
 have ON0:=hQQ (OnV.begin (T:=fun k=>k=w.heap.size+2) hv6 hD)
 clear hRr R hk H hl hp4 hp5 hv hv6 hD hx m3 s3 hld3 HB0 HB1 HB2 m6 hR0
 have HC0:=hQQ hc0
 have HC1:=hQQ hc1
 have HC2:=hQQ hc2
 clear hc0 hc1 hc2
 have hNT:∀k,k=w.heap.size+2→w.heap.size≤k:=fun k q=>by omega
 have hb6:w.heap.size+2<w6.heap.size:=by omega
 refine xx ?_
 refine DI (N:=eU c.pg x y) (gf:=120) (lb:=#[.pointer (some ⟨w.heap.size+3,0,none⟩),.pointer (some ⟨w.heap.size+3+1,0,none⟩),.pointer (some ⟨w.heap.size+3+2,0,none⟩)]) Tryz.func41 rfl (by omega) rfl trivial (enters_of Tryz.func120 (by kernel_rfl) rfl) OE.o (ae.refl _) (by rintro k (rfl|rfl|rfl)<;>omega) (fun _=>rfl)
  (fun i=>DK w6 F (w.heap.size+2) p 4 kn n (fun D' v=>v=.bool false∧(aZ c.pg x y=true→gI c.pg c.st (eU c.pg x y-i) (x / 4+(i:Int)) kn D'=Rr)∧(aZ c.pg x y=false→D'=D)))
  (fun e _=>Iv w6 F (w.heap.size+2) p 4 kn n (fun a=>Rr=.need a) (fun D' v=>v=.bool false∧Rr=.ok false D') e)
  (fun i=>oG hF6 hb6 _) (fun e i=>uF hF6 hb6 _ _ e)
  ⟨F,D,_,ON0.o,HC2.o,rfl,fun h=>by simpa using HR0.o.1 h,fun _=>rfl⟩
  (fun i=>Iw w6 F (w.heap.size+2) p 4 kn n (fun D' v=>v=.bool false∧(aZ c.pg x y=true→gI c.pg c.st (eU c.pg x y-i) (x / 4+(i:Int)) kn D'=Rr)∧(aZ c.pg x y=false→D'=D)) 117 (dq c (x / 4+(i:Int)))
   (fun Bx=> { tmps:= #[.pointer (some ⟨p,0,none⟩),.agg c.arr,.int .i64 x,.int .i64 y,.pointer (some ⟨w.heap.size,0,none⟩),.pointer (some ⟨w.heap.size+1,0,none⟩),undef,undef,.pointer (some ⟨w.heap.size+1+1,0,none⟩),.pointer (some ⟨Bx,0,none⟩),.agg c.arr,.int .i64 x,.int .i64 y,.func (.func 120) #[] #[.pointer (some ⟨w.heap.size+3,0,none⟩),.pointer (some ⟨w.heap.size+3+1,0,none⟩),.pointer (some ⟨w.heap.size+3+2,0,none⟩)],.agg (dq c (x / 4+(i:Int))),undef,undef,undef,undef,undef,undef,undef,undef],defers:= [] }))
  (fun i a'=>uG hF6 hb6 _ _ _ _ a') ?assign ?body ?done ?stop ?dies
 case assign =>
  rintro l i W K hi hsz ⟨F',D',v,h1,h2,h3⟩ hK
  obtain⟨hx1,hm1⟩:=AQ W c (x / 4+(i:Int))
  gi_wp2_with ((with_reducible refine lV ?_ 117 (.tmp 9) (.tmp 14) ?_ W.heap.size ?_ (dq c (x / 4+(i:Int))) ?_ 117 sU ?_ ?_ ?_ ?_ ?_);rfl;rfl;rfl;rfl;exact bm W _;kernel_rfl;rfl;exact GF c _)
  refine hK _ _ (rl hm1 (by rintro k (rfl|rfl)<;>omega)) (rl hm1 (by rintro k (rfl|rfl|rfl)<;>omega)) ?_
  exact⟨W.heap.size,F',D',v,hsz,fun q=>by have:=h1.view.lt _ q;omega,hx1,h1.more hm1,hm1.block h2,h3,rfl⟩
 case body =>
  rintro l i a' W hsz hi ⟨Bx,F',D',v,g0,g1,g2,g3,g4,⟨rfl,g5,g6⟩,rfl⟩
  have hld:=run_loadVar_row (P:=Tryz.prog) W Bx _ 117 _ _ _ g2 Tryz.underlying117 rfl (by kernel_rfl)
  have hcv:=(Turned.block g3.turn w.heap.size (by omega) (by rintro(q|q);have:=hF _ q;omega;omega)).trans HC0.o
  have cv:=(bd hcv).1
  have hth:aZ c.pg x y=true:=by
   cases q:aZ c.pg x y with
   |true=>rfl
   |false=>unfold eU at hi;rw[q] at hi;simp at hi
  have hsem:=g5 hth
  rw[show eU c.pg x y-i=(eU c.pg x y-(i+1))+1 by omega] at hsem
  have hsem2:aJ (dK c.pg c.st (x / 4+(i:Int))) (fun b=>if b then gI c.pg c.st (eU c.pg x y-(i+1)) (x / 4+(i:Int)+1) else aK false) kn D'=Rr:=hsem
  have IM:=xu HR.o F' p kn D' (x / 4+(i:Int)) W g3.view
  have G3:=hQQ g3
  have G4:=hQQ g4
  have HS:=hQQ hsem2
  clear hcv hsem hsem2 g3 g4 g5 g6 g2
  gi_wp2_with ((with_reducible refine dL ?_ 117 (.tmp 9) ?_ Bx ?_ (.agg (dq c (x / 4+(i:Int)))) ?_ ?_);rfl;rfl;rfl;exact hld)
  refine⟨trivial,?_⟩
  gi_at_call 82
  refine(CallsIn.inRound l (callsIn_wide.2 IM)).mono ?_
  intro e W2 he
  cases hm:dK c.pg c.st (x / 4+(i:Int)) kn D' with
  |need a =>
   rw[hm] at he
   obtain⟨rfl,hend,ht⟩:=pD.of G3.o (by omega) (ae.refl W) he
   exact⟨G3.o.same hF6 hsz ht,rfl,rfl,a,HS.o.symm.trans (bK hm),hend⟩
  |ok b D1 =>
   rw[hm] at he
   have hI1:=((oE HH.o _).ok HK.o G3.o.inv hm).1
   obtain⟨rfl,F1,hon,ht⟩:=G3.o.step hsz (ae.refl W) he hI1
   have hbk:=G3.o.same hF6 hsz ht
   have hbs:=G3.o.sameS (S:=fun k=>k=w.heap.size+3∨k=w.heap.size+3+1∨k=w.heap.size+3+2) (by rintro k (rfl|rfl|rfl)<;>exact⟨by omega,fun q=>by have:=hF _ q;omega⟩) ht
   have hbr:W2.heap[w.heap.size+2]?=some (.cells #[.bool false] 4 (0,0)):=(Turned.block ht _ (by omega) (fun q=>by rcases G3.o.from' _ q with r|r;have:=hF _ r;omega;omega)).trans G4.o
   have hsem:=(bE hm).symm.trans HS.o
   cases b with
   |true =>
    gi_wp2
    exact⟨hbk,hbs,F1,D1,_,hon,hbr,rfl,fun _=>by rw[show x / 4+((i+1:Nat):Int)=x / 4+(i:Int)+1 by omega];exact hsem,fun q=>by rw[hth] at q;cases q⟩
   |false =>
    obtain⟨cr,fr,_⟩:=bd hbr
    have hon2:=hon.box (b:=w.heap.size+2) rfl (fun k q=>by have:=hF _ q;omega) (by omega) (.bool false) hbr (fun _ _ q=>by cases q)
    have hbr2:=kT (.bool false) hbr
    have e2:w.heap.size+1+1=w.heap.size+2:=rfl
    rw[←e2] at cr fr hon2 hbr2
    gi_wp2
    refine⟨?_,F1,D1,_,hon2,hbr2,rfl,hsem.symm⟩
    exact hbk.trans (cS.turned (T:=fun k=>k=w.heap.size+1+1) (Turned.setCell (Turned.refl _ W2) _ _ (fun _=>rfl)) (fun k q=>by have:=hon.turn.size;rcases q with q|q<;>(have:=ac hbr;have:=ht.size;omega)) (fun k q r=>by rcases q with q|q<;>omega))
 case done =>
  rintro W ⟨F',D',v,h1,h2,⟨rfl,h4,h5⟩⟩ hdf
  have hR:Rr=.ok (aZ c.pg x y) D':=by
   cases q:aZ c.pg x y with
   |true=>have:=h4 q;rw[Nat.sub_self] at this;exact this.symm
   |false=>rw[h5 q];exact HR0.o.2 q
  have hcl:=(Turned.block h1.turn (w.heap.size+1) (by omega) (by rintro(q|q);have:=hF _ q;omega;omega)).trans HC1.o
  have hld:=run_loadVar_row (P:=Tryz.prog) W (w.heap.size+1) _ 33 _ _ _ hcl Tryz.underlying33 rfl (by kernel_rfl)
  have H1:=hQQ h1
  have H2:=hQQ h2
  have HD:=hQQ hdf
  have HRR:=hQQ hR
  clear h1 h2 h4 h5 hdf hR hcl
  refine yY ?_
  gi_wp2_with ((with_reducible refine dL ?_ 33 (.tmp 5) ?_ (w.heap.size+1) ?_ (.agg c.arr) ?_ ?_);rfl;rfl;rfl;exact hld)
  refine⟨trivial,?_⟩
  gi_at_call 83
  refine(callsIn_wide.2 (HT.o W)).mono ?_
  rintro e W3 ⟨rfl,m3⟩
  have hbr:=m3.block H2.o
  obtain⟨cr,fr,lr⟩:=bd hbr
  have e2:w.heap.size+1+1=w.heap.size+2:=rfl
  rw[←e2] at cr fr
  have hd4:(W3.setCell ⟨w.heap.size+1+1,0,none⟩ (.bool (aZ c.pg x y))).heap[w6.heap.size]?=some (.deferred (some [])):=(Below.heap_setCell _ _ _ _ (by simp only;omega)).trans (m3.block HD.o)
  have hb4:=kT (.bool (aZ c.pg x y)) hbr
  have t4:Turned (fun k=>k=w.heap.size+2∨k=w6.heap.size) W ((W3.setCell ⟨w.heap.size+1+1,0,none⟩ (.bool (aZ c.pg x y))).putObj w6.heap.size (.deferred none)):=
   iB (Turned.setCell (Turned.mono m3 (fun _ _ q=>q.elim)) _ _ (fun _=> .inl rfl)) _ _ (fun _=> .inr rfl)
  have hc5:((W3.setCell ⟨w.heap.size+1+1,0,none⟩ (.bool (aZ c.pg x y))).putObj w6.heap.size (.deferred none)).cell? ⟨w.heap.size+1+1,0,none⟩=some (.bool (aZ c.pg x y)):=
   (bd (b:=w.heap.size+1+1) ((World.putObj_heap_other (by omega)).trans hb4)).1
  have FIN:=hQQ (zc (val:=fun b:Bool=>Value.bool b) m06 hNT H1.o HRR.o t4 (fun k q=>⟨by rcases q with q|q<;>omega,fun r=>by rcases H1.o.from' k r with s|s;have:=hF _ s;omega;rcases q with q|q<;>omega⟩)
   (fun k es cl q r=>by rcases q with rfl|rfl;rw[H2.o] at r;cases r;rw[HD.o] at r;cases r))
  clear t4 hbr hb4
  rw[s6] at hd4 hc5 FIN
  gi_wp2
  refine⟨by simp,.inl ⟨_,_,rfl,run_takeDeferred hd4,?_⟩⟩
  refine⟨.bool (aZ c.pg x y),?_,FIN.o⟩
  simp[results,Tryz.f41,go_sem,hc5]
 case stop =>
  rintro i e cc W hj hi hx hdf
  cases e with
  |ret =>
   cases hj
   obtain⟨F',D',v,h1,h2,rfl,hR⟩:=hx
   have hc5:(W.putObj w6.heap.size (.deferred none)).cell? ⟨w.heap.size+1+1,0,none⟩=some (.bool false):=(bd (b:=w.heap.size+1+1) ((World.putObj_heap_other (by omega)).trans h2)).1
   have FIN:=hQQ (zc (S:=fun k=>k=w6.heap.size) (val:=fun b:Bool=>Value.bool b) m06 hNT h1 hR (iB (Turned.refl _ W) _ (.deferred none) (fun _=>rfl)) (fun k q=>⟨by omega,fun r=>by rcases h1.from' k r with s|s;have:=hF _ s;omega;omega⟩)
    (fun k es cl q r=>by subst q;rw[hdf] at r;cases r))
   clear h1 h2 hR
   gi_wp2
   refine⟨by simp,.inl ⟨_,_,rfl,run_takeDeferred hdf,?_⟩⟩
   refine⟨.bool false,?_,FIN.o⟩
   simp[results,Tryz.f41,go_sem,hc5]
  |exit _=>exact hx.elim
  |goto _=>exact hx.elim
  |normal=>cases hj
  |panic _=>cases hj
  |outgrown=>cases hj
 case dies =>
  rintro i ch W hi ⟨rfl,a,hR,hend⟩ hdf
  exact⟨by simp,.inl ⟨_,_,rfl,run_takeDeferred hdf,DJ m06 hNT (hend.put hdf rfl (Nat.le_refl _) _) hR⟩⟩
attribute [local go_sem] Oper.semAt_some
section
variable {F:Fence}{n:Nat}{P:Program}{o:Oper}{a:Act}{w:World}{K:Act→World→Prop}{Q:Exit→Act→World→Prop}
end
attribute [local go_sem] Oper.semAt_some
end Go.Proofs.YtfddhogffpkhcaaGreatDoor
