/-
  Rows of values of one cell each, in memory of the call's own: what a store, a run of stores, and the library's Insert and Delete make of them.
-/
import Derived.Test.YtddmeghbmdfgeaaGreatDoorFtAa
import Derived.Sort.Row
import Derived.Laws.IdiomCopy
import Derived.Laws.AppendOwn
import Derived.Lib.Hide
import Derived.Test.YtddmeghbmdfgeaaGreatDoorFtAc
import Derived.Test.YtddmeghbmdfgeaaGreatDoorChecked
import Derived.WalkKit
import Derived.Outline
import Derived.Handy
import Derived.Deep.RegionHeld3
import Derived.Maps.OwnSet
import Derived.WalkArith
import Derived.LaidEqlPtr
import Derived.WalkSmall
import Derived.WalkLawsBesides
import Derived.StillTailTactics
import Derived.Deep.AppendLies
import Derived.WalkSpells
import Derived.Deep.DeepMust
import Derived.Recover
import Derived.RangeFuncBox
import Derived.RangeFuncLeaves
import Derived.RangeFuncCalls
import Derived.Shelf.Abstract
import Derived.OwnWalkIn
import Derived.TacticsInMore
import Derived.LoopNIn
import Derived.LoopIn
import Derived.Carry
import Derived.RangeFuncNested
import Derived.Maps.OwnIn
set_option maxRecDepth 100000
set_option maxHeartbeats 8000000
set_option linter.all false
namespace Go.Proofs.YtddmeghbmdfgeaaGreatDoor
open Go.RowKit Go.Sort
theorem fo {w:World}{b:Nat}{c:Array Value}{e:TypeId}{fr:Nat×Nat}(f:Array Value→Array Value)(h:w.heap[b]?=some (.cells c e fr)):(mapBlock w b f).heap[b]?=some (.cells (f c) e fr):=by
 simp[mapBlock,Array.getElem?_modify,h,onCells]
theorem gi {S:Nat→Prop}{w w':World}(ht:Turned S w w'){b:Nat}(hb:b<w.heap.size→S b)(f:Array Value→Array Value):Turned S w (mapBlock w' b f):=
 ⟨ht.os,ht.tape,ht.output,by have:=ht.size;simpa [mapBlock] using this,fun k hk hs=>by
  rw[←Turned.block ht k hk hs]
  have:k≠b:=by rintro rfl;exact hs (hb hk)
  simp[mapBlock,Array.getElem?_modify,Ne.symm this]⟩
def fH (c:Array Value):Nat→List Value→Array Value
 | _,[]=>c
 |o,v::r=>fH (c.setIfInBounds o v) (o+1) r
theorem gD (b:Nat):∀(vs:List Value) (o:Nat) (w:World),w.setCells b o vs=mapBlock w b (fun c=>fH c o vs)
 | [],o,w=>(mapBlock_id w b _ (fun _ _ _ _=>rfl)).symm
 |v::r,o,w=>by
  rw[World.setCells,gD b r,setCell_eq,mapBlock_mapBlock];rfl
theorem eU:∀(vs:List Value) (c:Array Value) (o:Nat),(fH c o vs).size=c.size
 | [],_,_=>rfl
 |v::r,c,o=>by rw[fH,eU r];simp
theorem ju {α:Type}(A B:List α){n:Nat}(h:A.length=n):(A++B).take n=A:=by rw[←h];simp
theorem Gn {α:Type}(A B:List α){n m:Nat}(h:A.length=n):(A++B).drop (n+m)=B.drop m:=by
 rw[List.drop_append,List.drop_eq_nil_of_le (by omega),List.nil_append,h,Nat.add_sub_cancel_left]
theorem fw:∀(vs:List Value) (c:Array Value) (o:Nat),o+vs.length≤c.size→(fH c o vs).toList=c.toList.take o++vs++c.toList.drop (o+vs.length)
 | [],c,o,_=>by simp[fH]
 |v::r,c,o,h=>by
  simp only[List.length_cons] at h
  have hl:o<c.toList.length:=by simp;omega
  rw[fH,fw r _ _ (by simp;omega),Array.toList_setIfInBounds,List.set_eq_take_append_cons_drop,if_pos hl]
  have h1:(c.toList.take o++ [v]).length=o+1:=by simp;omega
  rw[show c.toList.take o++v::c.toList.drop (o+1)=(c.toList.take o++ [v])++c.toList.drop (o+1) by simp]
  rw[ju _ _ h1,Gn _ _ h1,List.drop_drop]
  simp
  congr 1
  omega
def RowAt (w:World)(e:TypeId)(xs:List Value)(a:Option Addr)(cap:Nat):Prop :=
 (a=none∧cap=0∧xs= [])∨∃g cur,a=some ⟨g,0,none⟩∧w.heap[g]?=some (.cells cur e (0,0))∧xs.length≤cap∧cap≤maxLen∧cur.size=cap∧cur.toList.take xs.length=xs
def dc (a:Option Addr)(k:Nat):Prop:=a.map (·.block)=some k
namespace RowAt
variable {w w':World}{e:TypeId}{xs:List Value}{a:Option Addr}{cap:Nat}
theorem nil (w:World)(e:TypeId):RowAt w e [] none 0:= .inl ⟨rfl,rfl,rfl⟩
theorem keep (h:RowAt w e xs a cap){S:Nat→Prop}(ht:Turned S w w')(hs:∀k,dc a k→¬S k):RowAt w' e xs a cap:=by
 rcases h with h|⟨g,cur,rfl,hg,rest⟩
 ·exact .inl h
 ·refine .inr ⟨g,cur,rfl,?_,rest⟩
  rw[Turned.block ht g (ac hg) (hs g rfl)];exact hg
theorem lt (h:RowAt w e xs a cap):∀k,dc a k→k<w.heap.size:=by
 rcases h with⟨rfl,_⟩|⟨g,cur,rfl,hg,_⟩
 ·intro k hk;cases hk
 ·intro k hk;cases hk;exact ac hg
theorem of_own {base n:Nat}{v:Value}(h:w.ownsRow base e 1 v n xs):∃a cap,v=.slice a n cap∧RowAt w e xs a cap∧(∀k,dc a k→base≤k)∧xs.length=n:=by
 have hl:xs.length=n:=by have:=h.1;omega
 rcases h.2 with⟨rfl,rfl⟩|⟨g,cap,cur,rfl,hb,hg,hn,hm,hs,ht⟩
 ·exact⟨none,0,rfl,.inl ⟨rfl,rfl,List.length_eq_zero_iff.1 hl⟩,(fun k hk=>by cases hk),hl⟩
 ·exact⟨_,cap,rfl,.inr ⟨g,cur,rfl,hg,by omega,hm,by omega,by rw[hl];simpa using ht⟩,fun k hk=>by cases hk;exact hb,hl⟩
theorem own (h:RowAt w e xs a cap){base:Nat}(hb:∀k,dc a k→base≤k):w.ownsRow base e 1 (.slice a xs.length cap) xs.length xs:=by
 refine⟨by omega,?_⟩
 rcases h with⟨rfl,rfl,rfl⟩|⟨g,cur,rfl,hg,hn,hm,hs,ht⟩
 ·exact .inl ⟨rfl,rfl⟩
 ·exact .inr ⟨g,cap,cur,rfl,hb g rfl,hg,hn,hm,by omega,by simpa using ht⟩
theorem reads (h:RowAt w e xs a cap)(h0:0<xs.length):∃g,a=some ⟨g,0,none⟩∧g<w.heap.size∧(∀j v,xs[j]?=some v→w.cell? ⟨g,j,none⟩=some v)∧∀j,w.frozen? ⟨g,j,none⟩=false:=by
 rcases h with⟨rfl,_,rfl⟩|⟨g,cur,rfl,hg,hn,hm,hs,ht⟩
 ·simp at h0
 ·refine⟨g,rfl,ac hg,fun j v hj=>?_,fun j=>by simp[World.frozen?,hg]⟩
  have hj':j<xs.length:=(List.getElem?_eq_some_iff.1 hj).1
  have e1:cur.toList[j]?=some v:=by
   have:(cur.toList.take xs.length)[j]?=some v:=by rw[ht];exact hj
   rw[List.getElem?_take,if_pos hj'] at this;exact this
  simp[World.cell?,hg]
  simpa using e1
end RowAt
structure jV (w w':World)(e:TypeId)(ys:List Value)(a a':Option Addr)(cap':Nat):Prop where
 row:RowAt w' e ys a' cap'
 turn:Turned (dc a) w w'
 from':∀k,dc a' k→dc a k∨w.heap.size≤k
theorem yh {w:World}{e:TypeId}{xs:List Value}{g i cap:Nat}{cur:Array Value}(x:Value)(hg:w.heap[g]?=some (.cells cur e (0,0)))(hn:xs.length+1≤cap)(hm:cap≤maxLen)(hs:cur.size=cap)(ht:cur.toList.take xs.length=xs)(hi:i≤xs.length):
 jV w ((w.drew.setCells g (0+(i+1)) (xs.drop i)).setCells g (0+i) [x]) e (xs.take i++x::xs.drop i) (some ⟨g,0,none⟩) (some ⟨g,0,none⟩) cap:=by
 rw[Nat.zero_add,Nat.zero_add,gD,gD,mapBlock_mapBlock]
 refine⟨.inr ⟨g,_,rfl,fo _ hg,by simp;omega,hm,by rw[eU,eU];exact hs,?_⟩,gi (S:=dc (some ⟨g,0,none⟩)) ((Turned.refl _ w).drew) (fun _=>rfl) _,fun k hk=> .inl hk⟩
 have hd:(xs.drop i).length=xs.length-i:=by simp
 rw[fw _ _ _ (by rw[eU];simp;omega),fw _ _ _ (by rw[hd];omega)]
 have h1:(cur.toList.take (i+1)).take i=xs.take i:=by
  rw[List.take_take,show min i (i+1)=min i xs.length by omega,←List.take_take,ht]
 have h2:((cur.toList.take (i+1))++xs.drop i++cur.toList.drop (i+1+(xs.drop i).length)).take i=xs.take i:=by
  rw[List.append_assoc,List.take_append_of_le_length (by simp;omega),h1]
 have h3:((cur.toList.take (i+1))++xs.drop i++cur.toList.drop (i+1+(xs.drop i).length)).drop (i+1)=xs.drop i++cur.toList.drop (i+1+(xs.drop i).length):=by
  rw[List.append_assoc,List.drop_append,List.drop_eq_nil_of_le (by simp;omega)]
  have:(cur.toList.take (i+1)).length=i+1:=by simp;omega
  rw[this,Nat.sub_self];simp
 rw[h2,show i+ [x].length=i+1 from rfl,h3]
 rw[←List.append_assoc,show xs.take i++ [x]++xs.drop i=xs.take i++x::xs.drop i by simp]
 exact ju _ _ rfl
theorem DX {w:World}{e:TypeId}{xs:List Value}{g cap:Nat}{cur:Array Value}(x:Value)(hg:w.heap[g]?=some (.cells cur e (0,0)))(hn:xs.length+1≤cap)(hm:cap≤maxLen)(hs:cur.size=cap)(ht:cur.toList.take xs.length=xs):
 jV w (w.setCells g (0+xs.length) [x]) e (xs.take xs.length++x::xs.drop xs.length) (some ⟨g,0,none⟩) (some ⟨g,0,none⟩) cap:=by
 rw[Nat.zero_add,gD]
 refine⟨.inr ⟨g,_,rfl,fo _ hg,by simp;omega,hm,by rw[eU];exact hs,?_⟩,gi (S:=dc (some ⟨g,0,none⟩)) (Turned.refl _ w) (fun _=>rfl) _,fun k hk=> .inl hk⟩
 rw[fw _ _ _ (by simp;omega),ht,List.take_length,List.drop_length,List.length_append]
 exact ju (xs++ [x]) _ (by simp)
theorem lZ (z:Array Value)(n:Nat):(Builtin.zeroCells z n).size=n * z.size:=by simp[Builtin.zeroCells]
theorem uL {w:World}{e:TypeId}{xs:List Value}{a:Option Addr}{G:Nat}(x z:Value)(hz:z.cells.size=1)(hG:xs.length+1≤G)(hm:G≤maxLen):
 jV w (w.drew.alloc (.cells ((xs++ [x]).toArray++Builtin.zeroCells z.cells (G-(xs.length+1))) e)) e (xs.take xs.length++x::xs.drop xs.length) a (some ⟨w.heap.size,0,none⟩) G:=by
 refine⟨.inr ⟨_,_,rfl,bz w.drew _,by simp;omega,hm,by simp[lZ,hz];omega,?_⟩,((Turned.refl _ w).drew).alloc _,fun k hk=>by cases hk;exact .inr (Nat.le_refl _)⟩
 rw[List.take_length,List.drop_length,List.length_append,Array.toList_append]
 exact ju (xs++ [x]) _ (by simp)
theorem DY {w:World}{e:TypeId}{xs:List Value}{a:Option Addr}{G i:Nat}(x z:Value)(hz:z.cells.size=1)(hG:xs.length+1≤G)(hm:G≤maxLen)(hi:i≤xs.length):
 jV w (((w.alloc (.cells ((xs.take i).toArray++Builtin.zeroCells z.cells (xs.length+1-i)++Builtin.zeroCells z.cells (G-(xs.length+1))) e)).drew.setCells w.heap.size i [x]).drew.setCells w.heap.size (i+1) (xs.drop i)) e (xs.take i++x::xs.drop i) a (some ⟨w.heap.size,0,none⟩) G:=by
 have hd:(xs.drop i).length=xs.length-i:=by simp
 generalize hc:(xs.take i).toArray++Builtin.zeroCells z.cells (xs.length+1-i)++Builtin.zeroCells z.cells (G-(xs.length+1))=cur
 have hs:cur.size=G:=by rw[←hc];simp[lZ,hz];omega
 have ht:cur.toList.take i=xs.take i:=by
  rw[←hc];simp only[Array.toList_append,List.append_assoc]
  have q:(xs.take i).length=i:=by simp;omega
  exact ju _ _ q
 have e1:∀W:World,(W.drew).heap=W.heap:=fun _=>rfl
 rw[gD,gD]
 have hA:((w.alloc (.cells cur e)).drew).heap[w.heap.size]?=some (.cells cur e (0,0)):=bz w _
 have hB:=fo (fun c=>fH c i [x]) hA
 have hC:((mapBlock (w.alloc (.cells cur e)).drew w.heap.size fun c=>fH c i [x]).drew).heap[w.heap.size]?=some (.cells (fH cur i [x]) e (0,0)):=hB
 refine⟨.inr ⟨_,_,rfl,fo _ hC,by simp;omega,hm,by rw[eU,eU];exact hs,?_⟩,?_,fun k hk=>by cases hk;exact .inr (Nat.le_refl _)⟩
 ·rw[fw _ _ _ (by rw[eU,hd];omega),fw _ _ _ (by simp;omega),ht]
  rw[show i+ [x].length=i+1 from rfl]
  have h1:(xs.take i++ [x]++cur.toList.drop (i+1)).take (i+1)=xs.take i++ [x]:=ju _ _ (by simp;omega)
  rw[h1]
  rw[show xs.take i++ [x]++xs.drop i=xs.take i++x::xs.drop i by simp]
  exact ju _ _ rfl
 ·refine gi (Turned.drew (gi (((Turned.refl _ w).alloc _).drew) ?_ _)) ?_ _
  ·intro q;omega
  ·intro q;omega
theorem vd {w:World}{e:TypeId}{xs:List Value}{g cap i:Nat}(x:Value)(h:RowAt w e xs (some ⟨g,0,none⟩) cap)(hi:i<xs.length):RowAt (w.setCell ⟨g,i,none⟩ x) e (xs.set i x) (some ⟨g,0,none⟩) cap:=by
 rcases h with⟨h,_⟩|⟨g',cur,h,hg,hn,hm,hs,ht⟩
 ·cases h
 ·cases h
  rw[setCell_eq]
  refine .inr ⟨g,_,rfl,fo _ hg,by simpa using hn,hm,by simpa using hs,?_⟩
  rw[Array.toList_setIfInBounds,List.length_set,List.take_set,ht]
open Go.Shelf
theorem jV.low {W w w':World}{e:TypeId}{ys:List Value}{a a':Option Addr}{cap':Nat}(h:jV W w' e ys a a' cap')(hW:ae w W)(ha:∀k,dc a k→k<w.heap.size):jV w w' e ys a a' cap' :=
 ⟨h.row,(Turned.mono hW (fun _ _ q=>q.elim)).trans h.turn,fun k hk=>(h.from' k hk).imp id (fun q=>Nat.le_trans hW.size q)⟩
theorem JD {x v:Value}{j:Nat}(h:([x]:List Value)[j]?=some v):j=0∧v=x:=by
 cases j with
 |zero=>exact⟨rfl,by simpa using h.symm⟩
 |succ j=>simp at h
theorem LX (zs:List Int)(k:Int)(a:Option Addr)(cap:Nat)(w:World)(h:RowAt w 3 (zs.map (Value.int .i64)) a cap)(hs:zs.Pairwise (· ≤ ·))(hl:zs.length≤1000000):
 Calls Tryz.prog 121 #[.slice a zs.length cap,.int .i64 k] w fun e w'=>e=.returned (.tuple #[.int .i64 (zs.countP (· <k):Nat),.bool (zs.contains k)])∧∃q,w'=w.drewN q:=by
 by_cases h0:zs.length=0
 ·obtain rfl:zs= []:=List.length_eq_zero_iff.1 h0
  clear h h0 hs hl
  have E:∃q,w.drewN 1=w.drewN q:=⟨_,rfl⟩
  go_enter Tryz.func121,Tryz.ntmps121
  go_wp2_with fail
  go_loop [7,8] (fun i j=>i=.int .i64 0∧j=.int .i64 0) (fun _ _=>0)
  case atStart=>exact⟨rfl,rfl⟩
  case round =>
   obtain⟨rfl,rfl⟩:=hrel
   go_wp2_with fail
   all_goals first|(go_quiet (fail);go_wp2_with fail)|skip
   all_goals go_ret2
   all_goals exact⟨rfl,0,rfl⟩
 ·obtain⟨g,rfl,hg,hc,hf⟩:=h.reads (by simp;omega)
  have:=AnyG.slices_BinarySearch_int Tryz.lSearch g 0 zs.length cap zs k w (Nat.le_refl _) (by omega) (fun j hj=>by rw[Nat.zero_add];exact hc j _ (by rw[List.getElem?_map,List.getElem?_eq_getElem hj];simp[List.getD,hj])) (by rw[List.take_length];exact hs)
  rw[List.take_length] at this
  exact this
section
theorem CJ (xs:List Int):∀v∈xs.map (Value.int .i64),v.oneCell'=true:=by
 intro v hv
 obtain⟨x,_,rfl⟩:=List.mem_map.1 hv
 rfl
theorem CM (xs:List Int)(i:Nat)(hi:i≤xs.length)(hl:xs.length≤1000000)(y:Int)(a:Option Addr)(cap:Nat)(w:World)(h:RowAt w 3 (xs.map (Value.int .i64)) a cap):
 Calls Tryz.prog 151 #[.slice a xs.length cap,.int .i64 i,.slice (some ⟨w.heap.size,0,none⟩) 1 1] (w.alloc (.cells #[Value.int .i64 y] 3))
  fun e w'=>∃a' cap',e=.returned (.slice a' (xs.length+1) cap')∧jV w w' 3 ((xs.map (Value.int .i64)).take i++Value.int .i64 y::(xs.map (Value.int .i64)).drop i) a a' cap':=by
 have hM:ae w (w.alloc (.cells #[Value.int .i64 y] 3)):=(ae.refl w).alloc _
 have hN:(w.alloc (.cells #[Value.int .i64 y] 3)).heap[w.heap.size]?=some (.cells #[Value.int .i64 y] 3 (0,0)):=bz w _
 have hlt:=h.lt
 have h:=h.keep hM (fun _ _ q=>q)
 have hsz:w.heap.size<(w.alloc (.cells #[Value.int .i64 y] 3)).heap.size:=by simp
 generalize w.alloc (.cells #[Value.int .i64 y] 3)=W at h hM hN hsz⊢
 have hlen:(xs.map (Value.int .i64)).length=xs.length:=by simp
 have hvs:∀j v,([Value.int .i64 y]:List Value)[j]?=some v→W.cell? ⟨w.heap.size,0+j,none⟩=some v:=fun j v hj=>by
  obtain⟨rfl,rfl⟩:=JD hj
  simp[World.cell?,hN]
 have h1c:=CJ xs
 have h1v:∀v∈([Value.int .i64 y]:List Value),v.oneCell'=true:=by intro v hv;simp at hv;subst hv;rfl
 have hz:(Value.int .i64 0).cells.size=1:=rfl
 have hfa:W.frozen? ⟨w.heap.size,0,none⟩=false:=by simp[World.frozen?,hN]
 have hfe:W.frozen? ⟨w.heap.size,1,none⟩=false:=by simp[World.frozen?,hN]
 have hsa:W.shape? w.heap.size=some (3,1):=by simp[World.shape?,hN]
 have hG:∀c,xs.length+1≤grownCap W (xs.length+1) c 3:=fun c=>grownCap_ge W _ _ _
 have hGm:∀c,grownCap W (xs.length+1) c 3≤maxLen:=fun c=>grownCap_le_maxLen W _ c _ (by unfold maxLen;omega)
 by_cases hroom:xs.length+1≤cap
 ·rcases h with⟨rfl,rfl,hx⟩|⟨g,cur,rfl,hg,hn,hm,hs,ht⟩
  ·omega
  rw[hlen] at hn
  have hgw:=hlt g rfl
  have hgc:∀j,j<cap→W.cell? ⟨g,0+j,none⟩=cur[j]? :=fun j hj=>by simp[World.cell?,hg]
  have hgf:∀j,W.frozen? ⟨g,j,none⟩=false:=fun j=>by simp[World.frozen?,hg]
  have hcs:∀j v,(xs.map (Value.int .i64))[j]?=some v→W.cell? ⟨g,0+j,none⟩=some v:=fun j v hj=>by
   have hj':j<xs.length:=by have:=(List.getElem?_eq_some_iff.1 hj).1;omega
   rw[hgc j (by omega),←Array.getElem?_toList]
   rw[←ht,List.getElem?_take,if_pos (by omega)] at hj
   exact hj
  by_cases hin:i<xs.length
  ·refine(Any2.slices_Insert_int_shift Tryz.lInsI g 0 xs.length cap i w.heap.size 0 1 1 (xs.map (Value.int .i64)) [Value.int .i64 y] W hin (by omega) hroom (by unfold maxLen at hm;omega) (by omega) hlen rfl hcs
    (fun j hj=>by rw[hgc j (by omega),Array.getElem?_eq_getElem (by omega)];rfl) (fun j _=>hgf _) hvs h1c h1v _ 3 1 cap hsa (by simp[World.shape?,hg,hs]) (by omega) hfa hfe).mono ?_
   rintro e w' ⟨rfl,rfl⟩
   exact⟨_,_,rfl,(yh _ hg (by rw[hlen];exact hroom) hm hs ht (by omega)).low hM hlt⟩
  ·obtain rfl:i=xs.length:=by omega
   refine(Any2.slices_Insert_int_end_room Tryz.lInsI g 0 xs.length cap w.heap.size 0 1 1 [Value.int .i64 y] W (by omega) hroom (by unfold maxLen at hm;omega) rfl
    (fun j hj=>by rw[Nat.zero_add,←Nat.zero_add (xs.length+j),hgc _ (by omega),Array.getElem?_eq_getElem (by omega)];rfl) (fun j _=>hgf _) hvs h1v).mono ?_
   rintro e w' ⟨rfl,rfl⟩
   have:=DX (Value.int .i64 y) hg (by rw[hlen];exact hroom) hm hs ht
   rw[hlen] at this
   exact⟨_,_,rfl,this.low hM hlt⟩
 ·have hcap:xs.length≤cap:=by
   rcases h with⟨rfl,rfl,hx⟩|⟨g,cur,rfl,hg,hn,_⟩
   ·have:=congrArg List.length hx;simp at this;simp[this]
   ·omega
  have hbig:(xs.length+1) * 8≤140737488355328:=by omega
  by_cases hin:i<xs.length
  ·rcases h with⟨rfl,rfl,hx⟩|⟨g,cur,rfl,hg,hn,hm,hs,ht⟩
   ·have:=congrArg List.length hx;simp at this;subst this;simp at hin
   have hcs:∀j v,(xs.map (Value.int .i64))[j]?=some v→W.cell? ⟨g,0+j,none⟩=some v:=fun j v hj=>by
    have hj':j<xs.length:=by have:=(List.getElem?_eq_some_iff.1 hj).1;omega
    rw[←ht,List.getElem?_take,if_pos (by omega)] at hj
    simp[World.cell?,hg]
    simpa using hj
   refine(Any2.slices_Insert_int_grow Tryz.lInsI g 0 xs.length cap i w.heap.size 0 1 1 (xs.map (Value.int .i64)) [Value.int .i64 y] W hin (by omega) hcap (by omega) hbig hlen rfl hcs hvs h1c h1v).mono ?_
   rintro e w' ⟨rfl,rfl⟩
   have:=DY (w:=W) (e:=3) (xs:=xs.map (Value.int .i64)) (a:=some ⟨g,0,none⟩) (i:=i) (Value.int .i64 y) (Value.int .i64 0) hz (by rw[hlen];exact hG cap) (hGm cap) (by omega)
   rw[hlen] at this
   exact⟨_,_,rfl,this.low hM hlt⟩
  ·obtain rfl:i=xs.length:=by omega
   refine(Any2.slices_Insert_int_end_grow Tryz.lInsI a xs.length cap w.heap.size 0 1 1 (xs.map (Value.int .i64)) [Value.int .i64 y] W (by omega) hcap (by omega) hbig hlen rfl
    (fun ha=>by
     rcases h with⟨_,_,hx⟩|⟨g,cur,hh,_⟩
     ·have:=congrArg List.length hx;simpa using this
     ·rw[ha] at hh;cases hh)
    (fun b hb j v hj=>by
     have hj':j<xs.length:=by have:=(List.getElem?_eq_some_iff.1 hj).1;omega
     rcases h with⟨hh,_⟩|⟨g,cur,hh,hg,hn,hm,hs,ht⟩
     ·rw[hb] at hh;cases hh
     ·rw[hb] at hh;cases hh
      rw[←ht,List.getElem?_take,if_pos (by omega)] at hj
      rw[Addr.add_lit]
      simp[World.cell?,hg]
      simpa using hj) hvs h1v).mono ?_
   rintro e w' ⟨rfl,rfl⟩
   have:=uL (w:=W) (e:=3) (xs:=xs.map (Value.int .i64)) (a:=a) (Value.int .i64 y) (Value.int .i64 0) hz (by rw[hlen];exact hG cap) (hGm cap)
   rw[hlen] at this
   exact⟨_,_,rfl,this.low hM hlt⟩
theorem Gp:∃i:TypeInfo,Tryz.prog.info? 3=some i∧i.zero=some (Value.int .i64 0)∧i.size=1∧i.bytes=8:=by
 have h1:(Tryz.prog.info? 3).map (·.size)=some 1:=by kernel_rfl
 have h2:(Tryz.prog.info? 3).bind (·.zero)=some (Value.int .i64 0):=by kernel_rfl
 have h3:(Tryz.prog.info? 3).map (·.bytes)=some 8:=by kernel_rfl
 cases q:Tryz.prog.info? 3 with
 |none=>rw[q] at h1;simp at h1
 |some i=>rw[q] at h1 h2 h3;exact⟨i,rfl,by simpa using h2,by simpa using h1,by simpa using h3⟩
theorem ve (xs:List Int)(hl:xs.length≤1000000)(a:Option Addr)(cap:Nat)(w:World)(h:RowAt w 3 (xs.map (Value.int .i64)) a cap):
 Calls Tryz.prog 41 #[.slice a xs.length cap] w
  fun e w'=>∃a' cap',e=.returned (.slice a' xs.length cap')∧RowAt w' 3 (xs.map (Value.int .i64)) a' cap'∧ae w w'∧∀k,dc a' k→w.heap.size≤k:=by
 have hlen:(xs.map (Value.int .i64)).length=xs.length:=by simp
 rcases h with⟨rfl,rfl,hx⟩|⟨g,cur,rfl,hg,hn,hm,hs,ht⟩
 ·have h0:xs= []:=by simpa using hx
  subst h0
  refine(AnyE.slices_Clone_nil { Tryz.lCloneI with } 0 0 w).mono ?_
  rintro e w' ⟨rfl,rfl⟩
  exact⟨_,_,rfl,RowAt.nil _ _,ae.refl _,fun k hk=>by cases hk⟩
 ·obtain⟨i0,hi0,hz0,hz1,hz2⟩:=Gp
  refine(AnyE.slices_Clone { Tryz.lCloneI with } i0 (Value.int .i64 0) 1 8 hi0 hz0 hz1 hz2 rfl (by omega) Tryz.sizeOf3 g 0 xs.length cap (xs.map (Value.int .i64)) w (by omega) (by unfold maxLen;omega) (by omega)
   (fun j v hj=>by
    have hj':j<xs.length:=by have:=(List.getElem?_eq_some_iff.1 hj).1;omega
    rw[←ht,List.getElem?_take,if_pos (by omega)] at hj
    simp[World.cell?,hg]
    simpa using hj) (CJ xs)).mono ?_
  rintro e w' ⟨v',rfl,hown,_,hB⟩
  obtain⟨a',cap',rfl,hr,hb,_⟩:=RowAt.of_own hown
  exact⟨_,_,rfl,hr,⟨hB.os,hB.tape,hB.output,hB.size,fun k hk _=>hB.block k hk⟩,hb⟩
end
abbrev KV:=Int×Int
def fZ (D:List KV):List Int:=D.map (·.1)
def jv (D:List KV):List Int:=D.map (·.2)
def Asc (D:List KV):Prop:=D.Pairwise (fun a b=>a.1<b.1)
def look (D:List KV)(k:Int):Option Int:=(D.find? (fun p=>p.1==k)).map (·.2)
def pos (D:List KV)(k:Int):Nat:=D.countP (fun p=>decide (p.1<k))
def less (D:List KV)(k:Int):List KV:=D.filter (fun p=>decide (p.1<k))
def more (D:List KV)(k:Int):List KV:=D.filter (fun p=>decide (k<p.1))
def iX (D:List KV)(k:Int)(v:Int):List KV:=less D k++(k,v)::more D k
def N0 (D:List KV)(k:Int):List KV:=D.filter (fun p=>decide (p.1≠k))
theorem CO:Asc []:=List.Pairwise.nil
@[simp] theorem Gq (k:Int):look [] k=none:=rfl
theorem gE (p:KV)(D:List KV)(k:Int):look (p::D) k=if p.1=k then some p.2 else look D k:=by
 unfold look
 rw[List.find?_cons]
 by_cases h:p.1=k
 ·simp[h]
 ·have:(p.1==k)=false:=by simpa using h
  simp[this,h]
theorem l8 (A B:List KV)(k:Int):look (A++B) k=(look A k).or (look B k):=by
 induction A with
 |nil=>simp
 |cons p A ih=>rw[List.cons_append,gE,gE];split<;>simp[ih]
theorem vg {D:List KV}{k:Int}(h:∀p∈D,p.1≠k):look D k=none:=by
 induction D with
 |nil=>rfl
 |cons p D ih=>rw[gE,if_neg (h p (by simp))];exact ih fun q hq=>h q (by simp[hq])
theorem iA {D:List KV}{k:Int} :look D k=none↔∀p∈D,p.1≠k:=by
 refine⟨fun h=>?_,vg⟩
 induction D with
 |nil=>simp
 |cons p D ih =>
  rw[gE] at h
  split at h
  ·cases h
  ·intro q hq
   rcases List.mem_cons.1 hq with rfl|hq
   ·assumption
   ·exact ih h q hq
theorem pj {D:List KV}{k:Int}{v:Int}(h:look D k=some v):(k,v)∈D:=by
 induction D with
 |nil=>cases h
 |cons p D ih =>
  rw[gE] at h
  split at h
  ·rename_i e
   subst e;cases h;simp
  ·exact List.mem_cons_of_mem _ (ih h)
theorem Asc.part {D:List KV}(h:Asc D)(k:Int):∃A B,D=A++B∧A.length=pos D k∧(∀p∈A,p.1<k)∧(∀p∈B,k≤p.1):=by
 induction D with
 |nil=>exact⟨[],[],rfl,rfl,by simp,by simp⟩
 |cons p D ih =>
  have hc:=List.pairwise_cons.1 h
  by_cases hp:p.1<k
  ·obtain⟨A,B,e,hl,ha,hb⟩:=ih hc.2
   refine⟨p::A,B,by rw[e];rfl,?_,?_,hb⟩
   ·simp[pos,List.countP_cons,hp] at hl⊢;exact hl
   ·intro q hq
    rcases List.mem_cons.1 hq with rfl|hq
    ·exact hp
    ·exact ha q hq
  ·refine⟨[],p::D,rfl,?_,by simp,?_⟩
   ·unfold pos
    rw[List.length_nil,eq_comm,List.countP_eq_zero]
    intro q hq
    rcases List.mem_cons.1 hq with rfl|hq
    ·simpa using hp
    ·have:=hc.1 q hq;simp;omega
   ·intro q hq
    rcases List.mem_cons.1 hq with rfl|hq
    ·omega
    ·have:=hc.1 q hq;omega
theorem Asc.without {D:List KV}(h:Asc D){k:Int}(hk:look D k=none):∃A B,D=A++B∧A.length=pos D k∧(∀p∈A,p.1<k)∧(∀p∈B,k<p.1):=by
 obtain⟨A,B,e,hl,ha,hb⟩:=h.part k
 refine⟨A,B,e,hl,ha,fun p hp=>?_⟩
 have h1:=hb p hp
 have h2:=iA.1 hk p (by rw[e];simp[hp])
 omega
theorem Asc.with {D:List KV}(h:Asc D){k:Int}{v:Int}(hk:look D k=some v):∃A B,D=A++(k,v)::B∧A.length=pos D k∧(∀p∈A,p.1<k)∧(∀p∈B,k<p.1):=by
 obtain⟨A,B,e,hl,ha,hb⟩:=h.part k
 have hm:(k,v)∈B:=by
  have:=pj hk
  rw[e,List.mem_append] at this
  rcases this with q|q
  ·have:=ha _ q;simp at this
  ·exact q
 have hB:Asc B:=by unfold Asc at h;rw[e,List.pairwise_append] at h;exact h.2.1
 match B,hB,hm,hb,e with
 |p::B,hB,hm,hb,e =>
  have hc:=List.pairwise_cons.1 hB
  have hp:p=(k,v):=by
   rcases List.mem_cons.1 hm with q|q
   ·exact q.symm
   ·have h1:=hc.1 _ q
    have h2:=hb p (by simp)
    simp at h1
    omega
  subst hp
  exact⟨A,B,e,hl,ha,fun q hq=>hc.1 q hq⟩
theorem k8 {D:List KV}{f:KV→Bool}(h:∀p∈D,f p=true):D.filter f=D:=List.filter_eq_self.2 h
theorem q8 {D:List KV}{f:KV→Bool}(h:∀p∈D,f p=false):D.filter f= []:=List.filter_eq_nil_iff.2 fun p hp=>by rw[h p hp];simp
theorem sC {A B:List KV}{k:Int}(ha:∀p∈A,p.1<k)(hb:∀p∈B,k≤p.1):less (A++B) k=A:=by
 unfold less
 rw[List.filter_append,k8 (fun p hp=>by simpa using ha p hp),q8 (fun p hp=>by have:=hb p hp;simp;omega),List.append_nil]
theorem sD {A B:List KV}{k:Int}(ha:∀p∈A,p.1≤k)(hb:∀p∈B,k<p.1):more (A++B) k=B:=by
 unfold more
 rw[List.filter_append,q8 (D:=A) (fun p hp=>by have:=ha p hp;simp;omega),k8 (D:=B) (fun p hp=>by simpa using hb p hp),List.nil_append]
theorem sE {A B:List KV}{k:Int}(ha:∀p∈A,p.1<k)(hb:∀p∈B,k<p.1)(v:Int):iX (A++B) k v=A++(k,v)::B:=by
 unfold iX
 rw[sC ha (fun p hp=>by have:=hb p hp;omega),sD (fun p hp=>by have:=ha p hp;omega) hb]
theorem sG {A B:List KV}{k:Int}{u:Int}(ha:∀p∈A,p.1<k)(hb:∀p∈B,k<p.1)(v:Int):iX (A++(k,u)::B) k v=A++(k,v)::B:=by
 unfold iX
 rw[sC ha (fun p hp=>by rcases List.mem_cons.1 hp with rfl|q; · exact Int.le_refl _
                        ·have:=hb p q;omega)]
 rw[show A++(k,u)::B=(A++ [(k,u)])++B by simp,sD (fun p hp=>by
  rcases List.mem_append.1 hp with q|q
  ·have:=ha p q;omega
  ·simp at q;rw[q];exact Int.le_refl _) hb]
theorem Oa {A B:List KV}{k:Int}{u:Int}(ha:∀p∈A,p.1<k)(hb:∀p∈B,k<p.1):N0 (A++(k,u)::B) k=A++B:=by
 unfold N0
 rw[List.filter_append,List.filter_cons,if_neg (by simp),k8 (fun p hp=>by have:=ha p hp;simp;omega),k8 (fun p hp=>by have:=hb p hp;simp;omega)]
theorem JE {A B:List KV}(hA:Asc A)(hB:Asc B){k:Int}(ha:∀p∈A,p.1<k)(hb:∀p∈B,k<p.1)(v:Int):Asc (A++(k,v)::B):=by
 unfold Asc at *
 rw[List.pairwise_append,List.pairwise_cons]
 refine⟨hA,⟨fun p hp=>hb p hp,hB⟩,fun p hp q hq=>?_⟩
 rcases List.mem_cons.1 hq with rfl|hq
 ·exact ha p hp
 ·have h1:=ha p hp;have h2:=hb q hq;omega
theorem sH {D:List KV}(h:Asc D)(f:KV→Bool):Asc (D.filter f):=List.Pairwise.filter f h
theorem sI {D:List KV}(h:Asc D)(k:Int)(v:Int):Asc (iX D k v):=
 JE (sH h _) (sH h _) (fun p hp=>by simpa using (List.mem_filter.1 hp).2) (fun p hp=>by simpa using (List.mem_filter.1 hp).2) v
theorem yi {D:List KV}(h:Asc D)(k:Int)(v:Int):(iX D k v).length=if(look D k).isSome then D.length else D.length+1:=by
 cases hk:look D k with
 |none =>
  obtain⟨A,B,rfl,_,ha,hb⟩:=h.without hk
  rw[sE ha hb];simp;omega
 |some u =>
  obtain⟨A,B,rfl,_,ha,hb⟩:=h.with hk
  rw[sG ha hb];simp
theorem sJ {A B:List KV}{k:Int}(ha:∀p∈A,p.1<k)(v:Int)(x:Int):look (A++(k,v)::B) x=if x=k then some v else(look A x).or (look B x):=by
 rw[l8,gE]
 by_cases hx:x=k
 ·subst hx
  rw[vg (fun p hp=>by have:=ha p hp;omega)];simp
 ·rw[if_neg (fun q=>hx q.symm),if_neg hx]
theorem qq {D:List KV}(h:Asc D)(k:Int)(v:Int)(x:Int):look (iX D k v) x=if x=k then some v else look D x:=by
 cases hk:look D k with
 |none =>
  obtain⟨A,B,rfl,_,ha,hb⟩:=h.without hk
  rw[sE ha hb,sJ ha,l8]
 |some u =>
  obtain⟨A,B,rfl,_,ha,hb⟩:=h.with hk
  rw[sG ha hb,sJ ha,sJ ha];split<;>rfl
def cN (D:List KV):List Value:=(fZ D).map (Value.int .i64)
def cO (D:List KV):List Value:=(jv D).map (Value.int .i64)
theorem gp (D:List KV):(fZ D).length=D.length:=by simp[fZ]
theorem jw (D:List KV):(jv D).length=D.length:=by simp[jv]
theorem wK (D:List KV):(cN D).length=D.length:=by simp[cN,fZ]
theorem jj (D:List KV):(cO D).length=D.length:=by simp[cO,jv]
structure fD (w:World)(F:Nat→Prop)(p:Nat)(D:List KV):Prop where
 asc:Asc D
 small:D.length≤100000
 lt:∀k,F k→k<w.heap.size
 ex:∃ka kc va vc,w.heap[p]?=some (.cells #[.slice ka D.length kc,.slice va D.length vc] 142 (0,0))∧RowAt w 3 (cN D) ka kc∧RowAt w 3 (cO D) va vc∧F p ∧
  (∀k,dc ka k→F k∧k≠p)∧(∀k,dc va k→F k∧k≠p∧¬dc ka k)
theorem fD.keep {w w':World}{F S:Nat→Prop}{p:Nat}{D:List KV}(h:fD w F p D)(ht:Turned S w w')(hs:∀k,F k→¬S k):fD w' F p D:=by
 obtain⟨ka,kc,va,vc,hp,hk,hv,fp,fk,fv⟩:=h.ex
 exact⟨h.asc,h.small,fun k hk=>Nat.lt_of_lt_of_le (h.lt k hk) ht.size,ka,kc,va,vc,by rw[Turned.block ht p (ac hp) (hs p fp)];exact hp,
  hk.keep ht (fun k q=>hs k (fk k q).1),hv.keep ht (fun k q=>hs k (fv k q).1),fp,fk,fv⟩
theorem fD.more {w w':World}{F:Nat→Prop}{p:Nat}{D:List KV}(h:fD w F p D)(ht:ae w w'):fD w' F p D:=h.keep ht (fun _ _ q=>q)
theorem gt (w:World)(q:Nat):ae w (w.drewN q):=(ae.refl w).drewN q
theorem yj {D:List KV}(h:Asc D):(fZ D).Pairwise (· ≤ ·):=by
 unfold fZ Asc at *
 rw[List.pairwise_map]
 exact h.imp (fun {a b} q=>by omega)
theorem Aw (D:List KV)(k:Int):(fZ D).countP (· <k)=pos D k:=by
 unfold fZ pos
 rw[List.countP_map];rfl
theorem Gr (D:List KV)(k:Int):(fZ D).contains k=(look D k).isSome:=by
 rw[Bool.eq_iff_iff]
 rw[List.contains_iff_mem]
 unfold fZ
 rw[List.mem_map]
 constructor
 ·rintro⟨p,hp,rfl⟩
  cases e:look D p.1 with
  |some v=>rfl
  |none=>exact absurd rfl (iA.1 e p hp)
 ·intro h
  cases e:look D k with
  |none=>rw[e] at h;cases h
  |some v=>exact⟨_,pj e,rfl⟩
theorem iB {w:World}{p:Nat}{a b:Value}{T:TypeId}(h:w.heap[p]?=some (.cells #[a,b] T (0,0))):w.cell? ⟨p,0,none⟩=some a∧w.cell? ⟨p,1,none⟩=some b∧(∀j,w.frozen? ⟨p,j,none⟩=false)∧p<w.heap.size :=
 ⟨by simp[World.cell?,h],by simp[World.cell?,h],fun j=>by simp[World.frozen?,h],ac h⟩
theorem oC {w:World}{D:List KV}(hD:Asc D)(hs:D.length≤100000)(k:Int){ka:Option Addr}{kc:Nat}(hk:RowAt w 3 (cN D) ka kc):
 Calls Tryz.prog 121 #[.slice ka D.length kc,.int .i64 k] w fun e w'=>e=.returned (.tuple #[.int .i64 (pos D k:Nat),.bool (look D k).isSome])∧∃q,w'=w.drewN q:=by
 have S:=LX (fZ D) k ka kc w hk (yj hD) (by rw[gp];omega)
 rw[gp,Aw,Gr] at S
 exact S
theorem JF (F:Nat→Prop)(p:Nat)(D:List KV)(k:Int)(w:World)(h:fD w F p D):
 Calls Tryz.prog 95 #[.pointer (some ⟨p,0,none⟩),.int .i64 k] w fun e w'=>e=.returned (.tuple #[.int .i64 (pos D k:Nat),.bool (look D k).isSome])∧∃q,w'=w.drewN q:=by
 obtain⟨ka,kc,va,vc,hp,hk,hv,_⟩:=h.ex
 obtain⟨c0,c1,f0,hlt⟩:=iB hp
 have C:=hQQ (oC h.asc h.small k hk)
 clear h hp hk hv
 generalize pos D k=i at C⊢
 generalize (look D k).isSome=b at C⊢
 generalize D.length=n at c0 c1 C
 go_enter Tryz.func95,Tryz.ntmps95
 go_wp2_with (go_at_call 121;refine C.o.mono ?_;rintro e w' ⟨rfl,q,rfl⟩)
 go_ret2
 exact⟨rfl,q,rfl⟩
theorem Gs (F:Nat→Prop)(p:Nat)(D:List KV)(w:World)(h:fD w F p D):
 Calls Tryz.prog 126 #[.pointer (some ⟨p,0,none⟩)] w fun e w'=>e=.returned (.int .i64 D.length)∧w'=w:=by
 obtain⟨ka,kc,va,vc,hp,hk,hv,_⟩:=h.ex
 obtain⟨c0,c1,f0,hlt⟩:=iB hp
 clear h hp hk hv
 generalize D.length=n at c0 c1⊢
 go_enter Tryz.func126,Tryz.ntmps126
 go_wp2_with fail
 go_ret
 exact⟨rfl,rfl⟩
theorem Ay (F:Nat→Prop)(p:Nat)(D:List KV)(k:Int)(w:World)(h:fD w F p D):
 Calls Tryz.prog 60 #[.pointer (some ⟨p,0,none⟩),.int .i64 k] w fun e w'=>e=.returned (.tuple #[.int .i64 ((look D k).getD 0),.bool (look D k).isSome])∧∃q,w'=w.drewN q:=by
 have C:=hQQ (JF F p D k w h)
 have hasc:=h.asc
 obtain⟨ka,kc,va,vc,hp,hk,hv,_⟩:=h.ex
 obtain⟨c0,c1,f0,hlt⟩:=iB hp
 cases e:look D k with
 |none =>
  rw[e] at C
  clear h hp hk hv e hasc
  generalize D.length=n at c0 c1
  go_enter Tryz.func60,Tryz.ntmps60
  go_wp2_with (go_at_call 95;refine C.o.mono ?_;rintro e w' ⟨rfl,q,rfl⟩)
  go_ret2
  exact⟨rfl,q,rfl⟩
 |some v =>
  rw[e] at C
  obtain⟨A,B,hD,hl,_⟩:=hasc.with e
  have hi:pos D k<D.length:=by rw[←hl,hD];simp
  obtain⟨g,rfl,hg,hc,hf⟩:=hv.reads (by rw[jj];omega)
  have cv:w.cell? ⟨g,pos D k,none⟩=some (.int .i64 v):=hc _ _ (by rw[←hl];unfold cO jv;rw[hD];simp)
  clear h hp hk hv e hasc hc hD hl
  generalize pos D k=i at C cv hi
  generalize D.length=n at c0 c1 hi
  go_enter Tryz.func60,Tryz.ntmps60
  go_wp2_with (go_at_call 95;refine C.o.mono ?_;rintro e w' ⟨rfl,q,rfl⟩)
  go_ret2
  exact⟨rfl,q,rfl⟩
theorem Ob (F:Nat→Prop)(p:Nat)(D:List KV)(i:Nat)(q:KV)(w:World)(h:fD w F p D)(hq:D[i]?=some q):
 Calls Tryz.prog 127 #[.pointer (some ⟨p,0,none⟩),.int .i64 i] w fun e w'=>e=.returned (.tuple #[.int .i64 q.1,.int .i64 q.2,.bool true])∧∃n,w'=w.drewN n:=by
 have C:=hQQ (Gs F p D w h)
 have hi:i<D.length:=(List.getElem?_eq_some_iff.1 hq).1
 obtain⟨ka,kc,va,vc,hp,hk,hv,_⟩:=h.ex
 obtain⟨c0,c1,f0,hlt⟩:=iB hp
 obtain⟨g,rfl,hg,hc,hf⟩:=hv.reads (by rw[jj];omega)
 obtain⟨g2,rfl,hg2,hc2,hf2⟩:=hk.reads (by rw[wK];omega)
 have cv:w.cell? ⟨g,i,none⟩=some (.int .i64 q.2):=hc _ _ (by unfold cO jv;simp[hq])
 have ck:w.cell? ⟨g2,i,none⟩=some (.int .i64 q.1):=hc2 _ _ (by unfold cN fZ;simp[hq])
 have hs:=h.small
 clear h hp hk hv hc hc2 hq
 have d1:decide ((i:Int)<0)=false:=by simp
 have d2:decide ((D.length:Int)≤(i:Int))=false:=by simp;omega
 generalize D.length=n at c0 c1 hi C hs d2
 obtain⟨qk,qv⟩:=q
 simp only at cv ck⊢
 go_enter Tryz.func127,Tryz.ntmps127
 go_wp2_with (go_at_call 126;refine C.o.mono ?_;rintro e w' ⟨rfl,rfl⟩)
 go_quiet (fail)
 go_wp2_with fail
 go_ret3
 exact⟨rfl,_,rfl⟩
def rS (w:World)(D:List KV)(e:Ending)(w':World):Prop:=∃F p,e=.returned (.pointer (some ⟨p,0,none⟩))∧fD w' F p D∧ae w w'∧∀k,F k→w.heap.size≤k
def sK (w:World)(F:Nat→Prop)(p:Nat)(D:List KV)(v:Value)(e:Ending)(w':World):Prop :=
 e=.returned v∧∃F',fD w' F' p D∧Turned F w w'∧∀k,F' k→F k∨w.heap.size≤k
theorem bD {w:World}{b o:Nat}{c:Array Value}{e:TypeId}{fr:Nat×Nat}(x:Value)(h:w.heap[b]?=some (.cells c e fr)):(w.setCell ⟨b,o,none⟩ x).heap[b]?=some (.cells (c.setIfInBounds o x) e fr):=by
 rw[setCell_eq];exact fo _ h
theorem bF {S:Nat→Prop}{w w':World}(ht:Turned S w w'){b o:Nat}(hb:b<w.heap.size→S b)(x:Value):Turned S w (w'.setCell ⟨b,o,none⟩ x):=ht.setCell _ _ hb
theorem Gt (w:World):Calls Tryz.prog 76 #[] w (rS w []):=by
 have hh:=bz w (.cells #[.slice none 0 0,.slice none 0 0] 142)
 have fin:rS w [] (.returned (.pointer (some ⟨w.heap.size,0,none⟩))) (w.alloc (.cells #[.slice none 0 0,.slice none 0 0] 142)):=by
  refine⟨fun k=>k=w.heap.size,w.heap.size,rfl,⟨CO,by simp,fun k hk=>by subst hk;simp,none,0,none,0,hh,RowAt.nil _ _,RowAt.nil _ _,rfl,(fun k hk=>by cases hk),(fun k hk=>by cases hk)⟩,(ae.refl w).alloc _,fun k hk=>by omega⟩
 go_enter Tryz.func76,Tryz.ntmps76
 go_wp2_with fail
 go_ret
 exact fin
theorem Gu {w:World}{D:List KV}(hs:D.length≤100000){i:Nat}(hi:i≤D.length)(k:Int){a:Option Addr}{cap:Nat}(h:RowAt w 3 (cN D) a cap):
 Calls Tryz.prog 151 #[.slice a D.length cap,.int .i64 i,.slice (some ⟨w.heap.size,0,none⟩) 1 1] (w.alloc (.cells #[.int .i64 k] 3))
  fun e w'=>∃a' cap',e=.returned (.slice a' (D.length+1) cap')∧jV w w' 3 ((cN D).take i++ .int .i64 k::(cN D).drop i) a a' cap':=by
 have:=CM (fZ D) i (by rw[gp];exact hi) (by rw[gp];omega) k a cap w h
 rw[gp] at this
 exact this
theorem Gv {w:World}{g:Nat}(hg:g=w.heap.size){D:List KV}(hs:D.length≤100000){i:Nat}(hi:i≤D.length)(v:Int){a:Option Addr}{cap:Nat}(h:RowAt w 3 (cO D) a cap):
 Calls Tryz.prog 151 #[.slice a D.length cap,.int .i64 i,.slice (some ⟨g,0,none⟩) 1 1] (w.alloc (.cells #[.int .i64 v] 3))
  fun e w'=>∃a' cap',e=.returned (.slice a' (D.length+1) cap')∧jV w w' 3 ((cO D).take i++ .int .i64 v::(cO D).drop i) a a' cap':=by
 subst hg
 have:=CM (jv D) i (by rw[jw];exact hi) (by rw[jw];omega) v a cap w h
 rw[jw] at this
 exact this
theorem vh (A B:List KV)(k:Int)(v:Int):cN (A++(k,v)::B)=(cN (A++B)).take A.length++ .int .i64 k::(cN (A++B)).drop A.length∧cO (A++(k,v)::B)=(cO (A++B)).take A.length++ .int .i64 v::(cO (A++B)).drop A.length:=by
 constructor<;>simp[cN,cO,fZ,jv,List.take_append,List.drop_append]
theorem DZ {w w2 w4:World}{F:Nat→Prop}{p:Nat}{D D':List KV}{ka va ka' va':Option Addr}{kc vc kc' vc':Nat}{ks vs:List Value}{n':Nat}(h:fD w F p D)
 (hp:w.heap[p]?=some (.cells #[.slice ka D.length kc,.slice va D.length vc] 142 (0,0))) (hv:RowAt w 3 (cO D) va vc) (hk0:RowAt w 3 (cN D) ka kc) (fp:F p) (fk:∀k,dc ka k→F k∧k≠p) (fv:∀k,dc va k→F k∧k≠p∧¬dc ka k)
 (m1:jV w w2 3 ks ka ka' kc') (m2:jV (w2.setCell ⟨p,0,none⟩ (.slice ka' n' kc')) w4 3 vs va va' vc')
 (ha:Asc D') (hs:D'.length≤100000) (e1:ks=cN D') (e2:vs=cO D') (e3:n'=D'.length):
 ∃F',fD (w4.setCell ⟨p,1,none⟩ (.slice va' n' vc')) F' p D'∧Turned F w (w4.setCell ⟨p,1,none⟩ (.slice va' n' vc'))∧∀k,F' k→F k∨w.heap.size≤k:=by
 subst e1 e2 e3
 have hpw:=ac hp
 have hp2:w2.heap[p]?=_:=(Turned.block m1.turn p hpw (fun q=>(fk p q).2 rfl)).trans hp
 have hp3:=bD (o:=0) (.slice ka' D'.length kc') hp2
 have hp4:w4.heap[p]?=_:=(Turned.block m2.turn p (ac hp3) (fun q=>(fv p q).2.1 rfl)).trans hp3
 have hp5:=bD (o:=1) (.slice va' D'.length vc') hp4
 have t1:Turned F w w2:=m1.turn.mono fun k _ q=>(fk k q).1
 have t2:Turned F w (w2.setCell ⟨p,0,none⟩ (.slice ka' D'.length kc')):=bF t1 (fun _=>fp) _
 have t3:Turned F w w4:=t2.trans (m2.turn.mono fun k _ q=>(fv k q).1)
 have t4:Turned F w (w4.setCell ⟨p,1,none⟩ (.slice va' D'.length vc')):=bF t3 (fun _=>fp) _
 have hs23:(w2.setCell ⟨p,0,none⟩ (.slice ka' D'.length kc')).heap.size=w2.heap.size:=by simp
 have hs45:(w4.setCell ⟨p,1,none⟩ (.slice va' D'.length vc')).heap.size=w4.heap.size:=by simp
 have s12:=m1.turn.size
 have s24:w2.heap.size≤w4.heap.size:=by have:=m2.turn.size;omega
 have hva:=hv.lt
 -- where the new rows are
 have fk':∀k,dc ka' k→(dc ka k∨w.heap.size≤k)∧k<w2.heap.size:=fun k q=>⟨m1.from' k q,m1.row.lt k q⟩
 have fv':∀k,dc va' k→(dc va k∨w2.heap.size≤k)∧k<w4.heap.size:=fun k q=>⟨by have:=m2.from' k q;rwa [hs23] at this,m2.row.lt k q⟩
 have kp:∀k,dc ka' k→k≠p:=fun k q e=>by
  subst e
  rcases (fk' k q).1 with q|q
  ·exact(fk k q).2 rfl
  ·omega
 have vp:∀k,dc va' k→k≠p:=fun k q e=>by
  subst e
  rcases (fv' k q).1 with q|q
  ·exact(fv k q).2.1 rfl
  ·omega
 have kv:∀k,dc ka' k→¬dc va k:=fun k q r=>by
  rcases (fk' k q).1 with q|q
  ·exact(fv k r).2.2 q
  ·have:=hva k r;omega
 have vk:∀k,dc va' k→¬dc ka' k:=fun k q r=>by
  rcases (fv' k q).1 with q|q
  ·exact kv k r q
  ·have:=(fk' k r).2;omega
 refine⟨fun k=>(F k∨w.heap.size≤k)∧k<w4.heap.size,⟨ha,hs,fun k hk=>by rw[hs45];exact hk.2,ka',kc',va',vc',?_,?_,?_,⟨.inl fp,by omega⟩,?_,?_⟩,t4,fun k hk=>hk.1⟩
 ·rw[hp5];simp
 ·have r3:RowAt (w2.setCell ⟨p,0,none⟩ (.slice ka' D'.length kc')) 3 (cN D') ka' kc':=m1.row.keep (bF (S:=fun k=>k=p) (Turned.refl _ w2) (fun _=>rfl) _) kp
  have r4:RowAt w4 3 (cN D') ka' kc':=r3.keep m2.turn kv
  exact r4.keep (bF (S:=fun k=>k=p) (Turned.refl _ w4) (fun _=>rfl) _) kp
 ·exact m2.row.keep (bF (S:=fun k=>k=p) (Turned.refl _ w4) (fun _=>rfl) _) vp
 ·intro k q
  refine⟨⟨?_,by have:=(fk' k q).2;omega⟩,kp k q⟩
  rcases (fk' k q).1 with q|q
  ·exact .inl (fk k q).1
  ·exact .inr q
 ·intro k q
  refine⟨⟨?_,(fv' k q).2⟩,vp k q,vk k q⟩
  rcases (fv' k q).1 with q|q
  ·exact .inl (fv k q).1
  ·exact .inr (by omega)
theorem JG (F:Nat→Prop)(p:Nat)(D:List KV)(k:Int)(v:Int)(w:World)(h0:fD w F p D)(hs:D.length<100000)(hk:look D k=none):
 Calls Tryz.prog 135 #[.pointer (some ⟨p,0,none⟩),.int .i64 k,.int .i64 v] w (sK w F p (iX D k v) (.bool true)):=by
 obtain⟨ka,kc,va,vc,hp0,hk0,hv0,fp,fk,fv⟩:=h0.ex
 have C0:=oC h0.asc h0.small k hk0
 rw[hk] at C0
 obtain⟨A,B,hD,hl,ha,hb⟩:=h0.asc.without hk
 have hi:A.length≤D.length:=by rw[hD];simp
 have FIN0:∀q w2 w4 ka' kc' va' vc' ks vs,jV (w.drewN q) w2 3 ks ka ka' kc'→jV (w2.setCell ⟨p,0,none⟩ (.slice ka' (D.length+1) kc')) w4 3 vs va va' vc' →
  ks=(cN D).take A.length++ .int .i64 k::(cN D).drop A.length→vs=(cO D).take A.length++ .int .i64 v::(cO D).drop A.length →
  sK w F p (iX D k v) (.bool true) (.returned (.bool true)) (w4.setCell ⟨p,1,none⟩ (.slice va' (D.length+1) vc')):=by
  intro q w2 w4 ka' kc' va' vc' ks vs m1 m2 e1 e2
  have hq:=gt w q
  have hlen:(iX D k v).length=D.length+1:=by rw[yi h0.asc,hk];rfl
  have hD':iX D k v=A++(k,v)::B:=by rw[hD,sE ha hb]
  obtain⟨F',hm,ht,hf⟩:=DZ (D':=iX D k v) (h0.more hq) hp0 (hv0.keep hq (fun _ _ q=>q)) (hk0.keep hq (fun _ _ q=>q)) fp fk fv m1 m2 (sI h0.asc k v) (by omega)
   (by rw[e1,hD',(vh A B k v).1,hD]) (by rw[e2,hD',(vh A B k v).2,hD]) hlen.symm
  exact⟨rfl,F',hm,(Turned.mono hq (fun _ _ q=>q.elim)).trans ht,hf⟩
 have FIN:=hQQ FIN0
 clear FIN0
 have FK:=hQQ fk
 have FV:=hQQ fv
 have HD:=h0.small
 rw[←hl] at C0
 have C:=hQQ C0
 clear C0
 obtain⟨c0,c1,f0,hlt⟩:=iB hp0
 have HP:=hQQ hp0
 have HK:=hQQ hk0
 have HV:=hQQ hv0
 clear hp0 fk fv hD hl ha hb h0 hs hk hk0 hv0 fp B
 go_enter Tryz.func135,Tryz.ntmps135
 go_wp2_with fail
 refine C.o.mono ?_
 rintro e w1 ⟨rfl,q,rfl⟩
 have hq:=gt w q
 go_wp2_with fail
 refine(Gu HD hi k (HK.o.keep hq (fun _ _ q=>q))).mono ?_
 rintro e w2 ⟨ka',kc',rfl,m1⟩
 have hp2:w2.heap[p]?=_:=(Turned.block m1.turn p (ac HP.o) (fun q=>(FK.o p q).2 rfl)).trans HP.o
 obtain⟨d0,d1,g0,hlt2⟩:=iB hp2
 have hp3:=bD (o:=0) (.slice ka' (D.length+1) kc') hp2
 obtain⟨x0,x1,z0,hlt3⟩:=iB (by simpa using hp3)
 have hv3:RowAt (w2.setCell ⟨p,0,none⟩ (.slice ka' (D.length+1) kc')) 3 (cO D) va vc :=
  ((HV.o.keep hq (fun _ _ q=>q)).keep m1.turn (fun k q=>(FV.o k q).2.2)).keep (bF (S:=fun k=>k=p) (Turned.refl _ w2) (fun _=>rfl) _) (fun k q=>(FV.o k q).2.1)
 have HV3:=hQQ hv3
 have M1:=hQQ m1
 clear hp2 hp3 hv3 m1
 go_wp2_with fail
 refine(Gv (w:=w2.setCell ⟨p,0,none⟩ (.slice ka' (D.length+1) kc')) (by simp) HD hi v HV3.o).mono ?_
 rintro e w4 ⟨va',vc',rfl,m2⟩
 have hp3:=bD (o:=0) (.slice ka' (D.length+1) kc') ((Turned.block M1.o.turn p (ac HP.o) (fun q=>(FK.o p q).2 rfl)).trans HP.o)
 have hp4:w4.heap[p]?=_:=(Turned.block m2.turn p (ac hp3) (fun q=>(FV.o p q).2.1 rfl)).trans hp3
 obtain⟨y0,y1,k0,hlt4⟩:=iB (by simpa using hp4)
 have M2:=hQQ m2
 clear hp3 hp4 m2
 go_wp2_with fail
 go_ret
 exact FIN.o _ _ _ _ _ _ _ _ _ M1.o M2.o rfl rfl
theorem JH (F:Nat→Prop)(p:Nat)(D:List KV)(k:Int)(v u:Int)(w:World)(h0:fD w F p D)(hk:look D k=some u):
 Calls Tryz.prog 135 #[.pointer (some ⟨p,0,none⟩),.int .i64 k,.int .i64 v] w (sK w F p (iX D k v) (.bool false)):=by
 obtain⟨ka,kc,va,vc,hp0,hk0,hv0,fp,fk,fv⟩:=h0.ex
 have C0:=oC h0.asc h0.small k hk0
 rw[hk] at C0
 obtain⟨A,B,hD,hl,ha,hb⟩:=h0.asc.with hk
 have hi:A.length<D.length:=by rw[hD];simp
 obtain⟨g,rfl,hg,hc,hf⟩:=hv0.reads (by rw[jj];omega)
 have cg:w.cell? ⟨g,A.length,none⟩=some (.int .i64 u):=hc _ _ (by unfold cO jv;rw[hD];simp)
 have hfg:=hf A.length
 have FIN0:∀q,sK w F p (iX D k v) (.bool false) (.returned (.bool false)) ((w.drewN q).setCell ⟨g,A.length,none⟩ (.int .i64 v)):=by
  intro q
  have hq:=gt w q
  have hlen:(iX D k v).length=D.length:=by rw[yi h0.asc,hk];rfl
  have hD':iX D k v=A++(k,v)::B:=by rw[hD,sG ha hb]
  have hgp:=(fv g rfl).2.1
  have hh:((w.drewN q).setCell ⟨g,A.length,none⟩ (.int .i64 v)).heap.size=w.heap.size:=by simp
  have tg:Turned (fun k=>k=g) w ((w.drewN q).setCell ⟨g,A.length,none⟩ (.int .i64 v)):=bF (S:=fun k=>k=g) ((Turned.refl _ w).drewN q) (fun _=>rfl) _
  refine⟨rfl,F,⟨sI h0.asc k v,by rw[hlen];exact h0.small,fun k hk=>by rw[hh];exact h0.lt k hk,ka,kc,_,vc,?_,?_,?_,fp,fk,fv⟩,tg.mono fun k _ e=>by subst e;exact(fv k rfl).1,fun k hk=> .inl hk⟩
  ·rw[hlen,Turned.block tg p (ac hp0) (fun e=>hgp e.symm)];exact hp0
  ·have:cN (iX D k v)=cN D:=by rw[hD',hD];simp[cN,fZ]
   rw[this]
   exact hk0.keep tg fun x hx e=>(fv g rfl).2.2 (e▸hx)
  ·have:cO (iX D k v)=(cO D).set A.length (.int .i64 v):=by rw[hD',hD];simp[cO,jv,List.set_append]
   rw[this]
   exact vd _ (hv0.keep hq (fun _ _ q=>q)) (by rw[jj];exact hi)
 have FIN:=hQQ FIN0
 rw[←hl] at C0
 have C:=hQQ C0
 have HD:=h0.small
 obtain⟨c0,c1,f0,hlt⟩:=iB hp0
 clear FIN0 C0 hp0 fk fv hD hl ha hb h0 hk hk0 hv0 fp B hc hf
 generalize A.length=i at *
 generalize D.length=n at *
 go_enter Tryz.func135,Tryz.ntmps135
 go_wp2_with fail
 refine C.o.mono ?_
 rintro e w1 ⟨rfl,q,rfl⟩
 go_wp2_with fail
 go_ret
 exact FIN.o q
theorem LY (F:Nat→Prop)(p:Nat)(D:List KV)(k:Int)(v:Int)(w:World)(h:fD w F p D)(hs:D.length<100000):
 Calls Tryz.prog 135 #[.pointer (some ⟨p,0,none⟩),.int .i64 k,.int .i64 v] w (sK w F p (iX D k v) (.bool (look D k).isNone)):=by
 cases e:look D k with
 |none=>exact JG F p D k v w h hs e
 |some u=>exact JH F p D k v u w h e
structure wL (w W W':World)(e:TypeId)(xs:List Value)(a:Option Addr)(cap:Nat):Prop where
 row:RowAt W' e xs a cap
 step:ae W W'
 all:ae w W'
 new:∀k,dc a k→W.heap.size≤k
theorem Az {w:World}{D:List KV}(hs:D.length≤100000){a:Option Addr}{cap:Nat}(h:RowAt w 3 (cN D) a cap)(W:World)(hW:ae w W):
 Calls Tryz.prog 41 #[.slice a D.length cap] W fun e W'=>∃a' cap',e=.returned (.slice a' D.length cap')∧wL w W W' 3 (cN D) a' cap':=by
 have:=ve (fZ D) (by rw[gp];omega) a cap W (h.keep hW (fun _ _ q=>q))
 rw[gp] at this
 refine this.mono ?_
 rintro e W' ⟨a',cap',rfl,hr,hm,hn⟩
 exact⟨a',cap',rfl,hr,hm,hW.trans hm,hn⟩
theorem AA {w:World}{D:List KV}(hs:D.length≤100000){a:Option Addr}{cap:Nat}(h:RowAt w 3 (cO D) a cap)(W:World)(hW:ae w W):
 Calls Tryz.prog 41 #[.slice a D.length cap] W fun e W'=>∃a' cap',e=.returned (.slice a' D.length cap')∧wL w W W' 3 (cO D) a' cap':=by
 have:=ve (jv D) (by rw[jw];omega) a cap W (h.keep hW (fun _ _ q=>q))
 rw[jw] at this
 refine this.mono ?_
 rintro e W' ⟨a',cap',rfl,hr,hm,hn⟩
 exact⟨a',cap',rfl,hr,hm,hW.trans hm,hn⟩
theorem yk {w Wk Wk' Wv Wv' W:World}{D:List KV}(ha:Asc D)(hs:D.length≤100000){ka va:Option Addr}{kc vc:Nat}(hk:wL w Wk Wk' 3 (cN D) ka kc)(hv:wL w Wv Wv' 3 (cO D) va vc)
 (mk:ae Wk' W) (mv:ae Wv' W) (hw1:w.heap.size≤Wk.heap.size) (hw2:w.heap.size≤Wv.heap.size) (hd:Wk'.heap.size≤Wv.heap.size∨Wv'.heap.size≤Wk.heap.size):
 rS w D (.returned (.pointer (some ⟨W.heap.size,0,none⟩))) (W.alloc (.cells #[.slice ka D.length kc,.slice va D.length vc] 142)):=by
 have m:=(ae.refl W).alloc (.cells #[.slice ka D.length kc,.slice va D.length vc] 142)
 have hk':=hk.row.keep mk (fun _ _ q=>q)
 have hv':=hv.row.keep mv (fun _ _ q=>q)
 have lk:=hk.row.lt
 have lv:=hv.row.lt
 have sk:=mk.size
 have sv:=mv.size
 refine⟨fun k=>w.heap.size≤k∧k<W.heap.size+1,W.heap.size,rfl,⟨ha,hs,fun k q=>by simp;omega,ka,kc,va,vc,bz W _,hk'.keep m (fun _ _ q=>q),hv'.keep m (fun _ _ q=>q),⟨by have:=hk.all.size;omega,by omega⟩,?_,?_⟩,(hk.all.trans mk).trans m,fun k q=>q.1⟩
 ·intro k q
  have:=hk.new k q;have:=lk k q
  exact⟨⟨by omega,by omega⟩,by omega⟩
 ·intro k q
  have:=hv.new k q;have:=lv k q
  refine⟨⟨by omega,by omega⟩,by omega,fun r=>?_⟩
  have:=hk.new k r;have:=lk k r
  omega
theorem JI (F:Nat→Prop)(p:Nat)(D:List KV)(w:World)(h:fD w F p D):
 Calls Tryz.prog 125 #[.pointer (some ⟨p,0,none⟩)] w (rS w D):=by
 obtain⟨ka,kc,va,vc,hp,hk,hv,_⟩:=h.ex
 obtain⟨c0,c1,f0,hlt⟩:=iB hp
 have CK:=hQQ (Az h.small hk)
 have CV:=hQQ (AA h.small hv)
 have HA:=hQQ h.asc
 have HS:=hQQ h.small
 have C0:=hQQ c0
 have C1:=hQQ c1
 clear h hp hk hv
 go_enter Tryz.func125,Tryz.ntmps125
 go_wp2_with fail
 go_region_held3 (fun w'=>w'.cell? ⟨p,0,none⟩=some (.slice ka D.length kc)∧w'.cell? ⟨p,1,none⟩=some (.slice va D.length vc))
  (first|exact⟨M40.o.cell C0.o,M40.o.cell C1.o⟩|exact⟨M41.o.cell C0.o,M41.o.cell C1.o⟩|go_keep)
  (first
   |(go_at_call 41;refine(CK.o _ (by first|exact M41.o|exact M41.o.drew|exact(ae.refl w).drew|exact ae.refl w)).mono ?_;rintro e w40 ⟨a40,c40,rfl,h40⟩;have H40:=hQQ h40;have M40:=hQQ h40.all;clear h40)
   |(go_at_call 41;refine(CV.o _ (by first|exact M40.o|exact M40.o.drew|exact(ae.refl w).drew|exact ae.refl w)).mono ?_;rintro e w41 ⟨a41,c41,rfl,h41⟩;have H41:=hQQ h41;have M41:=hQQ h41.all;clear h41))
 all_goals go_wp2_with fail
 all_goals go_ret
 all_goals first
  |exact yk HA.o HS.o H40.o H41.o H41.o.step (ae.refl _) (by simp) M40.o.size (.inl (Nat.le_refl _))
  |exact yk HA.o HS.o H40.o H41.o (ae.refl _) H40.o.step M41.o.size (by simp) (.inr (Nat.le_refl _))
def W64 (x:Int):Prop:= -9223372036854775808≤x∧x≤9223372036854775807
abbrev Md:=Int×Int×Int
inductive Ran where
 |need (a:Int)
 |done (D:List KV)
def dN (kn:Int→Option Int)(D:List KV)(a:Int):Option Int :=
 if a<0 then some 0 else(look D a).or (kn a)
def eE (D:List KV)(a x:Int):List KV:=if a<0 then D else iX D a x
def ym (kn:Int→Option Int):List Md→Bool→Int→List KV→Ran
 | [],_,_,D=> .done D
 | _::r,true,x,D=>ym kn r false x D
 |(k,a,b)::r,false,x,D =>
  if k=0 then(match dN kn D a with|none=> .need a|some y=>ym kn r false y D)
  else if k=1 then ym kn r false x (eE D a b)
  else if k=2 then ym kn r false x (eE D a x)
  else if k=3 then(match dN kn D x with|none=> .need x|some y=>ym kn r false y D)
  else if k=4 then ym kn r (decide (x=b)) x D
  else ym kn r false x D
def OkK (kn:Int→Option Int):Prop:=∀a v,kn a=some v→W64 v
def OkD (D:List KV):Prop:=∀p∈D,0≤p.1∧W64 p.1∧W64 p.2
theorem JJ:OkD []:=fun p h=>by cases h
theorem yn {D:List KV}{k v:Int}{p:KV}(h:p∈iX D k v):p=(k,v)∨p∈D:=by
 unfold iX less more at h
 rw[List.mem_append,List.mem_cons] at h
 rcases h with h|h|h
 ·exact .inr (List.mem_filter.1 h).1
 ·exact .inl h
 ·exact .inr (List.mem_filter.1 h).1
theorem Ea {D:List KV}(h:OkD D){a x:Int}(ha:W64 a)(hx:W64 x):OkD (eE D a x):=by
 unfold eE
 split
 ·exact h
 ·intro p hp
  rcases yn hp with rfl|hp
  ·exact⟨by simp;omega,ha,hx⟩
  ·exact h p hp
theorem Eb {D:List KV}(h:Asc D)(a x:Int):Asc (eE D a x):=by
 unfold eE
 split
 ·exact h
 ·exact sI h a x
theorem CR {kn:Int→Option Int}(hk:OkK kn){D:List KV}(hD:OkD D){a y:Int}(h:dN kn D a=some y):W64 y:=by
 unfold dN at h
 split at h
 ·cases h;unfold W64;omega
 ·cases e:look D a with
  |none=>rw[e] at h;exact hk a y (by simpa using h)
  |some v =>
   rw[e] at h
   have:v=y:=by simpa using h
   subst this
   exact(hD _ (pj e)).2.2
theorem vi {kn:Int→Option Int}{D:List KV}{a:Int}(h:dN kn D a=none):0≤a∧look D a=none∧kn a=none:=by
 unfold dN at h
 split at h
 ·cases h
 ·cases e:look D a with
  |none=>rw[e] at h;exact⟨by omega,rfl,by simpa using h⟩
  |some v=>rw[e] at h;simp at h
def Me (kn:Int→Option Int)(n:Nat):Ran→Prop
 | .need a=>0≤a∧W64 a∧kn a=none
 | .done D=>OkD D∧Asc D∧D.length≤n
section
variable {kn:Int→Option Int}{l:List Md}{i:Nat}{k a b x y:Int}{D:List KV}{R:Ran}
end
open Go.Maps
theorem Lp {x:Int}(h:W64 x):(Lit.int .i64 x).wf=true:=WalkArith.wf_i64 h
theorem yo {x:Int}(h:(Lit.int .i64 x).wf=true):W64 x:=by
 simp only[Lit.wf,Bool.and_eq_true,decide_eq_true_eq] at h
 exact⟨h.1,h.2⟩
theorem wM:Keyed Tryz.prog 3:=int_keyed Tryz.underlying3
theorem Gw (w:World):(zeroValue 3).run Tryz.prog w=.ok (.int .i64 0) w:=by kernel_rfl
theorem wN {x:Int}(h:W64 x):keyOf Tryz.prog 3 (.int .i64 x)=some (.int .i64 x):=keyOf_int_mk Tryz.underlying3 (Lp h)
def KnownAt (w:World)(M n:Nat)(kn:Int→Option Int):Prop :=
 ∃D:DataW Unit,w.ownsMap Tryz.prog 3 (plainElem Tryz.prog 3) M n D∧∀x,W64 x→Maps.has D (.int .i64 x)=(kn x).isSome∧D.atKey (.int .i64 x) (.lit (.int .i64 0))=.lit (.int .i64 ((kn x).getD 0))
namespace KnownAt
variable {w w':World}{M n:Nat}{kn:Int→Option Int}
theorem lt (h:KnownAt w M n kn):M<w.heap.size:=by obtain⟨D,hD,_⟩:=h;exact hD.lt
theorem keep (h:KnownAt w M n kn){S:Nat→Prop}(t:Turned S w w')(hs:¬S M):KnownAt w' M n kn:=by
 obtain⟨D,⟨es,clock,hb,F⟩,hk⟩:=h
 exact⟨D,⟨es,clock,(Turned.block t M (ac hb) hs).trans hb,F⟩,hk⟩
theorem more (h:KnownAt w M n kn)(t:ae w w'):KnownAt w' M n kn:=h.keep t (fun q=>q)
theorem look (h:KnownAt w M n kn){a:Int}(ha:W64 a):(Instr.lookup 83 (.map (some M)) (.int .i64 a) true).run Tryz.prog w=.ok (.tuple #[.int .i64 ((kn a).getD 0),.bool (kn a).isSome]) w:=by
 obtain⟨D,hD,hk⟩:=h
 obtain⟨v,ps,hr,hv⟩:=hD.look_ok wM Tryz.underlying83 (Gw w) (plainElem_int Tryz.underlying3 (by decide)) (wN ha)
 obtain⟨c,rfl,hc,_⟩:=plainElem_int_inv Tryz.underlying3 hv
 obtain⟨h1,h2⟩:=hk a ha
 rw[h1] at hr
 rw[h2] at hc
 simp only[Prod.mk.injEq,DataW.lit.injEq,Lit.int.injEq,true_and] at hc
 rw[hr,←hc.1]
theorem made (w:World):KnownAt (w.alloc (.map #[] 0)) w.heap.size 0 (fun _=>none):=
 ⟨.map [],World.ownsMap_made _ _ _ _,fun x _=>⟨rfl,rfl⟩⟩
theorem store (h:KnownAt w M n kn){a x:Int}(ha:W64 a)(hx:W64 x)(hn:n<maxLen):
 ∃w',(Instr.mapUpdate 83 (.map (some M)) (.int .i64 a) (.int .i64 x)).run Tryz.prog w=.ok () w'∧KnownAt w' M (n+1) (fun y=>if y=a then some x else kn y)∧Turned (fun k=>k=M) w w':=by
 obtain⟨D,hD,hk⟩:=h
 obtain⟨w',hr,h1,h2⟩:=hD.update wM Tryz.underlying83 hn (wN ha) (plainElem_int Tryz.underlying3 (Lp hx))
 refine⟨w',hr,⟨_,h1,fun y hy=>?_⟩,⟨h2.os,h2.tape,h2.output,h2.size,fun k hk hne=>h2.block k hk (fun e=>hne (Option.some.inj e))⟩⟩
 by_cases e:y=a
 ·subst e
  dsimp only
  rw[if_pos rfl]
  refine⟨has_put_same hD.isMap ?_ _,atKey_put_same hD.isMap ?_ _ _⟩<;>exact wM.key (wN ha)
 ·have hne:(Lit.int .i64 y)≠Lit.int .i64 a:=fun q=>e (by simpa using q)
  dsimp only
  rw[if_neg e,has_put_other hne,atKey_put_other hne]
  exact hk y hy
end KnownAt
def cC (self:Option Addr)(M q:Nat)(need:Int):Array Value:= #[.pointer self,.map (some M),.pointer (some ⟨q,0,none⟩),.int .i64 need]
structure aF (w:World)(F:Nat→Prop)(p:Nat)(kn:Int→Option Int)(D:List KV):Prop where
 ex:∃M q n F0,w.heap[p]?=some (.cells (cC (some ⟨p,0,none⟩) M q (-1)) 110 (0,0))∧KnownAt w M n kn∧fD w F0 q D∧F p∧(∀k,F0 k→F k∧k≠p)∧¬F M
 lt:∀k,F k→k<w.heap.size
def bJ (w:World)(p:Nat)(need:Int):Prop:=∃M q,w.heap[p]?=some (.cells (cC none M q need) 110 (0,0))
theorem aF.keep {w w':World}{F S:Nat→Prop}{p:Nat}{kn:Int→Option Int}{D:List KV}(h:aF w F p kn D)(ht:Turned S w w')(hs:∀k,F k→¬S k)(hM:∀k,S k→F k∨False):aF w' F p kn D:=by
 obtain⟨M,q,n,F0,hp,hk,hm,fp,f0,fM⟩:=h.ex
 refine⟨⟨M,q,n,F0,by rw[Turned.block ht p (ac hp) (hs p fp)];exact hp,hk.keep ht (fun q=>?_),hm.keep ht (fun k q=>hs k (f0 k q).1),fp,f0,fM⟩,fun k hk=>Nat.lt_of_lt_of_le (h.lt k hk) ht.size⟩
 rcases hM M q with r|r
 ·exact fM r
 ·exact r
theorem aF.more {w w':World}{F:Nat→Prop}{p:Nat}{kn:Int→Option Int}{D:List KV}(h:aF w F p kn D)(ht:ae w w'):aF w' F p kn D:=h.keep ht (fun _ _ q=>q) (fun _ q=> .inr q)
theorem bJ.keep {w w':World}{S:Nat→Prop}{p:Nat}{a:Int}(h:bJ w p a)(ht:Turned S w w')(hs:¬S p):bJ w' p a:=by
 obtain⟨M,q,hp⟩:=h
 exact⟨M,q,by rw[Turned.block ht p (ac hp) hs];exact hp⟩
def bB (p:Nat):List PanicEntry:= [{ v:= .iface 113 (.agg #[.pointer (some ⟨p,0,none⟩)]),recovered:=false }]
theorem cX {w:World}{p M q:Nat}{self:Option Addr}{need:Int}(h:w.heap[p]?=some (.cells (cC self M q need) 110 (0,0))):
 w.cell? ⟨p,0,none⟩=some (.pointer self)∧w.cell? ⟨p,1,none⟩=some (.map (some M))∧w.cell? ⟨p,2,none⟩=some (.pointer (some ⟨q,0,none⟩))∧w.cell? ⟨p,3,none⟩=some (.int .i64 need)∧(∀j,w.frozen? ⟨p,j,none⟩=false)∧p<w.heap.size :=
 ⟨by simp[World.cell?,h,cC],by simp[World.cell?,h,cC],by simp[World.cell?,h,cC],by simp[World.cell?,h,cC],fun j=>by simp[World.frozen?,h],ac h⟩
theorem vj:∃j,Tryz.prog.info? 110=some j:=by
 have h:(Tryz.prog.info? 110).isSome=true:=by kernel_rfl
 exact Option.isSome_iff_exists.1 h
theorem Gx (p:Addr)(w:World):Sem.run Tryz.prog (binOp BinOp.eql 43 (.pointer (some p)) (.pointer (some p))) w=.ok (.bool true) w:=by
 obtain⟨j,hj⟩:=vj
 exact run_eql_ptr_same w p Tryz.underlying43 hj
theorem qr {P:Program}(w:World)(d:Nat)(t:TypeId){e:TypeId}(h:P.underlying t=some (.pointer e))(p:Addr):(Op.equalIn (d+1) t (.pointer none) (.pointer (some p))).run P w=.ok false w:=by
 simp[Op.equalIn,run_underlying h]
theorem Gy (p:Addr)(w:World):Sem.run Tryz.prog (binOp BinOp.eql 43 (.pointer none) (.pointer (some p))) w=.ok (.bool false) w:=by
 have h:Sem.run Tryz.prog (Op.equal 43 (.pointer none) (.pointer (some p))) w=.ok false w:=qr w 9999 _ Tryz.underlying43 p
 simp only[binOp]
 simp[h]
theorem Gz (p:Addr)(w:World):Sem.run Tryz.prog (binOp BinOp.neq 43 (.pointer (some p)) (.pointer (some p))) w=.ok (.bool false) w:=by
 obtain⟨j,hj⟩:=vj
 have h:Sem.run Tryz.prog (Op.equal 43 (.pointer (some p)) (.pointer (some p))) w=.ok true w:=by
  have:=run_eql_ptr_same (P:=Tryz.prog) w p Tryz.underlying43 hj
  simp only[binOp] at this
  cases e:Sem.run Tryz.prog (Op.equal 43 (.pointer (some p)) (.pointer (some p))) w<;>rw[Sem.run_bind,e] at this<;>simp[Result.andThen] at this
  obtain⟨rfl,rfl⟩:=this
  rfl
 simp only[binOp]
 simp[h]
theorem jx (p:Nat)(w:World)(h:w.cell? ⟨p,0,none⟩=some (.pointer (some ⟨p,0,none⟩))):Calls Tryz.prog 59 #[.pointer (some ⟨p,0,none⟩)] w fun e w'=>e=.returned (.bool true)∧w'=w:=by
 have hq:=fun w=>Gx ⟨p,0,none⟩ w
 go_enter Tryz.func59,Tryz.ntmps59
 go_wp2_with fail
 go_ret
 exact⟨rfl,rfl⟩
theorem vo (p:Nat)(w:World)(h:w.cell? ⟨p,0,none⟩=some (.pointer none)):Calls Tryz.prog 59 #[.pointer (some ⟨p,0,none⟩)] w fun e w'=>e=.returned (.bool false)∧w'=w:=by
 have hq:=fun w=>Gy ⟨p,0,none⟩ w
 go_enter Tryz.func59,Tryz.ntmps59
 go_wp2_with fail
 go_ret
 exact⟨rfl,rfl⟩
theorem GA (F:Nat→Prop)(p:Nat)(kn:Int→Option Int)(D:List KV)(a:Int)(w:World)(h:aF w F p kn D)(ha:a<0):
 Calls Tryz.prog 27 #[.pointer (some ⟨p,0,none⟩),.int .i64 a] w fun e w'=>e=.returned (.int .i64 0)∧∃n,w'=w.drewN n:=by
 obtain⟨M,q,n,F0,hp,hk,hm,_⟩:=h.ex
 obtain⟨c0,_⟩:=cX hp
 have S:=hQQ (jx p w c0)
 have d:decide (a<0)=true:=by simp;omega
 have E:∃n,w=w.drewN n:=⟨0,rfl⟩
 clear h hp hk hm c0 ha
 go_enter Tryz.func27,Tryz.ntmps27
 go_wp2_with (go_at_call 59;refine S.o.mono ?_;rintro e w' ⟨rfl,rfl⟩)
 go_ret
 exact⟨rfl,0,rfl⟩
theorem AB (F:Nat→Prop)(p:Nat)(kn:Int→Option Int)(D:List KV)(a y:Int)(w:World)(h:aF w F p kn D)(ha:0≤a)(hy:look D a=some y):
 Calls Tryz.prog 27 #[.pointer (some ⟨p,0,none⟩),.int .i64 a] w fun e w'=>e=.returned (.int .i64 y)∧∃n,w'=w.drewN n:=by
 obtain⟨M,q,n,F0,hp,hk,hm,_⟩:=h.ex
 obtain⟨c0,c1,c2,c3,_,hl⟩:=cX hp
 have S:=hQQ (jx p w c0)
 have G:=Ay F0 q D a w hm
 rw[hy] at G
 have G:=hQQ G
 have d:decide (a<0)=false:=by simp;omega
 clear h hp hk hm ha c0 c1 c3
 go_enter Tryz.func27,Tryz.ntmps27
 go_wp2_with (first|(go_at_call 59;refine S.o.mono ?_;rintro e w' ⟨rfl,rfl⟩)|(go_at_call 60;refine G.o.mono ?_;rintro e w' ⟨rfl,n,rfl⟩))
 go_ret
 exact⟨rfl,n,rfl⟩
theorem AC (F:Nat→Prop)(p:Nat)(kn:Int→Option Int)(D:List KV)(a y:Int)(w:World)(h:aF w F p kn D)(ha:0≤a)(hw:W64 a)(hy:look D a=none)(hk':kn a=some y):
 Calls Tryz.prog 27 #[.pointer (some ⟨p,0,none⟩),.int .i64 a] w fun e w'=>e=.returned (.int .i64 y)∧∃n,w'=w.drewN n:=by
 obtain⟨M,q,n,F0,hp,hk,hm,_⟩:=h.ex
 have S:=hQQ (jx p w (cX hp).1)
 have G:=Ay F0 q D a w hm
 rw[hy] at G
 have G:=hQQ G
 have L:∀m,Sem.run Tryz.prog (Instr.lookup 83 (.map (some M)) (.int .i64 a) true) (w.drewN m)=.ok (.tuple #[.int .i64 y,.bool true]) (w.drewN m):=fun m=>by
  have:=(hk.more (gt w m)).look hw
  rw[hk'] at this
  exact this
 have d:decide (a<0)=false:=by simp;omega
 obtain⟨c0,c1,c2,c3,_,hl⟩:=cX hp
 clear h hp hk hm ha c0 c3
 go_enter Tryz.func27,Tryz.ntmps27
 go_wp2_with (first|(go_at_call 59;refine S.o.mono ?_;rintro e w' ⟨rfl,rfl⟩)|(go_at_call 60;refine G.o.mono ?_;rintro e w' ⟨rfl,n,rfl⟩))
 go_ret
 exact⟨rfl,n,rfl⟩
theorem np (F:Nat→Prop)(p:Nat)(kn:Int→Option Int)(D:List KV)(a y:Int)(w:World)(h:aF w F p kn D)(hw:W64 a)(hy:dN kn D a=some y):
 Calls Tryz.prog 27 #[.pointer (some ⟨p,0,none⟩),.int .i64 a] w fun e w'=>e=.returned (.int .i64 y)∧∃n,w'=w.drewN n:=by
 unfold dN at hy
 split at hy
 ·cases hy;exact GA F p kn D a w h (by omega)
 ·cases e:look D a with
  |none=>rw[e] at hy;exact AC F p kn D a y w h (by omega) hw e (by simpa using hy)
  |some v =>
   rw[e] at hy
   have:v=y:=by simpa using hy
   subst this
   exact AB F p kn D a v w h (by omega) e
def vq (w:World)(F:Nat→Prop)(p:Nat)(a:Int)(e:Ending)(w':World):Prop:=e=.panicked (bB p)∧bJ w' p a∧Turned F w w'
theorem GB {w:World}{F:Nat→Prop}{p M q:Nat}{a:Int}{n:Nat}(hp:w.heap[p]?=some (.cells (cC (some ⟨p,0,none⟩) M q (-1)) 110 (0,0)))(fp:F p):
 bJ (((w.drewN n).setCell ⟨p,0,none⟩ (.pointer none)).setCell ⟨p,3,none⟩ (.int .i64 a)) p a∧Turned F w (((w.drewN n).setCell ⟨p,0,none⟩ (.pointer none)).setCell ⟨p,3,none⟩ (.int .i64 a)):=by
 have h1:(w.drewN n).heap[p]?=_:=hp
 have h2:=bD (o:=0) (.pointer none) h1
 have h4:=bD (o:=3) (.int .i64 a) h2
 exact⟨⟨M,q,by rw[h4];simp[cC]⟩,bF (bF ((Turned.refl F w).drewN n) (fun _=>fp) _) (fun _=>fp) _⟩
theorem jp (F:Nat→Prop)(p:Nat)(kn:Int→Option Int)(D:List KV)(a:Int)(w:World)(h:aF w F p kn D)(hw:W64 a)(hy:dN kn D a=none):
 Calls Tryz.prog 27 #[.pointer (some ⟨p,0,none⟩),.int .i64 a] w (vq w F p a):=by
 obtain⟨ha,hy,hk'⟩:=vi hy
 obtain⟨M,q,n,F0,hp,hk,hm,fp,_⟩:=h.ex
 have S:=hQQ (jx p w (cX hp).1)
 have G:=Ay F0 q D a w hm
 rw[hy] at G
 have G:=hQQ G
 have L:∀m,Sem.run Tryz.prog (Instr.lookup 83 (.map (some M)) (.int .i64 a) true) (w.drewN m)=.ok (.tuple #[.int .i64 0,.bool false]) (w.drewN m):=fun m=>by
  have:=(hk.more (gt w m)).look hw
  rw[hk'] at this
  exact this
 have d:decide (a<0)=false:=by simp;omega
 obtain⟨c0,c1,c2,c3,hf,hl⟩:=cX hp
 have FIN:Hq (∀n,bJ (((w.drewN n).setCell ⟨p,0,none⟩ (.pointer none)).setCell ⟨p,3,none⟩ (.int .i64 a)) p a∧Turned F w (((w.drewN n).setCell ⟨p,0,none⟩ (.pointer none)).setCell ⟨p,3,none⟩ (.int .i64 a))):=hQQ fun n=>GB hp fp
 clear h hp hk hm ha
 go_enter Tryz.func27,Tryz.ntmps27
 go_wp2_with (first|(go_at_call 59;refine S.o.mono ?_;rintro e w' ⟨rfl,rfl⟩)|(go_at_call 60;refine G.o.mono ?_;rintro e w' ⟨rfl,n,rfl⟩))
 exact⟨rfl,rfl,FIN.o n⟩
def gN (w:World)(F:Nat→Prop)(p:Nat)(kn:Int→Option Int)(D:List KV)(v:Value)(e:Ending)(w':World):Prop :=
 e=.returned v∧∃F',aF w' F' p kn D∧Turned F w w'∧∀k,F' k→F k∨w.heap.size≤k
theorem gN.same {w w':World}{F:Nat→Prop}{p:Nat}{kn:Int→Option Int}{D:List KV}{v:Value}(h:aF w F p kn D)(t:ae w w'):gN w F p kn D v (.returned v) w' :=
 ⟨rfl,F,h.more t,Turned.mono t (fun _ _ q=>q.elim),fun k hk=> .inl hk⟩
theorem JK {w w':World}{F F0 F1:Nat→Prop}{p M q n:Nat}{kn:Int→Option Int}{D':List KV}{v:Value}(hp:w.heap[p]?=some (.cells (cC (some ⟨p,0,none⟩) M q (-1)) 110 (0,0)))
 (hk:KnownAt w M n kn) (fp:F p) (f0:∀k,F0 k→F k∧k≠p) (fM:¬F M) (hl:∀k,F k→k<w.heap.size) (hm:fD w' F1 q D') (ht:Turned F0 w w') (h1:∀k,F1 k→F0 k∨w.heap.size≤k):gN w F p kn D' v (.returned v) w':=by
 have hlM:=hk.lt
 have hlp:=ac hp
 refine⟨rfl,fun k=>F k∨F1 k,⟨⟨M,q,n,F1,?_,hk.keep ht (fun r=>fM (f0 M r).1),hm,.inl fp,fun k r=>⟨.inr r,fun e=>?_⟩,fun r=>?_⟩,fun k r=>?_⟩,ht.mono (fun k _ r=>(f0 k r).1),fun k r=>?_⟩
 ·rw[Turned.block ht p hlp (fun r=>(f0 p r).2 rfl)];exact hp
 ·subst e
  rcases h1 k r with q|q
  ·exact(f0 k q).2 rfl
  ·omega
 ·rcases r with r|r
  ·exact fM r
  ·rcases h1 M r with q|q
   ·exact fM (f0 M q).1
   ·omega
 ·rcases r with r|r
  ·exact Nat.lt_of_lt_of_le (hl k r) ht.size
  ·exact hm.lt k r
 ·rcases r with r|r
  ·exact .inl r
  ·exact(h1 k r).imp (fun q=>(f0 k q).1) id
theorem yp (F:Nat→Prop)(p:Nat)(kn:Int→Option Int)(D:List KV)(a x:Int)(w:World)(h:aF w F p kn D)(hs:D.length<100000):
 Calls Tryz.prog 116 #[.pointer (some ⟨p,0,none⟩),.int .i64 a,.int .i64 x] w (gN w F p kn (eE D a x) (.tuple #[])):=by
 obtain⟨M,q,n,F0,hp,hk,hm,fp,f0,fM⟩:=h.ex
 have S:=hQQ (jx p w (cX hp).1)
 have P:=hQQ (LY F0 q D a x w hm hs)
 by_cases ha:a<0
 ·have e:eE D a x=D:=by unfold eE;rw[if_pos ha]
  have FIN:=hQQ (gN.same (v:=.tuple #[]) h (ae.refl w))
  rw[e]
  have d:decide (0≤a)=false:=by simp;omega
  clear h hp hk hm e ha P
  go_enter Tryz.func116,Tryz.ntmps116
  go_wp2_with (go_at_call 59;refine S.o.mono ?_;rintro e w' ⟨rfl,rfl⟩)
  go_end0
  exact FIN.o
 ·have e:eE D a x=iX D a x:=by unfold eE;rw[if_neg ha]
  rw[e]
  have d:decide (0≤a)=true:=by simp;omega
  have hl:=h.lt
  have FIN:Hq (∀w' F1,fD w' F1 q (iX D a x)→Turned F0 w w'→(∀k,F1 k→F0 k∨w.heap.size≤k)→gN w F p kn (iX D a x) (.tuple #[]) (.returned (.tuple #[])) w'):=
   hQQ fun w' F1 m t f=>JK hp hk fp f0 fM hl m t f
  obtain⟨c0,c1,c2,c3,hf,hlp⟩:=cX hp
  clear h hp hk hm e ha fp f0 fM hl
  go_enter Tryz.func116,Tryz.ntmps116
  go_wp2_with (first|(go_at_call 59;refine S.o.mono ?_;rintro e w' ⟨rfl,rfl⟩)|(go_at_call 135;refine P.o.mono ?_;rintro e w1 ⟨rfl,F1,m,t,f⟩;have M1:=hQQ m;have T1:=hQQ t;have N1:=hQQ f;clear m t f))
  go_end0
  exact FIN.o _ _ M1.o T1.o N1.o
theorem vr (p:Nat)(n a:Int)(w:World)(h:bJ w p n):Calls Tryz.prog 27 #[.pointer (some ⟨p,0,none⟩),.int .i64 a] w fun e w'=>e=.returned (.int .i64 0)∧w'=w:=by
 obtain⟨M,q,hp⟩:=h
 have S:=hQQ (vo p w (cX hp).1)
 clear hp
 go_enter Tryz.func27,Tryz.ntmps27
 go_wp2_with (go_at_call 59;refine S.o.mono ?_;rintro e w' ⟨rfl,rfl⟩)
 go_ret
 exact⟨rfl,rfl⟩
theorem ld (p:Nat)(n a x:Int)(w:World)(h:bJ w p n):Calls Tryz.prog 116 #[.pointer (some ⟨p,0,none⟩),.int .i64 a,.int .i64 x] w fun e w'=>e=.returned (.tuple #[])∧w'=w:=by
 obtain⟨M,q,hp⟩:=h
 have S:=hQQ (vo p w (cX hp).1)
 clear hp
 go_enter Tryz.func116,Tryz.ntmps116
 go_wp2_with (go_at_call 59;refine S.o.mono ?_;rintro e w' ⟨rfl,rfl⟩)
 go_end0
 exact⟨rfl,rfl⟩
def pk (w:World)(a:Option Addr)(l:List KV):Prop :=
 l= []∨∃s o,a=some ⟨s,o,none⟩∧s<w.heap.size∧∀i t,l[i]?=some t→w.cell? ⟨s,o+i * 2,none⟩=some (.int .i64 t.1)∧w.cell? ⟨s,o+i * 2+1,none⟩=some (.int .i64 t.2)
def iJ (a:Option Addr)(k:Nat):Prop:=a.map (·.block)=some k
theorem eh {S:Nat→Prop}{w w':World}(t:Turned S w w'){s o:Nat}{v:Value}(hs:¬S s)(h:w.cell? ⟨s,o,none⟩=some v):w'.cell? ⟨s,o,none⟩=some v:=by
 rw[World.cell?_of_block (w:=w) (Turned.block t s (eW h) hs)];exact h
theorem pk.keep {w w':World}{a:Option Addr}{l:List KV}(h:pk w a l){S:Nat→Prop}(t:Turned S w w')(hs:∀k,iJ a k→¬S k):pk w' a l:=by
 rcases h with h|⟨s,o,rfl,hl,hc⟩
 ·exact .inl h
 ·exact .inr ⟨s,o,rfl,Nat.lt_of_lt_of_le hl t.size,fun i u hi=>by
   obtain⟨c0,c1⟩:=hc i u hi
   exact⟨eh t (hs s rfl) c0,eh t (hs s rfl) c1⟩⟩
theorem ak {F F':Nat→Prop}{W w w':World}(h:Turned F W w)(t:Turned F' w w')(n:∀k,F' k→F k∨W.heap.size≤k):Turned F W w' :=
 ⟨t.os.trans h.os,t.tape.trans h.tape,t.output.trans h.output,Nat.le_trans h.size t.size,fun k hk hs=>by
  rw[Turned.block t k (Nat.lt_of_lt_of_le hk h.size) (fun q=>by rcases n k q with r|r;exact hs r;omega)]
  exact Turned.block h k hk hs⟩
structure On (W wr:World)(F:Nat→Prop)(p:Nat)(kn:Int→Option Int)(l:List Md)(R:Ran)(i:Nat)(x:Int):Prop where
 ex:∃F' D,aF wr F' p kn D∧(∀k,F' k→F k∨W.heap.size≤k)∧ym kn (l.drop i) false x D=R∧OkD D∧D.length≤i
 turn:Turned F W wr
 x64:W64 x
theorem iY {S:Nat→Prop}{wa w w':World}{v:Value}{e:TypeId}{s n:Nat}{xs:List Value}(hW:Turned S wa w)(h:w.ownsRow wa.heap.size e s v n xs)(g:w.grownBy w' v.ownBlock):Turned S wa w' :=
 ⟨g.os.trans hW.os,g.tape.trans hW.tape,g.output.trans hW.output,Nat.le_trans hW.size g.size,fun k hk hs=>by
  rw[g.block k (Nat.lt_of_lt_of_le hk hW.size) (by
   rcases h.2 with⟨rfl,_⟩|⟨b,cap,cur,rfl,hb,_⟩
   ·simp[Value.ownBlock]
   ·simp only[Value.ownBlock,ne_eq,Option.some.injEq];omega)]
  exact Turned.block hW k hk hs⟩
theorem lf {w w':World}{base:Nat}{e:TypeId}{s n:Nat}{v:Value}{xs:List Value}(h:w.ownsRow base e s v n xs){S:Nat→Prop}(hW:Turned S w w')(hs:∀k,base≤k→¬S k):w'.ownsRow base e s v n xs:=by
 refine⟨h.1,?_⟩
 rcases h.2 with q|⟨g,cap,cur,h1,h2,h3,h4⟩
 ·exact .inl q
 ·exact .inr ⟨g,cap,cur,h1,h2,by rw[Turned.block hW g (ac h3) (hs g h2)];exact h3,h4⟩
theorem oa {w:World}{base base':Nat}{e:TypeId}{s n:Nat}{v:Value}{xs:List Value}(h:w.ownsRow base e s v n xs)(hb:base'≤base):w.ownsRow base' e s v n xs:=by
 refine⟨h.1,?_⟩
 rcases h.2 with q|⟨g,cap,cur,h1,h2,h3,h4⟩
 ·exact .inl q
 ·exact .inr ⟨g,cap,cur,h1,by omega,h3,h4⟩
def dZ (ps:List KV):List Value:=ps.flatMap fun p=> [.int .i64 p.1,.int .i64 p.2]
theorem jy (ps:List KV)(p:KV):dZ (ps++ [p])=dZ ps++ [.int .i64 p.1,.int .i64 p.2]:=by simp[dZ]
theorem jz (p:KV)(ps:List KV):dZ (p::ps)=.int .i64 p.1:: .int .i64 p.2::dZ ps:=by simp[dZ]
theorem kh:∀ps:List KV,(dZ ps).length=ps.length * 2
 | []=>rfl
 |p::ps=>by rw[jz,List.length_cons,List.length_cons,kh ps,List.length_cons];omega
theorem ki:∀(ps:List KV) (i:Nat) (p:KV),ps[i]?=some p→(dZ ps)[i * 2]?=some (.int .i64 p.1)∧(dZ ps)[i * 2+1]?=some (.int .i64 p.2)
 | [],i,p,h=>by cases h
 |q::ps,0,p,h=>by
  simp at h;subst h
  rw[jz];exact⟨rfl,rfl⟩
 |q::ps,i+1,p,h=>by
  have:=ki ps i p (by simpa using h)
  rw[jz,show(i+1) * 2=i * 2+1+1 by omega]
  exact this
theorem vt:∃i:TypeInfo,Tryz.prog.info? 88=some i∧i.zero=some (.agg #[.int .i64 0,.int .i64 0])∧i.size=2∧i.bytes=16:=by
 have h1:(Tryz.prog.info? 88).map (·.size)=some 2:=by kernel_rfl
 have h2:(Tryz.prog.info? 88).bind (·.zero)=some (.agg #[.int .i64 0,.int .i64 0]):=by kernel_rfl
 have h3:(Tryz.prog.info? 88).map (·.bytes)=some 16:=by kernel_rfl
 cases q:Tryz.prog.info? 88 with
 |none=>rw[q] at h1;simp at h1
 |some i=>rw[q] at h1 h2 h3;exact⟨i,rfl,by simpa using h2,by simpa using h1,by simpa using h3⟩
def PRw (base:Nat)(w:World)(v:Value)(ps:List KV):Prop:=w.ownsRow base 88 2 v ps.length (dZ ps)
theorem PRw.nil (base:Nat)(w:World):PRw base w (.slice none 0 0) []:=World.ownsRow_nil w base _ 2
theorem PRw.keep {base:Nat}{w w':World}{v:Value}{ps:List KV}(h:PRw base w v ps){S:Nat→Prop}(hW:Turned S w w')(hs:∀k,base≤k→¬S k):PRw base w' v ps:=lf h hW hs
theorem PRw.more {base:Nat}{w w':World}{v:Value}{ps:List KV}(h:PRw base w v ps)(hW:ae w w'):PRw base w' v ps:=lf h hW (fun _ _ q=>q)
theorem PRw.mono {base base':Nat}{w:World}{v:Value}{ps:List KV}(h:PRw base w v ps)(hb:base'≤base):PRw base' w v ps:=oa h hb
theorem PRw.reads {base:Nat}{w:World}{v:Value}{ps:List KV}(h:PRw base w v ps):∃a cap,v=.slice a ps.length cap∧pk w a ps∧∀k,iJ a k→base≤k:=by
 rcases h.2 with⟨rfl,h0⟩|⟨g,cap,cur,rfl,hb,hg,_,_,hs,ht⟩
 ·have:ps= []:=List.length_eq_zero_iff.1 h0
  subst this
  exact⟨none,0,rfl,.inl rfl,fun k hk=>by cases hk⟩
 ·refine⟨_,cap,rfl,.inr ⟨g,0,rfl,ac hg,fun i t hi=>?_⟩,fun k hk=>by cases hk;exact hb⟩
  have hil:=(List.getElem?_eq_some_iff.1 hi).1
  have hcell:∀j u,(dZ ps)[j]?=some u→w.cell? ⟨g,0+j,none⟩=some u:=fun j u hj=>by
   have hj':j<ps.length * 2:=by have:=(List.getElem?_eq_some_iff.1 hj).1;rw[kh] at this;exact this
   have e:cur.toList[j]?=some u:=by
    have h1:(cur.toList.take (ps.length * 2))[j]?=some u:=by rw[ht];exact hj
    rw[List.getElem?_take,if_pos (by omega)] at h1
    exact h1
   simp[World.cell?,hg]
   simpa using e
  obtain⟨p1,p2⟩:=ki ps i t hi
  exact⟨hcell _ _ p1,by have:=hcell _ _ p2;rwa [←Nat.add_assoc] at this⟩
theorem yr {ops:Array Oper}{rest:List Oper}{o:Oper}{a:Act}{Q:Exit→Act→World→Prop}{S:Nat→Prop}{w wa:World}{v:Value}{ps:List KV}(p q:Int)(hgd:o.guard=none)(s x:Operand)
 (ho:o.op=.call { callee:= .builtin .append,args:= #[s,x],argTypes:= #[39,39] })
 (hs:a.eval s=v) (hn:PRw wa.heap.size w v ps) (hW:Turned S wa w) (hl:ps.length≤1000000)
 (hx:a.eval x=.slice (some ⟨w.heap.size,0,none⟩) 1 1)
 (h:∀g cap w',PRw wa.heap.size w' (.slice (some ⟨g,0,none⟩) (ps.length+1) cap) (ps++ [(p,q)])→Turned S wa w'→(∀k ob,w.heap[k]?=some ob→v.ownBlock≠some k→w'.heap[k]?=some ob)→wpList Tryz.prog ops Q rest (a.put o.dst (.slice (some ⟨g,0,none⟩) (ps.length+1) cap)) w'):wpList Tryz.prog ops Q (o::rest) a (w.alloc (.cells #[.int .i64 p,.int .i64 q] 88)):=by
 obtain⟨i,i1,i2,i3,i4⟩:=vt
 have hn':=hn.more ((ae.refl w).alloc (.cells #[.int .i64 p,.int .i64 q] 88))
 have hB:=bz w (.cells #[.int .i64 p,.int .i64 q] 88)
 refine wpList_append_lies _ hgd s x 39 ho wa.heap.size 88 i _ 2 16 Tryz.underlying39 i1 i2 i3 i4 rfl (by omega) v ps.length _ hs hn' ⟨w.heap.size,0,none⟩ 1 1 [.int .i64 p,.int .i64 q] hx (by simp)
  (fun j u hu=>World.news_of_block hB j u (by simpa using hu)) (by intro u hu;simp at hu;rcases hu with rfl|rfl<;>rfl) (by omega) (by simp only[maxLen];omega) (by omega) (by have:=hW.size;simp;omega) _ rfl ?_
 intro g cap w1 hown hgrow _ _
 refine h g cap w1 ?_ (iY (hW.alloc _) hn' hgrow) (fun k ob hk hne=>?_)
 ·unfold PRw
  rw[List.length_append,jy]
  exact hown
 ·rw[hgrow.block k (by have:=ac hk;simp;omega) (Ne.symm hne),Below.heap_alloc _ _ _ (ac hk)];exact hk
theorem qt {P:Program}(w:World)(d:Nat)(t:TypeId) {a b c}(h:P.underlying t=some (.func a b c))(f:Fn)(xs ys:Array Value):
 (Op.equalIn (d+1) t (.func f xs ys) .nilFunc).run P w=.ok false w:=by
 simp[Op.equalIn,run_underlying h]
theorem lh {P:Program}(w:World)(t:TypeId) {a b c}(h:P.underlying t=some (.func a b c))(f:Fn)(xs ys:Array Value):Sem.run P (binOp BinOp.eql t (Value.func f xs ys) Value.nilFunc) w=.ok (.bool false) w:=by
 have:Sem.run P (Op.equal t (Value.func f xs ys) Value.nilFunc) w=.ok false w:=qt w 9999 t h f xs ys
 simp[binOp,this]
theorem aA {w:World}{b:Nat}{v:Value}{T:TypeId}(h:w.heap[b]?=some (.cells #[v] T (0,0))):w.cell? ⟨b,0,none⟩=some v∧w.frozen? ⟨b,0,none⟩=false∧b<w.heap.size :=
 ⟨by simp[World.cell?,h],by simp[World.frozen?,h],ac h⟩
theorem li {w:World}{b:Nat}{v:Value}{T:TypeId}(x:Value)(h:w.heap[b]?=some (.cells #[v] T (0,0))):(w.setCell ⟨b,0,none⟩ x).heap[b]?=some (.cells #[x] T (0,0)):=by
 have:=bD (o:=0) x h
 simpa using this
structure wO (wa W:World)(b:Nat)(ps:List KV):Prop where
 ex:∃v,W.heap[b]?=some (.cells #[v] 39 (0,0))∧PRw wa.heap.size W v ps
 turn:Turned (fun k=>k=b) wa W
theorem wO.more {wa W W':World}{b:Nat}{ps:List KV}(h:wO wa W b ps)(t:ae W W'):wO wa W' b ps:=by
 obtain⟨v,hb,hv⟩:=h.ex
 exact⟨⟨v,t.block hb,hv.more t⟩,ak (F':=fun _=>False) h.turn t (fun _ q=>q.elim)⟩
theorem JL (wa W:World)(b:Nat)(ps:List KV)(x y:Int)(hlt:b<wa.heap.size)(h:wO wa W b ps)(hl:ps.length≤100000):
 Calls Tryz.prog 106 #[.int .i64 x,.int .i64 y,.pointer (some ⟨b,0,none⟩)] W fun e w'=>e=.returned (.bool true)∧wO wa w' b (ps++ [(x,y)]):=by
 obtain⟨v,hb,hv⟩:=h.ex
 obtain⟨c0,f0,l0⟩:=aA hb
 have HB:=hQQ hb
 have HV:=hQQ hv
 have HT:=hQQ h.turn
 have FIN:Hq (∀v' w',PRw wa.heap.size w' v' (ps++ [(x,y)])→Turned (fun k=>k=b) wa w'→w'.heap[b]?=some (.cells #[v] 39 (0,0))→wO wa (w'.setCell ⟨b,0,none⟩ v') b (ps++ [(x,y)])):=hQQ fun v' w' hp ht hbb =>
  ⟨⟨v',li v' hbb,hp.keep (bF (S:=fun k=>k=b) (Turned.refl _ w') (fun _=>rfl) v') (fun k hk e=>by omega)⟩,bF ht (fun _=>rfl) v'⟩
 have NE:Hq (∀k,v.ownBlock=some k→k≠b):=hQQ fun k hk e=>by have:=hv.lt k hk;omega
 clear h hb hv
 go_enter Tryz.func106,Tryz.ntmps106
 go_wp2_with (at_builtin;refine yr (S:=fun k=>k=b) (wa:=wa) (v:=v) (ps:=ps) x y rfl _ _ rfl rfl HV.o HT.o (by omega) rfl ?_;intro g' c' w1 hp1 ht1 hk1;have H1:=hQQ hp1;have T1:=hQQ ht1;have B1:=hQQ (hk1 b _ HB.o (fun e=>NE.o b e rfl));have c1:=(aA B1.o).1;have f1:=(aA B1.o).2.1;clear hp1 ht1 hk1)
 go_ret
 exact⟨rfl,FIN.o _ _ H1.o T1.o B1.o⟩
theorem Ec (F:Nat→Prop)(q:Nat)(D:List KV)(b:Nat)(W:World)(h:fD W F q D)(hb:W.heap[b]?=some (.cells #[.slice none 0 0] 39 (0,0)))(hF:¬F b):
 Calls Tryz.prog 105 #[.pointer (some ⟨q,0,none⟩),.func (.func 106) #[] #[.pointer (some ⟨b,0,none⟩)]] W fun e w'=>e=.returned (.tuple #[])∧Turned (fun k=>k=b) W w'∧∃v,w'.heap[b]?=some (.cells #[v] 39 (0,0))∧PRw W.heap.size w' v D:=by
 have hq:∀w,Sem.run Tryz.prog (binOp BinOp.eql 132 (Value.func (.func 106) #[] #[.pointer (some ⟨b,0,none⟩)]) Value.nilFunc) w=.ok (.bool false) w:=fun w=>lh w _ Tryz.underlying132 _ _ _
 have hlb:=ac hb
 have hsm:=h.small
 have CP:=hQQ (JI F q D W h)
 have HB:=hQQ hb
 clear h hb hF
 go_enter Tryz.func105,Tryz.ntmps105
 go_wp2_with fail
 refine CP.o.mono ?_
 rintro e w1 ⟨Fc,c,rfl,mc,M1,nc⟩
 have MC:=hQQ mc
 have K1:=hQQ M1
 have T0:=hQQ (show wO w1 w1 b [] from⟨⟨_,M1.block HB.o,PRw.nil _ _⟩,Turned.refl _ _⟩)
 have hlb1:b<w1.heap.size:=Nat.lt_of_lt_of_le hlb M1.size
 have NC:Hq (∀x,Fc x→¬x=b):=hQQ (fun x hx q=>by have:=nc x hx;omega)
 have FIN:Hq (∀wr,wO w1 wr b D→Turned (fun k=>k=b) W wr∧∃v,wr.heap[b]?=some (.cells #[v] 39 (0,0))∧PRw W.heap.size wr v D):=hQQ fun wr ht=>by
  obtain⟨v,h1,h2⟩:=ht.ex
  exact⟨(Turned.mono K1.o (fun _ _ q=>q.elim)).trans ht.turn,v,h1,h2.mono K1.o.size⟩
 clear mc M1 nc
 go_wp2_with fail
 refine(Gs Fc c D w1 MC.o).mono ?_
 rintro e w2 ⟨rfl,h2⟩
 obtain rfl:w2=w1:=h2
 go_wp2_with fail
 go_loopw [15] (fun i wr=>∃t:Nat,t≤D.length∧i=.int .i64 (t:Nat)∧wO w2 wr b (D.take t)) (fun i _=>D.length-(intOf i).toNat)
 case atStart=>exact⟨0,Nat.zero_le _,rfl,T0.o⟩
 case round =>
  obtain⟨t,ht,rfl,htell⟩:=hrel
  have T3:=hQQ htell;have C3:=hQQ (MC.o.keep htell.turn NC.o)
  clear htell
  by_cases hlt3:t<D.length
  ·obtain⟨x,hx⟩:∃x,D[t]?=some x:=⟨_,List.getElem?_eq_getElem hlt3⟩
   have TK:Hq (D.take (t+1)=D.take t++ [x]):=hQQ (by rw[List.take_add_one,hx];rfl)
   have HX:=hQQ hx
   clear hx
   obtain⟨xk,xv⟩:=x
   go_wp2_with fail
   refine(Ob Fc c D t (xk,xv) wr C3.o HX.o).mono ?_
   rintro e w4 ⟨rfl,n4,rfl⟩
   have C4:=hQQ (C3.o.more (gt wr n4));have T4:=hQQ (T3.o.more (gt wr n4))
   clear C3 T3
   generalize wr.drewN n4=w4 at C4 T4⊢
   simp only
   go_wp2_with fail
   refine(JL w2 w4 b (D.take t) xk xv hlb1 T4.o (by simp;omega)).mono ?_
   rintro e w5 ⟨rfl,htell⟩
   have T5:=hQQ htell
   clear htell C4 T4
   go_wp2_with fail
   go_roundw
   case rel=>exact⟨t+1,by omega,by go_num,by rw[TK.o];exact T5.o⟩
   case measure=>simp[intOf];omega
  ·obtain rfl:t=D.length:=by omega
   have FIN2:Hq (∀wr',wr'=wr→Turned (fun k=>k=b) W wr'∧∃v,wr'.heap[b]?=some (.cells #[v] 39 (0,0))∧PRw W.heap.size wr' v D):=hQQ (fun wr' e=>by subst e;exact FIN.o _ (by have:=T3.o;rwa [List.take_length] at this))
   go_wp2_with fail
   go_end0
   exact⟨rfl,FIN2.o _ rfl⟩
theorem CT (F:Nat→Prop)(p q:Nat)(D:List KV)(W:World)(hp:W.cell? ⟨p,2,none⟩=some (.pointer (some ⟨q,0,none⟩)))(hm:fD W F q D):
 Calls Tryz.prog 78 #[.pointer (some ⟨p,0,none⟩)] W fun e w'=>∃v,e=.returned v∧PRw W.heap.size w' v D∧ae W w':=by
 have M1:ae W (W.alloc (.cells #[.slice none 0 0] 39)):=(ae.refl W).alloc _
 have hb:=bz W (.cells #[.slice none 0 0] 39)
 have E:=hQQ (Ec F q D W.heap.size _ (hm.more M1) hb (fun r=>by have:=hm.lt _ r;omega))
 have hp1:=M1.cell hp
 have hlp:=eW hp
 have HM:=hQQ M1
 clear hm hb M1
 go_enter Tryz.func78,Tryz.ntmps78
 go_wp2_with fail
 refine E.o.mono ?_
 rintro e w1 ⟨rfl,ht,v,hv,hr⟩
 have FIN:Hq (PRw W.heap.size w1 v D∧ae W w1):=hQQ ⟨hr.mono (by simp),Turned.mono (ak (F:=fun _=>False) HM.o ht (fun k hk=> .inr (by omega))) (fun _ _ q=>q)⟩
 obtain⟨c0,f0,l0⟩:=aA hv
 clear ht hr hv
 go_wp2_with fail
 go_ret
 exact⟨_,rfl,FIN.o⟩
theorem AE (v:Value)(w:World):(Instr.typeAssert (.iface 113 v) 20 113 true).run Tryz.prog w=.ok (.tuple #[v,.bool true]) w:=by kernel_rfl
theorem yt (w:World):(Instr.typeAssert .nilIface 20 113 true).run Tryz.prog w=.ok (.tuple #[.agg #[.pointer none],.bool false]) w:=by kernel_rfl
def wP (w:World)(p bn:Nat)(a:Int)(w':World):Prop:=bJ w' p a∧w'.heap[bn]?=some (.cells #[.int .i64 a] 3 (0,0))∧Turned (fun k=>k=p∨k=bn) w w'
theorem vu (p bv bn:Nat)(a n:Int)(w:World)(h:bJ w p a)(hv:w.heap[bv]?=some (.cells #[.pointer (some ⟨p,0,none⟩)] 43 (0,0)))(hn:w.heap[bn]?=some (.cells #[.int .i64 n] 3 (0,0)))(h1:bv≠p)(h2:bn≠p)(h3:bv≠bn):
 CallsD Tryz.prog 77 #[.pointer (some ⟨bv,0,none⟩),.pointer (some ⟨bn,0,none⟩)] (.panicking (bB p)) w fun e u' w' =>
  e=.returned (.tuple #[])∧u'= .panicking [{ v:= .iface 113 (.agg #[.pointer (some ⟨p,0,none⟩)]),recovered:=true }]∧wP w p bn a w':=by
 have hq:=fun w=>Gz ⟨p,0,none⟩ w
 obtain⟨M,q,hp⟩:=h
 obtain⟨c0,c1,c2,c3,cf,cl⟩:=cX hp
 obtain⟨v0,vf,vl⟩:=aA hv
 obtain⟨n0,nf,nl⟩:=aA hn
 refine callsD_of_wpS Tryz.func77 rfl fun c₀ cs hu=>?_
 apply wpS_seq
 apply wpS_region
 simp[wpOpsS,go_sem,recoverD,hu,Tryz.ntmps77,Exit.thenS,v0,c0,cf,vf]
 apply wpS_seq
 apply wpS_seq
 apply wpS_region
 simp[wpOpsS,go_sem,recoverD,hu,bB,Exit.thenS,Array.replicate_succ,v0,c0,cf,vf,AE]
 have t1:Turned (fun k=>k=p∨k=bn) w ((w.setCell ⟨p,0,none⟩ (.pointer none)).alloc (.cells #[.pointer (some ⟨p,0,none⟩)] 113)):=Turned.alloc (bF (Turned.refl _ w) (fun _=> .inl rfl) _) _
 have hp1:((w.setCell ⟨p,0,none⟩ (.pointer none)).alloc (.cells #[.pointer (some ⟨p,0,none⟩)] 113)).heap[p]?=some (.cells (cC none M q a) 110 (0,0)):=by
  rw[Below.heap_alloc _ _ _ (by simpa using cl)]
  have:=bD (o:=0) (.pointer none) hp
  simpa [cC] using this
 have hv1:((w.setCell ⟨p,0,none⟩ (.pointer none)).alloc (.cells #[.pointer (some ⟨p,0,none⟩)] 113)).heap[bv]?=some (.cells #[.pointer (some ⟨p,0,none⟩)] 43 (0,0)):=by
  rw[Turned.block t1 bv vl (by omega)];exact hv
 have hs1:=bz (w.setCell ⟨p,0,none⟩ (.pointer none)) (.cells #[.pointer (some ⟨p,0,none⟩)] 113)
 rw[show(w.setCell ⟨p,0,none⟩ (.pointer none)).heap.size=w.heap.size by simp] at hs1
 have hn1:((w.setCell ⟨p,0,none⟩ (.pointer none)).alloc (.cells #[.pointer (some ⟨p,0,none⟩)] 113)).heap[bn]?=some (.cells #[.int .i64 n] 3 (0,0)):=by
  rw[Below.heap_alloc _ _ _ (by simpa using nl),Below.heap_setCell _ _ _ _ h2];exact hn
 generalize (w.setCell ⟨p,0,none⟩ (.pointer none)).alloc (.cells #[.pointer (some ⟨p,0,none⟩)] 113)=W1 at t1 hp1 hv1 hs1 hn1⊢
 generalize w.heap.size=bs at hs1⊢
 obtain⟨_,_,_,x3,_,xl⟩:=cX hp1
 obtain⟨y0,yf,yl⟩:=aA hv1
 obtain⟨z0,zf,zl⟩:=aA hs1
 obtain⟨n1,nf1,nl1⟩:=aA hn1
 have FIN:Hq (wP w p bn a (W1.setCell ⟨bn,0,none⟩ (.int .i64 a))):=hQQ ⟨⟨M,q,by rw[Below.heap_setCell _ _ _ _ (Ne.symm h2)];exact hp1⟩,li _ hn1,bF t1 (fun _=> .inr rfl) _⟩
 clear c0 c1 c2 c3 cf cl v0 vf vl n0 nf nl hp hv hn hp1 hv1 hs1 hn1 t1
 refine wpS_of_wp ?_
 go_wp2_with fail
 refine wpS_of_wp ?_
 go_wp2_with fail
 exact⟨rfl,_,rfl,_,results_none rfl _ _ _,rfl,rfl,FIN.o⟩
theorem sL (p bv bn M q:Nat)(n:Int)(w:World)(hp:w.heap[p]?=some (.cells (cC (some ⟨p,0,none⟩) M q (-1)) 110 (0,0)))(hv:w.heap[bv]?=some (.cells #[.pointer (some ⟨p,0,none⟩)] 43 (0,0)))(hn:w.heap[bn]?=some (.cells #[.int .i64 n] 3 (0,0)))(h1:bv≠p)(h2:bn≠p)(h3:bv≠bn):
 CallsD Tryz.prog 77 #[.pointer (some ⟨bv,0,none⟩),.pointer (some ⟨bn,0,none⟩)] .returning w fun e u' w' =>
  e=.returned (.tuple #[])∧u'= .returning∧wP w p bn (-1) w':=by
 obtain⟨c0,c1,c2,c3,cf,cl⟩:=cX hp
 obtain⟨v0,vf,vl⟩:=aA hv
 obtain⟨n0,nf,nl⟩:=aA hn
 refine callsD_of_wpS Tryz.func77 rfl fun c₀ cs hu=>?_
 apply wpS_seq
 apply wpS_region
 simp[wpOpsS,go_sem,recoverD,hu,Tryz.ntmps77,Exit.thenS,v0,c0,cf,vf]
 apply wpS_seq
 apply wpS_seq
 apply wpS_region
 simp[wpOpsS,go_sem,recoverD,hu,bB,Exit.thenS,Array.replicate_succ,v0,c0,cf,vf,yt]
 have t1:Turned (fun k=>k=p∨k=bn) w ((w.setCell ⟨p,0,none⟩ (.pointer none)).alloc (.cells #[.pointer none] 113)):=Turned.alloc (bF (Turned.refl _ w) (fun _=> .inl rfl) _) _
 have hp1:((w.setCell ⟨p,0,none⟩ (.pointer none)).alloc (.cells #[.pointer none] 113)).heap[p]?=some (.cells (cC none M q (-1)) 110 (0,0)):=by
  rw[Below.heap_alloc _ _ _ (by simpa using cl)]
  have:=bD (o:=0) (.pointer none) hp
  simpa [cC] using this
 have hv1:((w.setCell ⟨p,0,none⟩ (.pointer none)).alloc (.cells #[.pointer none] 113)).heap[bv]?=some (.cells #[.pointer (some ⟨p,0,none⟩)] 43 (0,0)):=by
  rw[Turned.block t1 bv vl (by omega)];exact hv
 have hn1:((w.setCell ⟨p,0,none⟩ (.pointer none)).alloc (.cells #[.pointer none] 113)).heap[bn]?=some (.cells #[.int .i64 n] 3 (0,0)):=by
  rw[Below.heap_alloc _ _ _ (by simpa using nl),Below.heap_setCell _ _ _ _ h2];exact hn
 generalize (w.setCell ⟨p,0,none⟩ (.pointer none)).alloc (.cells #[.pointer none] 113)=W1 at t1 hp1 hv1 hn1⊢
 obtain⟨_,_,_,x3,_,xl⟩:=cX hp1
 obtain⟨y0,yf,yl⟩:=aA hv1
 obtain⟨n1,nf1,nl1⟩:=aA hn1
 have FIN:Hq (wP w p bn (-1) (W1.setCell ⟨bn,0,none⟩ (.int .i64 (-1)))):=hQQ ⟨⟨M,q,by rw[Below.heap_setCell _ _ _ _ (Ne.symm h2)];exact hp1⟩,li _ hn1,bF t1 (fun _=> .inr rfl) _⟩
 clear c0 c1 c2 c3 cf cl v0 vf vl n0 nf nl hp hv hn hp1 hv1 hn1 t1
 refine wpS_of_wp ?_
 go_wp2_with fail
 refine wpS_of_wp ?_
 go_wp2_with fail
 refine⟨rfl,.returning,?_,_,results_none rfl _ _ _,rfl,rfl,FIN.o⟩
 cases c₀
 simp_all
structure GF (w W:World)(F:Nat→Prop)(p bv bn:Nat)(kn:Int→Option Int):Prop where
 view:aF W F p kn []
 v:W.heap[bv]?=some (.cells #[.pointer (some ⟨p,0,none⟩)] 43 (0,0))
 n:W.heap[bn]?=some (.cells #[.int .i64 0] 3 (0,0))
 more:ae w W
 new:∀k,F k→w.heap.size≤k
 fv:¬F bv
 fn:¬F bn
 vn:bv≠bn
 lv:w.heap.size≤bv
 ln:w.heap.size≤bn
 lp:w.heap.size≤p
theorem yv {w w1:World}{M q n:Nat}{F0:Nat→Prop}{kn:Int→Option Int}(hk:KnownAt w M n kn)(hm:fD w1 F0 q [])(hM:ae (w.alloc (.cells #[.int .i64 0] 3)) w1)(hn:∀k,F0 k→(w.alloc (.cells #[.int .i64 0] 3)).heap.size≤k):
 ∃F,GF w ((w1.alloc (.cells (cC (some ⟨w1.heap.size,0,none⟩) M q (-1)) 110)).alloc (.cells #[.pointer (some ⟨w1.heap.size,0,none⟩)] 43)) F w1.heap.size (w1.heap.size+1) w.heap.size kn:=by
 have m0:ae w (w.alloc (.cells #[.int .i64 0] 3)):=(ae.refl w).alloc _
 have hb:=bz w (.cells #[.int .i64 0] 3)
 have hs0:(w.alloc (.cells #[.int .i64 0] 3)).heap.size=w.heap.size+1:=by simp
 rw[hs0] at hn
 have h1:=hM.size
 rw[hs0] at h1
 have hp:=bz w1 (.cells (cC (some ⟨w1.heap.size,0,none⟩) M q (-1)) 110)
 have m2:ae w1 (w1.alloc (.cells (cC (some ⟨w1.heap.size,0,none⟩) M q (-1)) 110)):=(ae.refl w1).alloc _
 have hs2:(w1.alloc (.cells (cC (some ⟨w1.heap.size,0,none⟩) M q (-1)) 110)).heap.size=w1.heap.size+1:=by simp
 generalize w1.alloc (.cells (cC (some ⟨w1.heap.size,0,none⟩) M q (-1)) 110)=w2 at hp m2 hs2⊢
 have hv:=bz w2 (.cells #[.pointer (some ⟨w1.heap.size,0,none⟩)] 43)
 rw[hs2] at hv
 have m3:ae w2 (w2.alloc (.cells #[.pointer (some ⟨w1.heap.size,0,none⟩)] 43)):=(ae.refl w2).alloc _
 have hs3:(w2.alloc (.cells #[.pointer (some ⟨w1.heap.size,0,none⟩)] 43)).heap.size=w1.heap.size+2:=by simp[hs2]
 generalize w2.alloc (.cells #[.pointer (some ⟨w1.heap.size,0,none⟩)] 43)=w3 at hv m3 hs3⊢
 have lM:=hk.lt
 have all:ae w w3:=((m0.trans hM).trans m2).trans m3
 refine⟨fun k=>F0 k∨k=w1.heap.size,⟨⟨⟨M,q,n,F0,m3.block hp,hk.more all,(hm.more m2).more m3,.inr rfl,fun k hk=>⟨.inl hk,fun e=>by have:=hm.lt k hk;omega⟩,fun r=>?_⟩,fun k r=>?_⟩,hv,m3.block (m2.block (hM.block hb)),all,fun k r=>?_,fun r=>?_,fun r=>?_,by omega,by omega,Nat.le_refl _,by omega⟩⟩
 ·rcases r with r|r
  ·have:=hn M r;omega
  ·omega
 ·rcases r with r|r
  ·have:=hm.lt k r;omega
  ·omega
 ·rcases r with r|r
  ·have:=hn k r;omega
  ·omega
 ·rcases r with r|r
  ·have:=hm.lt _ r;omega
  ·omega
 ·rcases r with r|r
  ·have:=hn _ r;omega
  ·omega
theorem pl {w W w2 w3:World}{F S:Nat→Prop}{p bv bn:Nat}{kn:Int→Option Int}(hb:GF w W F p bv bn kn)(t:Turned (fun k=>F k∨S k) W w2)(t':Turned (fun k=>k=p∨k=bn) w2 w3):Turned S w w3:=by
 have m:Turned S w W:=Turned.mono hb.more (fun _ _ q=>q.elim)
 have h1:Turned S w w2:=ak m t (fun k q=>by rcases q with q|q;exact .inr (hb.new k q);exact .inl q)
 exact ak h1 t' (fun k q=>by have:=hb.lp;have:=hb.ln;rcases q with q|q<;>exact .inr (by omega))
theorem rT {w W w2:World}{F S:Nat→Prop}{p bv bn:Nat}{kn:Int→Option Int}(hb:GF w W F p bv bn kn)(hS:∀k,S k→k<w.heap.size)(t:Turned (fun k=>F k∨S k) W w2):
 w2.heap[bv]?=some (.cells #[.pointer (some ⟨p,0,none⟩)] 43 (0,0))∧w2.heap[bn]?=some (.cells #[.int .i64 0] 3 (0,0))∧bv≠p∧bn≠p:=by
 obtain⟨M,q,n,F0,hp,_,_,fp,_⟩:=hb.view.ex
 refine⟨?_,?_,fun e=>hb.fv (e▸fp),fun e=>hb.fn (e▸fp)⟩
 ·rw[Turned.block t bv (ac hb.v) (fun q=>by rcases q with q|q;exact hb.fv q;have:=hS _ q;have:=hb.lv;omega)];exact hb.v
 ·rw[Turned.block t bn (ac hb.n) (fun q=>by rcases q with q|q;exact hb.fn q;have:=hS _ q;have:=hb.ln;omega)];exact hb.n
attribute [local go_sem] Oper.semAt_some
theorem kj {w w':World}(h:Below w.heap.size w w'):ae w w':=⟨h.1,h.2,h.3,h.4,fun k hk _=>h.5 k hk⟩
def fB (a b:Nat)(w w':World):Prop:=w'.heap[a]?=w.heap[a]? ∧w'.heap[b]?=w.heap[b]?
theorem fB.refl (a b:Nat)(w:World):fB a b w w:=⟨rfl,rfl⟩
theorem fB.trans {a b:Nat}{w w' w'':World}(h:fB a b w w')(k:fB a b w' w''):fB a b w w'':=⟨k.1.trans h.1,k.2.trans h.2⟩
theorem fB.cell2 {a b o:Nat}{w w':World}{v:Value}(h:fB a b w w')(hc:w.cell? ⟨b,o,none⟩=some v):w'.cell? ⟨b,o,none⟩=some v:=by
 rw[World.cell?_of_block (w:=w) h.2];exact hc
theorem sM {a b n:Nat}(ha:a<n)(hb:b<n)(W:World)(l:Nat)(o o':Obj)(hl:n≤l)(h:W.heap[l]?=some o) (_:o.isCells=false) (_:o.isWalk=false):fB a b W (W.putObj l o'):=
 ⟨World.putObj_heap_other (by omega),World.putObj_heap_other (by omega)⟩
def Mf (l:List KV)(i:Nat):KV:=l.getD i (0,0)
attribute [local go_sem] Oper.semAt_some
def OI (ps:List KV)(pre:List Nat)(x:Int):Option Int:=look (pre.reverse.map (Mf ps)) x
structure OT (w:World)(ps:List KV)(pre:List Nat)(W:World):Prop where
 box:Boxed W (w.heap.size+1) 83 (.map (some w.heap.size))
 known:KnownAt W w.heap.size pre.length (OI ps pre)
 below:Below w.heap.size w W
 big:w.heap.size+3≤W.heap.size
end Go.Proofs.YtddmeghbmdfgeaaGreatDoor
