/-
  Rows of values of one cell each, in memory of the call's own: what a store, a run of stores, and the library's Insert and Delete make of them.
-/
import Derived.Test.YtddmeghbmdfgeaaGreatDoorFkAa
import Derived.Sort.Row
import Derived.Laws.IdiomCopy
import Derived.Laws.AppendOwn
import Derived.Lib.Hide
import Derived.Test.YtddmeghbmdfgeaaGreatDoorFkAb
import Derived.Test.YtddmeghbmdfgeaaGreatDoorChecked
import Derived.WalkKit
import Derived.Outline
import Derived.Handy
import Derived.Deep.RegionHeld3
import Derived.Maps.OwnSet
import Derived.WalkArith
import Derived.LaidEqlPtr
import Derived.WalkSmall
import Derived.WalkLawsBesides
import Derived.StillTailTactics
import Derived.Deep.AppendLies
import Derived.WalkSpells
import Derived.Deep.DeepMust
import Derived.Recover
import Derived.RangeFuncBox
import Derived.RangeFuncLeaves
import Derived.RangeFuncCalls
import Derived.Shelf.Abstract
import Derived.OwnWalkIn
import Derived.TacticsInMore
import Derived.LoopNIn
import Derived.LoopIn
import Derived.Carry
import Derived.RangeFuncNested
import Derived.Maps.OwnIn
import Derived.Test.YtddmeghbmdfgeaaGreatDoorRows
import Derived.Shelf.SlicesG.Clone
set_option maxRecDepth 100000
set_option maxHeartbeats 8000000
set_option linter.all false
namespace Go.Proofs.YtddmeghbmdfgeaaGreatDoor
open Go.RowKit Go.Sort
theorem fc {w:World}{b:Nat}{c:Array Value}{e:TypeId}{fr:Nat×Nat}(f:Array Value→Array Value)(h:w.heap[b]?=some (.cells c e fr)):(mapBlock w b f).heap[b]?=some (.cells (f c) e fr):=by
 simp[mapBlock,Array.getElem?_modify,h,onCells]
theorem fU {S:Nat→Prop}{w w':World}(ht:Turned S w w'){b:Nat}(hb:b<w.heap.size→S b)(f:Array Value→Array Value):Turned S w (mapBlock w' b f):=
 ⟨ht.os,ht.tape,ht.output,by have:=ht.size;simpa [mapBlock] using this,fun k hk hs=>by
  rw[←Turned.block ht k hk hs]
  have:k≠b:=by rintro rfl;exact hs (hb hk)
  simp[mapBlock,Array.getElem?_modify,Ne.symm this]⟩
def fO (c:Array Value):Nat→List Value→Array Value
 | _,[]=>c
 |o,v::r=>fO (c.setIfInBounds o v) (o+1) r
theorem gh (b:Nat):∀(vs:List Value) (o:Nat) (w:World),w.setCells b o vs=mapBlock w b (fun c=>fO c o vs)
 | [],o,w=>(mapBlock_id w b _ (fun _ _ _ _=>rfl)).symm
 |v::r,o,w=>by
  rw[World.setCells,gh b r,setCell_eq,mapBlock_mapBlock];rfl
theorem eO:∀(vs:List Value) (c:Array Value) (o:Nat),(fO c o vs).size=c.size
 | [],_,_=>rfl
 |v::r,c,o=>by rw[fO,eO r];simp
theorem i9 {α:Type}(A B:List α){n:Nat}(h:A.length=n):(A++B).take n=A:=by rw[←h];simp
theorem Hb {α:Type}(A B:List α){n m:Nat}(h:A.length=n):(A++B).drop (n+m)=B.drop m:=by
 rw[List.drop_append,List.drop_eq_nil_of_le (by omega),List.nil_append,h,Nat.add_sub_cancel_left]
theorem fd:∀(vs:List Value) (c:Array Value) (o:Nat),o+vs.length≤c.size→(fO c o vs).toList=c.toList.take o++vs++c.toList.drop (o+vs.length)
 | [],c,o,_=>by simp[fO]
 |v::r,c,o,h=>by
  simp only[List.length_cons] at h
  have hl:o<c.toList.length:=by simp;omega
  rw[fO,fd r _ _ (by simp;omega),Array.toList_setIfInBounds,List.set_eq_take_append_cons_drop,if_pos hl]
  have h1:(c.toList.take o++ [v]).length=o+1:=by simp;omega
  rw[show c.toList.take o++v::c.toList.drop (o+1)=(c.toList.take o++ [v])++c.toList.drop (o+1) by simp]
  rw[i9 _ _ h1,Hb _ _ h1,List.drop_drop]
  simp
  congr 1
  omega
def RowAt (w:World)(e:TypeId)(xs:List Value)(a:Option Addr)(cap:Nat):Prop :=
 (a=none∧cap=0∧xs= [])∨∃g cur,a=some ⟨g,0,none⟩∧w.heap[g]?=some (.cells cur e (0,0))∧xs.length≤cap∧cap≤maxLen∧cur.size=cap∧cur.toList.take xs.length=xs
def cW (a:Option Addr)(k:Nat):Prop:=a.map (·.block)=some k
namespace RowAt
variable {w w':World}{e:TypeId}{xs:List Value}{a:Option Addr}{cap:Nat}
theorem nil (w:World)(e:TypeId):RowAt w e [] none 0:= .inl ⟨rfl,rfl,rfl⟩
theorem keep (h:RowAt w e xs a cap){S:Nat→Prop}(ht:Turned S w w')(hs:∀k,cW a k→¬S k):RowAt w' e xs a cap:=by
 rcases h with h|⟨g,cur,rfl,hg,rest⟩
 ·exact .inl h
 ·refine .inr ⟨g,cur,rfl,?_,rest⟩
  rw[Turned.block ht g (ac hg) (hs g rfl)];exact hg
theorem lt (h:RowAt w e xs a cap):∀k,cW a k→k<w.heap.size:=by
 rcases h with⟨rfl,_⟩|⟨g,cur,rfl,hg,_⟩
 ·intro k hk;cases hk
 ·intro k hk;cases hk;exact ac hg
theorem of_own {base n:Nat}{v:Value}(h:w.ownsRow base e 1 v n xs):∃a cap,v=.slice a n cap∧RowAt w e xs a cap∧(∀k,cW a k→base≤k)∧xs.length=n:=by
 have hl:xs.length=n:=by have:=h.1;omega
 rcases h.2 with⟨rfl,rfl⟩|⟨g,cap,cur,rfl,hb,hg,hn,hm,hs,ht⟩
 ·exact⟨none,0,rfl,.inl ⟨rfl,rfl,List.length_eq_zero_iff.1 hl⟩,(fun k hk=>by cases hk),hl⟩
 ·exact⟨_,cap,rfl,.inr ⟨g,cur,rfl,hg,by omega,hm,by omega,by rw[hl];simpa using ht⟩,fun k hk=>by cases hk;exact hb,hl⟩
theorem own (h:RowAt w e xs a cap){base:Nat}(hb:∀k,cW a k→base≤k):w.ownsRow base e 1 (.slice a xs.length cap) xs.length xs:=by
 refine⟨by omega,?_⟩
 rcases h with⟨rfl,rfl,rfl⟩|⟨g,cur,rfl,hg,hn,hm,hs,ht⟩
 ·exact .inl ⟨rfl,rfl⟩
 ·exact .inr ⟨g,cap,cur,rfl,hb g rfl,hg,hn,hm,by omega,by simpa using ht⟩
theorem reads (h:RowAt w e xs a cap)(h0:0<xs.length):∃g,a=some ⟨g,0,none⟩∧g<w.heap.size∧(∀j v,xs[j]?=some v→w.cell? ⟨g,j,none⟩=some v)∧∀j,w.frozen? ⟨g,j,none⟩=false:=by
 rcases h with⟨rfl,_,rfl⟩|⟨g,cur,rfl,hg,hn,hm,hs,ht⟩
 ·simp at h0
 ·refine⟨g,rfl,ac hg,fun j v hj=>?_,fun j=>by simp[World.frozen?,hg]⟩
  have hj':j<xs.length:=(List.getElem?_eq_some_iff.1 hj).1
  have e1:cur.toList[j]?=some v:=by
   have:(cur.toList.take xs.length)[j]?=some v:=by rw[ht];exact hj
   rw[List.getElem?_take,if_pos hj'] at this;exact this
  simp[World.cell?,hg]
  simpa using e1
end RowAt
structure jF (w w':World)(e:TypeId)(ys:List Value)(a a':Option Addr)(cap':Nat):Prop where
 row:RowAt w' e ys a' cap'
 turn:Turned (cW a) w w'
 from':∀k,cW a' k→cW a k∨w.heap.size≤k
theorem yG {w:World}{e:TypeId}{xs:List Value}{g i cap:Nat}{cur:Array Value}(x:Value)(hg:w.heap[g]?=some (.cells cur e (0,0)))(hn:xs.length+1≤cap)(hm:cap≤maxLen)(hs:cur.size=cap)(ht:cur.toList.take xs.length=xs)(hi:i≤xs.length):
 jF w ((w.drew.setCells g (0+(i+1)) (xs.drop i)).setCells g (0+i) [x]) e (xs.take i++x::xs.drop i) (some ⟨g,0,none⟩) (some ⟨g,0,none⟩) cap:=by
 rw[Nat.zero_add,Nat.zero_add,gh,gh,mapBlock_mapBlock]
 refine⟨.inr ⟨g,_,rfl,fc _ hg,by simp;omega,hm,by rw[eO,eO];exact hs,?_⟩,fU (S:=cW (some ⟨g,0,none⟩)) ((Turned.refl _ w).drew) (fun _=>rfl) _,fun k hk=> .inl hk⟩
 have hd:(xs.drop i).length=xs.length-i:=by simp
 rw[fd _ _ _ (by rw[eO];simp;omega),fd _ _ _ (by rw[hd];omega)]
 have h1:(cur.toList.take (i+1)).take i=xs.take i:=by
  rw[List.take_take,show min i (i+1)=min i xs.length by omega,←List.take_take,ht]
 have h2:((cur.toList.take (i+1))++xs.drop i++cur.toList.drop (i+1+(xs.drop i).length)).take i=xs.take i:=by
  rw[List.append_assoc,List.take_append_of_le_length (by simp;omega),h1]
 have h3:((cur.toList.take (i+1))++xs.drop i++cur.toList.drop (i+1+(xs.drop i).length)).drop (i+1)=xs.drop i++cur.toList.drop (i+1+(xs.drop i).length):=by
  rw[List.append_assoc,List.drop_append,List.drop_eq_nil_of_le (by simp;omega)]
  have:(cur.toList.take (i+1)).length=i+1:=by simp;omega
  rw[this,Nat.sub_self];simp
 rw[h2,show i+ [x].length=i+1 from rfl,h3]
 rw[←List.append_assoc,show xs.take i++ [x]++xs.drop i=xs.take i++x::xs.drop i by simp]
 exact i9 _ _ rfl
theorem ED {w:World}{e:TypeId}{xs:List Value}{g cap:Nat}{cur:Array Value}(x:Value)(hg:w.heap[g]?=some (.cells cur e (0,0)))(hn:xs.length+1≤cap)(hm:cap≤maxLen)(hs:cur.size=cap)(ht:cur.toList.take xs.length=xs):
 jF w (w.setCells g (0+xs.length) [x]) e (xs.take xs.length++x::xs.drop xs.length) (some ⟨g,0,none⟩) (some ⟨g,0,none⟩) cap:=by
 rw[Nat.zero_add,gh]
 refine⟨.inr ⟨g,_,rfl,fc _ hg,by simp;omega,hm,by rw[eO];exact hs,?_⟩,fU (S:=cW (some ⟨g,0,none⟩)) (Turned.refl _ w) (fun _=>rfl) _,fun k hk=> .inl hk⟩
 rw[fd _ _ _ (by simp;omega),ht,List.take_length,List.drop_length,List.length_append]
 exact i9 (xs++ [x]) _ (by simp)
theorem lK (z:Array Value)(n:Nat):(Builtin.zeroCells z n).size=n * z.size:=by simp[Builtin.zeroCells]
theorem uW {w:World}{e:TypeId}{xs:List Value}{a:Option Addr}{G:Nat}(x z:Value)(hz:z.cells.size=1)(hG:xs.length+1≤G)(hm:G≤maxLen):
 jF w (w.drew.alloc (.cells ((xs++ [x]).toArray++Builtin.zeroCells z.cells (G-(xs.length+1))) e)) e (xs.take xs.length++x::xs.drop xs.length) a (some ⟨w.heap.size,0,none⟩) G:=by
 refine⟨.inr ⟨_,_,rfl,a7 w.drew _,by simp;omega,hm,by simp[lK,hz];omega,?_⟩,((Turned.refl _ w).drew).alloc _,fun k hk=>by cases hk;exact .inr (Nat.le_refl _)⟩
 rw[List.take_length,List.drop_length,List.length_append,Array.toList_append]
 exact i9 (xs++ [x]) _ (by simp)
theorem EE {w:World}{e:TypeId}{xs:List Value}{a:Option Addr}{G i:Nat}(x z:Value)(hz:z.cells.size=1)(hG:xs.length+1≤G)(hm:G≤maxLen)(hi:i≤xs.length):
 jF w (((w.alloc (.cells ((xs.take i).toArray++Builtin.zeroCells z.cells (xs.length+1-i)++Builtin.zeroCells z.cells (G-(xs.length+1))) e)).drew.setCells w.heap.size i [x]).drew.setCells w.heap.size (i+1) (xs.drop i)) e (xs.take i++x::xs.drop i) a (some ⟨w.heap.size,0,none⟩) G:=by
 have hd:(xs.drop i).length=xs.length-i:=by simp
 generalize hc:(xs.take i).toArray++Builtin.zeroCells z.cells (xs.length+1-i)++Builtin.zeroCells z.cells (G-(xs.length+1))=cur
 have hs:cur.size=G:=by rw[←hc];simp[lK,hz];omega
 have ht:cur.toList.take i=xs.take i:=by
  rw[←hc];simp only[Array.toList_append,List.append_assoc]
  have q:(xs.take i).length=i:=by simp;omega
  exact i9 _ _ q
 have e1:∀W:World,(W.drew).heap=W.heap:=fun _=>rfl
 rw[gh,gh]
 have hA:((w.alloc (.cells cur e)).drew).heap[w.heap.size]?=some (.cells cur e (0,0)):=a7 w _
 have hB:=fc (fun c=>fO c i [x]) hA
 have hC:((mapBlock (w.alloc (.cells cur e)).drew w.heap.size fun c=>fO c i [x]).drew).heap[w.heap.size]?=some (.cells (fO cur i [x]) e (0,0)):=hB
 refine⟨.inr ⟨_,_,rfl,fc _ hC,by simp;omega,hm,by rw[eO,eO];exact hs,?_⟩,?_,fun k hk=>by cases hk;exact .inr (Nat.le_refl _)⟩
 ·rw[fd _ _ _ (by rw[eO,hd];omega),fd _ _ _ (by simp;omega),ht]
  rw[show i+ [x].length=i+1 from rfl]
  have h1:(xs.take i++ [x]++cur.toList.drop (i+1)).take (i+1)=xs.take i++ [x]:=i9 _ _ (by simp;omega)
  rw[h1]
  rw[show xs.take i++ [x]++xs.drop i=xs.take i++x::xs.drop i by simp]
  exact i9 _ _ rfl
 ·refine fU (Turned.drew (fU (((Turned.refl _ w).alloc _).drew) ?_ _)) ?_ _
  ·intro q;omega
  ·intro q;omega
theorem vr {w:World}{e:TypeId}{xs:List Value}{g cap i:Nat}(x:Value)(h:RowAt w e xs (some ⟨g,0,none⟩) cap)(hi:i<xs.length):RowAt (w.setCell ⟨g,i,none⟩ x) e (xs.set i x) (some ⟨g,0,none⟩) cap:=by
 rcases h with⟨h,_⟩|⟨g',cur,h,hg,hn,hm,hs,ht⟩
 ·cases h
 ·cases h
  rw[setCell_eq]
  refine .inr ⟨g,_,rfl,fc _ hg,by simpa using hn,hm,by simpa using hs,?_⟩
  rw[Array.toList_setIfInBounds,List.length_set,List.take_set,ht]
open Go.Shelf
theorem jF.low {W w w':World}{e:TypeId}{ys:List Value}{a a':Option Addr}{cap':Nat}(h:jF W w' e ys a a' cap')(hW:ae w W)(ha:∀k,cW a k→k<w.heap.size):jF w w' e ys a a' cap' :=
 ⟨h.row,(Turned.mono hW (fun _ _ q=>q.elim)).trans h.turn,fun k hk=>(h.from' k hk).imp id (fun q=>Nat.le_trans hW.size q)⟩
theorem J3 {x v:Value}{j:Nat}(h:([x]:List Value)[j]?=some v):j=0∧v=x:=by
 cases j with
 |zero=>exact⟨rfl,by simpa using h.symm⟩
 |succ j=>simp at h
theorem MD (zs:List Int)(k:Int)(a:Option Addr)(cap:Nat)(w:World)(h:RowAt w 3 (zs.map (Value.int .i64)) a cap)(hs:zs.Pairwise (· ≤ ·))(hl:zs.length≤1000000):
 Calls Tryz.prog 121 #[.slice a zs.length cap,.int .i64 k] w fun e w'=>e=.returned (.tuple #[.int .i64 (zs.countP (· <k):Nat),.bool (zs.contains k)])∧∃q,w'=w.drewN q:=by
 by_cases h0:zs.length=0
 ·obtain rfl:zs= []:=List.length_eq_zero_iff.1 h0
  clear h h0 hs hl
  have E:∃q,w.drewN 1=w.drewN q:=⟨_,rfl⟩
  go_enter Tryz.func121,Tryz.ntmps121
  go_wp2_with fail
  go_loop [7,8] (fun i j=>i=.int .i64 0∧j=.int .i64 0) (fun _ _=>0)
  case atStart=>exact⟨rfl,rfl⟩
  case round =>
   obtain⟨rfl,rfl⟩:=hrel
   go_wp2_with fail
   all_goals first|(go_quiet (fail);go_wp2_with fail)|skip
   all_goals go_ret2
   all_goals exact⟨rfl,0,rfl⟩
 ·obtain⟨g,rfl,hg,hc,hf⟩:=h.reads (by simp;omega)
  have:=AnyG.slices_BinarySearch_int Tryz.lSearch g 0 zs.length cap zs k w (Nat.le_refl _) (by omega) (fun j hj=>by rw[Nat.zero_add];exact hc j _ (by rw[List.getElem?_map,List.getElem?_eq_getElem hj];simp[List.getD,hj])) (by rw[List.take_length];exact hs)
  rw[List.take_length] at this
  exact this
section
theorem Dn (xs:List Int):∀v∈xs.map (Value.int .i64),v.oneCell'=true:=by
 intro v hv
 obtain⟨x,_,rfl⟩:=List.mem_map.1 hv
 rfl
theorem Dp (xs:List Int)(i:Nat)(hi:i≤xs.length)(hl:xs.length≤1000000)(y:Int)(a:Option Addr)(cap:Nat)(w:World)(h:RowAt w 3 (xs.map (Value.int .i64)) a cap):
 Calls Tryz.prog 151 #[.slice a xs.length cap,.int .i64 i,.slice (some ⟨w.heap.size,0,none⟩) 1 1] (w.alloc (.cells #[Value.int .i64 y] 3))
  fun e w'=>∃a' cap',e=.returned (.slice a' (xs.length+1) cap')∧jF w w' 3 ((xs.map (Value.int .i64)).take i++Value.int .i64 y::(xs.map (Value.int .i64)).drop i) a a' cap':=by
 have hM:ae w (w.alloc (.cells #[Value.int .i64 y] 3)):=(ae.refl w).alloc _
 have hN:(w.alloc (.cells #[Value.int .i64 y] 3)).heap[w.heap.size]?=some (.cells #[Value.int .i64 y] 3 (0,0)):=a7 w _
 have hlt:=h.lt
 have h:=h.keep hM (fun _ _ q=>q)
 have hsz:w.heap.size<(w.alloc (.cells #[Value.int .i64 y] 3)).heap.size:=by simp
 generalize w.alloc (.cells #[Value.int .i64 y] 3)=W at h hM hN hsz⊢
 have hlen:(xs.map (Value.int .i64)).length=xs.length:=by simp
 have hvs:∀j v,([Value.int .i64 y]:List Value)[j]?=some v→W.cell? ⟨w.heap.size,0+j,none⟩=some v:=fun j v hj=>by
  obtain⟨rfl,rfl⟩:=J3 hj
  simp[World.cell?,hN]
 have h1c:=Dn xs
 have h1v:∀v∈([Value.int .i64 y]:List Value),v.oneCell'=true:=by intro v hv;simp at hv;subst hv;rfl
 have hz:(Value.int .i64 0).cells.size=1:=rfl
 have hfa:W.frozen? ⟨w.heap.size,0,none⟩=false:=by simp[World.frozen?,hN]
 have hfe:W.frozen? ⟨w.heap.size,1,none⟩=false:=by simp[World.frozen?,hN]
 have hsa:W.shape? w.heap.size=some (3,1):=by simp[World.shape?,hN]
 have hG:∀c,xs.length+1≤grownCap W (xs.length+1) c 3:=fun c=>grownCap_ge W _ _ _
 have hGm:∀c,grownCap W (xs.length+1) c 3≤maxLen:=fun c=>grownCap_le_maxLen W _ c _ (by unfold maxLen;omega)
 by_cases hroom:xs.length+1≤cap
 ·rcases h with⟨rfl,rfl,hx⟩|⟨g,cur,rfl,hg,hn,hm,hs,ht⟩
  ·omega
  rw[hlen] at hn
  have hgw:=hlt g rfl
  have hgc:∀j,j<cap→W.cell? ⟨g,0+j,none⟩=cur[j]? :=fun j hj=>by simp[World.cell?,hg]
  have hgf:∀j,W.frozen? ⟨g,j,none⟩=false:=fun j=>by simp[World.frozen?,hg]
  have hcs:∀j v,(xs.map (Value.int .i64))[j]?=some v→W.cell? ⟨g,0+j,none⟩=some v:=fun j v hj=>by
   have hj':j<xs.length:=by have:=(List.getElem?_eq_some_iff.1 hj).1;omega
   rw[hgc j (by omega),←Array.getElem?_toList]
   rw[←ht,List.getElem?_take,if_pos (by omega)] at hj
   exact hj
  by_cases hin:i<xs.length
  ·refine(Any2.slices_Insert_int_shift Tryz.lInsI g 0 xs.length cap i w.heap.size 0 1 1 (xs.map (Value.int .i64)) [Value.int .i64 y] W hin (by omega) hroom (by unfold maxLen at hm;omega) (by omega) hlen rfl hcs
    (fun j hj=>by rw[hgc j (by omega),Array.getElem?_eq_getElem (by omega)];rfl) (fun j _=>hgf _) hvs h1c h1v _ 3 1 cap hsa (by simp[World.shape?,hg,hs]) (by omega) hfa hfe).mono ?_
   rintro e w' ⟨rfl,rfl⟩
   exact⟨_,_,rfl,(yG _ hg (by rw[hlen];exact hroom) hm hs ht (by omega)).low hM hlt⟩
  ·obtain rfl:i=xs.length:=by omega
   refine(Any2.slices_Insert_int_end_room Tryz.lInsI g 0 xs.length cap w.heap.size 0 1 1 [Value.int .i64 y] W (by omega) hroom (by unfold maxLen at hm;omega) rfl
    (fun j hj=>by rw[Nat.zero_add,←Nat.zero_add (xs.length+j),hgc _ (by omega),Array.getElem?_eq_getElem (by omega)];rfl) (fun j _=>hgf _) hvs h1v).mono ?_
   rintro e w' ⟨rfl,rfl⟩
   have:=ED (Value.int .i64 y) hg (by rw[hlen];exact hroom) hm hs ht
   rw[hlen] at this
   exact⟨_,_,rfl,this.low hM hlt⟩
 ·have hcap:xs.length≤cap:=by
   rcases h with⟨rfl,rfl,hx⟩|⟨g,cur,rfl,hg,hn,_⟩
   ·have:=congrArg List.length hx;simp at this;simp[this]
   ·omega
  have hbig:(xs.length+1) * 8≤140737488355328:=by omega
  by_cases hin:i<xs.length
  ·rcases h with⟨rfl,rfl,hx⟩|⟨g,cur,rfl,hg,hn,hm,hs,ht⟩
   ·have:=congrArg List.length hx;simp at this;subst this;simp at hin
   have hcs:∀j v,(xs.map (Value.int .i64))[j]?=some v→W.cell? ⟨g,0+j,none⟩=some v:=fun j v hj=>by
    have hj':j<xs.length:=by have:=(List.getElem?_eq_some_iff.1 hj).1;omega
    rw[←ht,List.getElem?_take,if_pos (by omega)] at hj
    simp[World.cell?,hg]
    simpa using hj
   refine(Any2.slices_Insert_int_grow Tryz.lInsI g 0 xs.length cap i w.heap.size 0 1 1 (xs.map (Value.int .i64)) [Value.int .i64 y] W hin (by omega) hcap (by omega) hbig hlen rfl hcs hvs h1c h1v).mono ?_
   rintro e w' ⟨rfl,rfl⟩
   have:=EE (w:=W) (e:=3) (xs:=xs.map (Value.int .i64)) (a:=some ⟨g,0,none⟩) (i:=i) (Value.int .i64 y) (Value.int .i64 0) hz (by rw[hlen];exact hG cap) (hGm cap) (by omega)
   rw[hlen] at this
   exact⟨_,_,rfl,this.low hM hlt⟩
  ·obtain rfl:i=xs.length:=by omega
   refine(Any2.slices_Insert_int_end_grow Tryz.lInsI a xs.length cap w.heap.size 0 1 1 (xs.map (Value.int .i64)) [Value.int .i64 y] W (by omega) hcap (by omega) hbig hlen rfl
    (fun ha=>by
     rcases h with⟨_,_,hx⟩|⟨g,cur,hh,_⟩
     ·have:=congrArg List.length hx;simpa using this
     ·rw[ha] at hh;cases hh)
    (fun b hb j v hj=>by
     have hj':j<xs.length:=by have:=(List.getElem?_eq_some_iff.1 hj).1;omega
     rcases h with⟨hh,_⟩|⟨g,cur,hh,hg,hn,hm,hs,ht⟩
     ·rw[hb] at hh;cases hh
     ·rw[hb] at hh;cases hh
      rw[←ht,List.getElem?_take,if_pos (by omega)] at hj
      rw[Addr.add_lit]
      simp[World.cell?,hg]
      simpa using hj) hvs h1v).mono ?_
   rintro e w' ⟨rfl,rfl⟩
   have:=uW (w:=W) (e:=3) (xs:=xs.map (Value.int .i64)) (a:=a) (Value.int .i64 y) (Value.int .i64 0) hz (by rw[hlen];exact hG cap) (hGm cap)
   rw[hlen] at this
   exact⟨_,_,rfl,this.low hM hlt⟩
theorem Hc:∃i:TypeInfo,Tryz.prog.info? 3=some i∧i.zero=some (Value.int .i64 0)∧i.size=1∧i.bytes=8:=by
 have h1:(Tryz.prog.info? 3).map (·.size)=some 1:=by kernel_rfl
 have h2:(Tryz.prog.info? 3).bind (·.zero)=some (Value.int .i64 0):=by kernel_rfl
 have h3:(Tryz.prog.info? 3).map (·.bytes)=some 8:=by kernel_rfl
 cases q:Tryz.prog.info? 3 with
 |none=>rw[q] at h1;simp at h1
 |some i=>rw[q] at h1 h2 h3;exact⟨i,rfl,by simpa using h2,by simpa using h1,by simpa using h3⟩
theorem vt (xs:List Int)(hl:xs.length≤1000000)(a:Option Addr)(cap:Nat)(w:World)(h:RowAt w 3 (xs.map (Value.int .i64)) a cap):
 Calls Tryz.prog 41 #[.slice a xs.length cap] w
  fun e w'=>∃a' cap',e=.returned (.slice a' xs.length cap')∧RowAt w' 3 (xs.map (Value.int .i64)) a' cap'∧ae w w'∧∀k,cW a' k→w.heap.size≤k:=by
 have hlen:(xs.map (Value.int .i64)).length=xs.length:=by simp
 rcases h with⟨rfl,rfl,hx⟩|⟨g,cur,rfl,hg,hn,hm,hs,ht⟩
 ·have h0:xs= []:=by simpa using hx
  subst h0
  refine(AnyE.slices_Clone_nil { Tryz.lCloneI with } 0 0 w).mono ?_
  rintro e w' ⟨rfl,rfl⟩
  exact⟨_,_,rfl,RowAt.nil _ _,ae.refl _,fun k hk=>by cases hk⟩
 ·obtain⟨i0,hi0,hz0,hz1,hz2⟩:=Hc
  refine(AnyE.slices_Clone { Tryz.lCloneI with } i0 (Value.int .i64 0) 1 8 hi0 hz0 hz1 hz2 rfl (by omega) Tryz.sizeOf3 g 0 xs.length cap (xs.map (Value.int .i64)) w (by omega) (by unfold maxLen;omega) (by omega)
   (fun j v hj=>by
    have hj':j<xs.length:=by have:=(List.getElem?_eq_some_iff.1 hj).1;omega
    rw[←ht,List.getElem?_take,if_pos (by omega)] at hj
    simp[World.cell?,hg]
    simpa using hj) (Dn xs)).mono ?_
  rintro e w' ⟨v',rfl,hown,_,hB⟩
  obtain⟨a',cap',rfl,hr,hb,_⟩:=RowAt.of_own hown
  exact⟨_,_,rfl,hr,⟨hB.os,hB.tape,hB.output,hB.size,fun k hk _=>hB.block k hk⟩,hb⟩
end
abbrev KV:=Int×Int
def fQ (D:List KV):List Int:=D.map (·.1)
def ja (D:List KV):List Int:=D.map (·.2)
def Asc (D:List KV):Prop:=D.Pairwise (fun a b=>a.1<b.1)
def look (D:List KV)(k:Int):Option Int:=(D.find? (fun p=>p.1==k)).map (·.2)
def pos (D:List KV)(k:Int):Nat:=D.countP (fun p=>decide (p.1<k))
def less (D:List KV)(k:Int):List KV:=D.filter (fun p=>decide (p.1<k))
def more (D:List KV)(k:Int):List KV:=D.filter (fun p=>decide (k<p.1))
def iC (D:List KV)(k:Int)(v:Int):List KV:=less D k++(k,v)::more D k
def OF (D:List KV)(k:Int):List KV:=D.filter (fun p=>decide (p.1≠k))
theorem Dq:Asc []:=List.Pairwise.nil
@[simp] theorem Hd (k:Int):look [] k=none:=rfl
theorem gi (p:KV)(D:List KV)(k:Int):look (p::D) k=if p.1=k then some p.2 else look D k:=by
 unfold look
 rw[List.find?_cons]
 by_cases h:p.1=k
 ·simp[h]
 ·have:(p.1==k)=false:=by simpa using h
  simp[this,h]
theorem lL (A B:List KV)(k:Int):look (A++B) k=(look A k).or (look B k):=by
 induction A with
 |nil=>simp
 |cons p A ih=>rw[List.cons_append,gi,gi];split<;>simp[ih]
theorem vu {D:List KV}{k:Int}(h:∀p∈D,p.1≠k):look D k=none:=by
 induction D with
 |nil=>rfl
 |cons p D ih=>rw[gi,if_neg (h p (by simp))];exact ih fun q hq=>h q (by simp[hq])
theorem ie {D:List KV}{k:Int} :look D k=none↔∀p∈D,p.1≠k:=by
 refine⟨fun h=>?_,vu⟩
 induction D with
 |nil=>simp
 |cons p D ih =>
  rw[gi] at h
  split at h
  ·cases h
  ·intro q hq
   rcases List.mem_cons.1 hq with rfl|hq
   ·assumption
   ·exact ih h q hq
theorem pc {D:List KV}{k:Int}{v:Int}(h:look D k=some v):(k,v)∈D:=by
 induction D with
 |nil=>cases h
 |cons p D ih =>
  rw[gi] at h
  split at h
  ·rename_i e
   subst e;cases h;simp
  ·exact List.mem_cons_of_mem _ (ih h)
theorem Asc.part {D:List KV}(h:Asc D)(k:Int):∃A B,D=A++B∧A.length=pos D k∧(∀p∈A,p.1<k)∧(∀p∈B,k≤p.1):=by
 induction D with
 |nil=>exact⟨[],[],rfl,rfl,by simp,by simp⟩
 |cons p D ih =>
  have hc:=List.pairwise_cons.1 h
  by_cases hp:p.1<k
  ·obtain⟨A,B,e,hl,ha,hb⟩:=ih hc.2
   refine⟨p::A,B,by rw[e];rfl,?_,?_,hb⟩
   ·simp[pos,List.countP_cons,hp] at hl⊢;exact hl
   ·intro q hq
    rcases List.mem_cons.1 hq with rfl|hq
    ·exact hp
    ·exact ha q hq
  ·refine⟨[],p::D,rfl,?_,by simp,?_⟩
   ·unfold pos
    rw[List.length_nil,eq_comm,List.countP_eq_zero]
    intro q hq
    rcases List.mem_cons.1 hq with rfl|hq
    ·simpa using hp
    ·have:=hc.1 q hq;simp;omega
   ·intro q hq
    rcases List.mem_cons.1 hq with rfl|hq
    ·omega
    ·have:=hc.1 q hq;omega
theorem Asc.without {D:List KV}(h:Asc D){k:Int}(hk:look D k=none):∃A B,D=A++B∧A.length=pos D k∧(∀p∈A,p.1<k)∧(∀p∈B,k<p.1):=by
 obtain⟨A,B,e,hl,ha,hb⟩:=h.part k
 refine⟨A,B,e,hl,ha,fun p hp=>?_⟩
 have h1:=hb p hp
 have h2:=ie.1 hk p (by rw[e];simp[hp])
 omega
theorem Asc.with {D:List KV}(h:Asc D){k:Int}{v:Int}(hk:look D k=some v):∃A B,D=A++(k,v)::B∧A.length=pos D k∧(∀p∈A,p.1<k)∧(∀p∈B,k<p.1):=by
 obtain⟨A,B,e,hl,ha,hb⟩:=h.part k
 have hm:(k,v)∈B:=by
  have:=pc hk
  rw[e,List.mem_append] at this
  rcases this with q|q
  ·have:=ha _ q;simp at this
  ·exact q
 have hB:Asc B:=by unfold Asc at h;rw[e,List.pairwise_append] at h;exact h.2.1
 match B,hB,hm,hb,e with
 |p::B,hB,hm,hb,e =>
  have hc:=List.pairwise_cons.1 hB
  have hp:p=(k,v):=by
   rcases List.mem_cons.1 hm with q|q
   ·exact q.symm
   ·have h1:=hc.1 _ q
    have h2:=hb p (by simp)
    simp at h1
    omega
  subst hp
  exact⟨A,B,e,hl,ha,fun q hq=>hc.1 q hq⟩
theorem kI {D:List KV}{f:KV→Bool}(h:∀p∈D,f p=true):D.filter f=D:=List.filter_eq_self.2 h
theorem qV {D:List KV}{f:KV→Bool}(h:∀p∈D,f p=false):D.filter f= []:=List.filter_eq_nil_iff.2 fun p hp=>by rw[h p hp];simp
theorem sC {A B:List KV}{k:Int}(ha:∀p∈A,p.1<k)(hb:∀p∈B,k≤p.1):less (A++B) k=A:=by
 unfold less
 rw[List.filter_append,kI (fun p hp=>by simpa using ha p hp),qV (fun p hp=>by have:=hb p hp;simp;omega),List.append_nil]
theorem sD {A B:List KV}{k:Int}(ha:∀p∈A,p.1≤k)(hb:∀p∈B,k<p.1):more (A++B) k=B:=by
 unfold more
 rw[List.filter_append,qV (D:=A) (fun p hp=>by have:=ha p hp;simp;omega),kI (D:=B) (fun p hp=>by simpa using hb p hp),List.nil_append]
theorem sE {A B:List KV}{k:Int}(ha:∀p∈A,p.1<k)(hb:∀p∈B,k<p.1)(v:Int):iC (A++B) k v=A++(k,v)::B:=by
 unfold iC
 rw[sC ha (fun p hp=>by have:=hb p hp;omega),sD (fun p hp=>by have:=ha p hp;omega) hb]
theorem sG {A B:List KV}{k:Int}{u:Int}(ha:∀p∈A,p.1<k)(hb:∀p∈B,k<p.1)(v:Int):iC (A++(k,u)::B) k v=A++(k,v)::B:=by
 unfold iC
 rw[sC ha (fun p hp=>by rcases List.mem_cons.1 hp with rfl|q; · exact Int.le_refl _
                        ·have:=hb p q;omega)]
 rw[show A++(k,u)::B=(A++ [(k,u)])++B by simp,sD (fun p hp=>by
  rcases List.mem_append.1 hp with q|q
  ·have:=ha p q;omega
  ·simp at q;rw[q];exact Int.le_refl _) hb]
theorem OG {A B:List KV}{k:Int}{u:Int}(ha:∀p∈A,p.1<k)(hb:∀p∈B,k<p.1):OF (A++(k,u)::B) k=A++B:=by
 unfold OF
 rw[List.filter_append,List.filter_cons,if_neg (by simp),kI (fun p hp=>by have:=ha p hp;simp;omega),kI (fun p hp=>by have:=hb p hp;simp;omega)]
theorem J4 {A B:List KV}(hA:Asc A)(hB:Asc B){k:Int}(ha:∀p∈A,p.1<k)(hb:∀p∈B,k<p.1)(v:Int):Asc (A++(k,v)::B):=by
 unfold Asc at *
 rw[List.pairwise_append,List.pairwise_cons]
 refine⟨hA,⟨fun p hp=>hb p hp,hB⟩,fun p hp q hq=>?_⟩
 rcases List.mem_cons.1 hq with rfl|hq
 ·exact ha p hp
 ·have h1:=ha p hp;have h2:=hb q hq;omega
theorem sH {D:List KV}(h:Asc D)(f:KV→Bool):Asc (D.filter f):=List.Pairwise.filter f h
theorem sI {D:List KV}(h:Asc D)(k:Int)(v:Int):Asc (iC D k v):=
 J4 (sH h _) (sH h _) (fun p hp=>by simpa using (List.mem_filter.1 hp).2) (fun p hp=>by simpa using (List.mem_filter.1 hp).2) v
theorem yH {D:List KV}(h:Asc D)(k:Int)(v:Int):(iC D k v).length=if(look D k).isSome then D.length else D.length+1:=by
 cases hk:look D k with
 |none =>
  obtain⟨A,B,rfl,_,ha,hb⟩:=h.without hk
  rw[sE ha hb];simp;omega
 |some u =>
  obtain⟨A,B,rfl,_,ha,hb⟩:=h.with hk
  rw[sG ha hb];simp
theorem sJ {A B:List KV}{k:Int}(ha:∀p∈A,p.1<k)(v:Int)(x:Int):look (A++(k,v)::B) x=if x=k then some v else(look A x).or (look B x):=by
 rw[lL,gi]
 by_cases hx:x=k
 ·subst hx
  rw[vu (fun p hp=>by have:=ha p hp;omega)];simp
 ·rw[if_neg (fun q=>hx q.symm),if_neg hx]
theorem qj {D:List KV}(h:Asc D)(k:Int)(v:Int)(x:Int):look (iC D k v) x=if x=k then some v else look D x:=by
 cases hk:look D k with
 |none =>
  obtain⟨A,B,rfl,_,ha,hb⟩:=h.without hk
  rw[sE ha hb,sJ ha,lL]
 |some u =>
  obtain⟨A,B,rfl,_,ha,hb⟩:=h.with hk
  rw[sG ha hb,sJ ha,sJ ha];split<;>rfl
def cG (D:List KV):List Value:=(fQ D).map (Value.int .i64)
def cH (D:List KV):List Value:=(ja D).map (Value.int .i64)
theorem fW (D:List KV):(fQ D).length=D.length:=by simp[fQ]
theorem jb (D:List KV):(ja D).length=D.length:=by simp[ja]
theorem wY (D:List KV):(cG D).length=D.length:=by simp[cG,fQ]
theorem iQ (D:List KV):(cH D).length=D.length:=by simp[cH,ja]
structure fl (w:World)(F:Nat→Prop)(p:Nat)(D:List KV):Prop where
 asc:Asc D
 small:D.length≤100000
 lt:∀k,F k→k<w.heap.size
 ex:∃ka kc va vc,w.heap[p]?=some (.cells #[.slice ka D.length kc,.slice va D.length vc] 142 (0,0))∧RowAt w 3 (cG D) ka kc∧RowAt w 3 (cH D) va vc∧F p ∧
  (∀k,cW ka k→F k∧k≠p)∧(∀k,cW va k→F k∧k≠p∧¬cW ka k)
theorem fl.keep {w w':World}{F S:Nat→Prop}{p:Nat}{D:List KV}(h:fl w F p D)(ht:Turned S w w')(hs:∀k,F k→¬S k):fl w' F p D:=by
 obtain⟨ka,kc,va,vc,hp,hk,hv,fp,fk,fv⟩:=h.ex
 exact⟨h.asc,h.small,fun k hk=>Nat.lt_of_lt_of_le (h.lt k hk) ht.size,ka,kc,va,vc,by rw[Turned.block ht p (ac hp) (hs p fp)];exact hp,
  hk.keep ht (fun k q=>hs k (fk k q).1),hv.keep ht (fun k q=>hs k (fv k q).1),fp,fk,fv⟩
theorem fl.more {w w':World}{F:Nat→Prop}{p:Nat}{D:List KV}(h:fl w F p D)(ht:ae w w'):fl w' F p D:=h.keep ht (fun _ _ q=>q)
theorem fX (w:World)(q:Nat):ae w (w.drewN q):=(ae.refl w).drewN q
theorem yI {D:List KV}(h:Asc D):(fQ D).Pairwise (· ≤ ·):=by
 unfold fQ Asc at *
 rw[List.pairwise_map]
 exact h.imp (fun {a b} q=>by omega)
theorem Bc (D:List KV)(k:Int):(fQ D).countP (· <k)=pos D k:=by
 unfold fQ pos
 rw[List.countP_map];rfl
theorem He (D:List KV)(k:Int):(fQ D).contains k=(look D k).isSome:=by
 rw[Bool.eq_iff_iff]
 rw[List.contains_iff_mem]
 unfold fQ
 rw[List.mem_map]
 constructor
 ·rintro⟨p,hp,rfl⟩
  cases e:look D p.1 with
  |some v=>rfl
  |none=>exact absurd rfl (ie.1 e p hp)
 ·intro h
  cases e:look D k with
  |none=>rw[e] at h;cases h
  |some v=>exact⟨_,pc e,rfl⟩
theorem ig {w:World}{p:Nat}{a b:Value}{T:TypeId}(h:w.heap[p]?=some (.cells #[a,b] T (0,0))):w.cell? ⟨p,0,none⟩=some a∧w.cell? ⟨p,1,none⟩=some b∧(∀j,w.frozen? ⟨p,j,none⟩=false)∧p<w.heap.size :=
 ⟨by simp[World.cell?,h],by simp[World.cell?,h],fun j=>by simp[World.frozen?,h],ac h⟩
theorem ol {w:World}{D:List KV}(hD:Asc D)(hs:D.length≤100000)(k:Int){ka:Option Addr}{kc:Nat}(hk:RowAt w 3 (cG D) ka kc):
 Calls Tryz.prog 121 #[.slice ka D.length kc,.int .i64 k] w fun e w'=>e=.returned (.tuple #[.int .i64 (pos D k:Nat),.bool (look D k).isSome])∧∃q,w'=w.drewN q:=by
 have S:=MD (fQ D) k ka kc w hk (yI hD) (by rw[fW];omega)
 rw[fW,Bc,He] at S
 exact S
theorem J5 (F:Nat→Prop)(p:Nat)(D:List KV)(k:Int)(w:World)(h:fl w F p D):
 Calls Tryz.prog 95 #[.pointer (some ⟨p,0,none⟩),.int .i64 k] w fun e w'=>e=.returned (.tuple #[.int .i64 (pos D k:Nat),.bool (look D k).isSome])∧∃q,w'=w.drewN q:=by
 obtain⟨ka,kc,va,vc,hp,hk,hv,_⟩:=h.ex
 obtain⟨c0,c1,f0,hlt⟩:=ig hp
 have C:=hQQ (ol h.asc h.small k hk)
 clear h hp hk hv
 generalize pos D k=i at C⊢
 generalize (look D k).isSome=b at C⊢
 generalize D.length=n at c0 c1 C
 go_enter Tryz.func95,Tryz.ntmps95
 go_wp2_with (go_at_call 121;refine C.o.mono ?_;rintro e w' ⟨rfl,q,rfl⟩)
 go_ret2
 exact⟨rfl,q,rfl⟩
theorem Hf (F:Nat→Prop)(p:Nat)(D:List KV)(w:World)(h:fl w F p D):
 Calls Tryz.prog 126 #[.pointer (some ⟨p,0,none⟩)] w fun e w'=>e=.returned (.int .i64 D.length)∧w'=w:=by
 obtain⟨ka,kc,va,vc,hp,hk,hv,_⟩:=h.ex
 obtain⟨c0,c1,f0,hlt⟩:=ig hp
 clear h hp hk hv
 generalize D.length=n at c0 c1⊢
 go_enter Tryz.func126,Tryz.ntmps126
 go_wp2_with fail
 go_ret
 exact⟨rfl,rfl⟩
theorem Bd (F:Nat→Prop)(p:Nat)(D:List KV)(k:Int)(w:World)(h:fl w F p D):
 Calls Tryz.prog 60 #[.pointer (some ⟨p,0,none⟩),.int .i64 k] w fun e w'=>e=.returned (.tuple #[.int .i64 ((look D k).getD 0),.bool (look D k).isSome])∧∃q,w'=w.drewN q:=by
 have C:=hQQ (J5 F p D k w h)
 have hasc:=h.asc
 obtain⟨ka,kc,va,vc,hp,hk,hv,_⟩:=h.ex
 obtain⟨c0,c1,f0,hlt⟩:=ig hp
 cases e:look D k with
 |none =>
  rw[e] at C
  clear h hp hk hv e hasc
  generalize D.length=n at c0 c1
  go_enter Tryz.func60,Tryz.ntmps60
  go_wp2_with (go_at_call 95;refine C.o.mono ?_;rintro e w' ⟨rfl,q,rfl⟩)
  go_ret2
  exact⟨rfl,q,rfl⟩
 |some v =>
  rw[e] at C
  obtain⟨A,B,hD,hl,_⟩:=hasc.with e
  have hi:pos D k<D.length:=by rw[←hl,hD];simp
  obtain⟨g,rfl,hg,hc,hf⟩:=hv.reads (by rw[iQ];omega)
  have cv:w.cell? ⟨g,pos D k,none⟩=some (.int .i64 v):=hc _ _ (by rw[←hl];unfold cH ja;rw[hD];simp)
  clear h hp hk hv e hasc hc hD hl
  generalize pos D k=i at C cv hi
  generalize D.length=n at c0 c1 hi
  go_enter Tryz.func60,Tryz.ntmps60
  go_wp2_with (go_at_call 95;refine C.o.mono ?_;rintro e w' ⟨rfl,q,rfl⟩)
  go_ret2
  exact⟨rfl,q,rfl⟩
theorem OH (F:Nat→Prop)(p:Nat)(D:List KV)(i:Nat)(q:KV)(w:World)(h:fl w F p D)(hq:D[i]?=some q):
 Calls Tryz.prog 127 #[.pointer (some ⟨p,0,none⟩),.int .i64 i] w fun e w'=>e=.returned (.tuple #[.int .i64 q.1,.int .i64 q.2,.bool true])∧∃n,w'=w.drewN n:=by
 have C:=hQQ (Hf F p D w h)
 have hi:i<D.length:=(List.getElem?_eq_some_iff.1 hq).1
 obtain⟨ka,kc,va,vc,hp,hk,hv,_⟩:=h.ex
 obtain⟨c0,c1,f0,hlt⟩:=ig hp
 obtain⟨g,rfl,hg,hc,hf⟩:=hv.reads (by rw[iQ];omega)
 obtain⟨g2,rfl,hg2,hc2,hf2⟩:=hk.reads (by rw[wY];omega)
 have cv:w.cell? ⟨g,i,none⟩=some (.int .i64 q.2):=hc _ _ (by unfold cH ja;simp[hq])
 have ck:w.cell? ⟨g2,i,none⟩=some (.int .i64 q.1):=hc2 _ _ (by unfold cG fQ;simp[hq])
 have hs:=h.small
 clear h hp hk hv hc hc2 hq
 have d1:decide ((i:Int)<0)=false:=by simp
 have d2:decide ((D.length:Int)≤(i:Int))=false:=by simp;omega
 generalize D.length=n at c0 c1 hi C hs d2
 obtain⟨qk,qv⟩:=q
 simp only at cv ck⊢
 go_enter Tryz.func127,Tryz.ntmps127
 go_wp2_with (go_at_call 126;refine C.o.mono ?_;rintro e w' ⟨rfl,rfl⟩)
 go_quiet (fail)
 go_wp2_with fail
 go_ret3
 exact⟨rfl,_,rfl⟩
def rR (w:World)(D:List KV)(e:Ending)(w':World):Prop:=∃F p,e=.returned (.pointer (some ⟨p,0,none⟩))∧fl w' F p D∧ae w w'∧∀k,F k→w.heap.size≤k
def sK (w:World)(F:Nat→Prop)(p:Nat)(D:List KV)(v:Value)(e:Ending)(w':World):Prop :=
 e=.returned v∧∃F',fl w' F' p D∧Turned F w w'∧∀k,F' k→F k∨w.heap.size≤k
theorem bo {w:World}{b o:Nat}{c:Array Value}{e:TypeId}{fr:Nat×Nat}(x:Value)(h:w.heap[b]?=some (.cells c e fr)):(w.setCell ⟨b,o,none⟩ x).heap[b]?=some (.cells (c.setIfInBounds o x) e fr):=by
 rw[setCell_eq];exact fc _ h
theorem bz {S:Nat→Prop}{w w':World}(ht:Turned S w w'){b o:Nat}(hb:b<w.heap.size→S b)(x:Value):Turned S w (w'.setCell ⟨b,o,none⟩ x):=ht.setCell _ _ hb
theorem Hg (w:World):Calls Tryz.prog 76 #[] w (rR w []):=by
 have hh:=a7 w (.cells #[.slice none 0 0,.slice none 0 0] 142)
 have fin:rR w [] (.returned (.pointer (some ⟨w.heap.size,0,none⟩))) (w.alloc (.cells #[.slice none 0 0,.slice none 0 0] 142)):=by
  refine⟨fun k=>k=w.heap.size,w.heap.size,rfl,⟨Dq,by simp,fun k hk=>by subst hk;simp,none,0,none,0,hh,RowAt.nil _ _,RowAt.nil _ _,rfl,(fun k hk=>by cases hk),(fun k hk=>by cases hk)⟩,(ae.refl w).alloc _,fun k hk=>by omega⟩
 go_enter Tryz.func76,Tryz.ntmps76
 go_wp2_with fail
 go_ret
 exact fin
theorem Hh {w:World}{D:List KV}(hs:D.length≤100000){i:Nat}(hi:i≤D.length)(k:Int){a:Option Addr}{cap:Nat}(h:RowAt w 3 (cG D) a cap):
 Calls Tryz.prog 151 #[.slice a D.length cap,.int .i64 i,.slice (some ⟨w.heap.size,0,none⟩) 1 1] (w.alloc (.cells #[.int .i64 k] 3))
  fun e w'=>∃a' cap',e=.returned (.slice a' (D.length+1) cap')∧jF w w' 3 ((cG D).take i++ .int .i64 k::(cG D).drop i) a a' cap':=by
 have:=Dp (fQ D) i (by rw[fW];exact hi) (by rw[fW];omega) k a cap w h
 rw[fW] at this
 exact this
theorem Hi {w:World}{g:Nat}(hg:g=w.heap.size){D:List KV}(hs:D.length≤100000){i:Nat}(hi:i≤D.length)(v:Int){a:Option Addr}{cap:Nat}(h:RowAt w 3 (cH D) a cap):
 Calls Tryz.prog 151 #[.slice a D.length cap,.int .i64 i,.slice (some ⟨g,0,none⟩) 1 1] (w.alloc (.cells #[.int .i64 v] 3))
  fun e w'=>∃a' cap',e=.returned (.slice a' (D.length+1) cap')∧jF w w' 3 ((cH D).take i++ .int .i64 v::(cH D).drop i) a a' cap':=by
 subst hg
 have:=Dp (ja D) i (by rw[jb];exact hi) (by rw[jb];omega) v a cap w h
 rw[jb] at this
 exact this
theorem vv (A B:List KV)(k:Int)(v:Int):cG (A++(k,v)::B)=(cG (A++B)).take A.length++ .int .i64 k::(cG (A++B)).drop A.length∧cH (A++(k,v)::B)=(cH (A++B)).take A.length++ .int .i64 v::(cH (A++B)).drop A.length:=by
 constructor<;>simp[cG,cH,fQ,ja,List.take_append,List.drop_append]
theorem EF {w w2 w4:World}{F:Nat→Prop}{p:Nat}{D D':List KV}{ka va ka' va':Option Addr}{kc vc kc' vc':Nat}{ks vs:List Value}{n':Nat}(h:fl w F p D)
 (hp:w.heap[p]?=some (.cells #[.slice ka D.length kc,.slice va D.length vc] 142 (0,0))) (hv:RowAt w 3 (cH D) va vc) (hk0:RowAt w 3 (cG D) ka kc) (fp:F p) (fk:∀k,cW ka k→F k∧k≠p) (fv:∀k,cW va k→F k∧k≠p∧¬cW ka k)
 (m1:jF w w2 3 ks ka ka' kc') (m2:jF (w2.setCell ⟨p,0,none⟩ (.slice ka' n' kc')) w4 3 vs va va' vc')
 (ha:Asc D') (hs:D'.length≤100000) (e1:ks=cG D') (e2:vs=cH D') (e3:n'=D'.length):
 ∃F',fl (w4.setCell ⟨p,1,none⟩ (.slice va' n' vc')) F' p D'∧Turned F w (w4.setCell ⟨p,1,none⟩ (.slice va' n' vc'))∧∀k,F' k→F k∨w.heap.size≤k:=by
 subst e1 e2 e3
 have hpw:=ac hp
 have hp2:w2.heap[p]?=_:=(Turned.block m1.turn p hpw (fun q=>(fk p q).2 rfl)).trans hp
 have hp3:=bo (o:=0) (.slice ka' D'.length kc') hp2
 have hp4:w4.heap[p]?=_:=(Turned.block m2.turn p (ac hp3) (fun q=>(fv p q).2.1 rfl)).trans hp3
 have hp5:=bo (o:=1) (.slice va' D'.length vc') hp4
 have t1:Turned F w w2:=m1.turn.mono fun k _ q=>(fk k q).1
 have t2:Turned F w (w2.setCell ⟨p,0,none⟩ (.slice ka' D'.length kc')):=bz t1 (fun _=>fp) _
 have t3:Turned F w w4:=t2.trans (m2.turn.mono fun k _ q=>(fv k q).1)
 have t4:Turned F w (w4.setCell ⟨p,1,none⟩ (.slice va' D'.length vc')):=bz t3 (fun _=>fp) _
 have hs23:(w2.setCell ⟨p,0,none⟩ (.slice ka' D'.length kc')).heap.size=w2.heap.size:=by simp
 have hs45:(w4.setCell ⟨p,1,none⟩ (.slice va' D'.length vc')).heap.size=w4.heap.size:=by simp
 have s12:=m1.turn.size
 have s24:w2.heap.size≤w4.heap.size:=by have:=m2.turn.size;omega
 have hva:=hv.lt
 -- where the new rows are
 have fk':∀k,cW ka' k→(cW ka k∨w.heap.size≤k)∧k<w2.heap.size:=fun k q=>⟨m1.from' k q,m1.row.lt k q⟩
 have fv':∀k,cW va' k→(cW va k∨w2.heap.size≤k)∧k<w4.heap.size:=fun k q=>⟨by have:=m2.from' k q;rwa [hs23] at this,m2.row.lt k q⟩
 have kp:∀k,cW ka' k→k≠p:=fun k q e=>by
  subst e
  rcases (fk' k q).1 with q|q
  ·exact(fk k q).2 rfl
  ·omega
 have vp:∀k,cW va' k→k≠p:=fun k q e=>by
  subst e
  rcases (fv' k q).1 with q|q
  ·exact(fv k q).2.1 rfl
  ·omega
 have kv:∀k,cW ka' k→¬cW va k:=fun k q r=>by
  rcases (fk' k q).1 with q|q
  ·exact(fv k r).2.2 q
  ·have:=hva k r;omega
 have vk:∀k,cW va' k→¬cW ka' k:=fun k q r=>by
  rcases (fv' k q).1 with q|q
  ·exact kv k r q
  ·have:=(fk' k r).2;omega
 refine⟨fun k=>(F k∨w.heap.size≤k)∧k<w4.heap.size,⟨ha,hs,fun k hk=>by rw[hs45];exact hk.2,ka',kc',va',vc',?_,?_,?_,⟨.inl fp,by omega⟩,?_,?_⟩,t4,fun k hk=>hk.1⟩
 ·rw[hp5];simp
 ·have r3:RowAt (w2.setCell ⟨p,0,none⟩ (.slice ka' D'.length kc')) 3 (cG D') ka' kc':=m1.row.keep (bz (S:=fun k=>k=p) (Turned.refl _ w2) (fun _=>rfl) _) kp
  have r4:RowAt w4 3 (cG D') ka' kc':=r3.keep m2.turn kv
  exact r4.keep (bz (S:=fun k=>k=p) (Turned.refl _ w4) (fun _=>rfl) _) kp
 ·exact m2.row.keep (bz (S:=fun k=>k=p) (Turned.refl _ w4) (fun _=>rfl) _) vp
 ·intro k q
  refine⟨⟨?_,by have:=(fk' k q).2;omega⟩,kp k q⟩
  rcases (fk' k q).1 with q|q
  ·exact .inl (fk k q).1
  ·exact .inr q
 ·intro k q
  refine⟨⟨?_,(fv' k q).2⟩,vp k q,vk k q⟩
  rcases (fv' k q).1 with q|q
  ·exact .inl (fv k q).1
  ·exact .inr (by omega)
theorem J6 (F:Nat→Prop)(p:Nat)(D:List KV)(k:Int)(v:Int)(w:World)(h0:fl w F p D)(hs:D.length<100000)(hk:look D k=none):
 Calls Tryz.prog 135 #[.pointer (some ⟨p,0,none⟩),.int .i64 k,.int .i64 v] w (sK w F p (iC D k v) (.bool true)):=by
 obtain⟨ka,kc,va,vc,hp0,hk0,hv0,fp,fk,fv⟩:=h0.ex
 have C0:=ol h0.asc h0.small k hk0
 rw[hk] at C0
 obtain⟨A,B,hD,hl,ha,hb⟩:=h0.asc.without hk
 have hi:A.length≤D.length:=by rw[hD];simp
 have FIN0:∀q w2 w4 ka' kc' va' vc' ks vs,jF (w.drewN q) w2 3 ks ka ka' kc'→jF (w2.setCell ⟨p,0,none⟩ (.slice ka' (D.length+1) kc')) w4 3 vs va va' vc' →
  ks=(cG D).take A.length++ .int .i64 k::(cG D).drop A.length→vs=(cH D).take A.length++ .int .i64 v::(cH D).drop A.length →
  sK w F p (iC D k v) (.bool true) (.returned (.bool true)) (w4.setCell ⟨p,1,none⟩ (.slice va' (D.length+1) vc')):=by
  intro q w2 w4 ka' kc' va' vc' ks vs m1 m2 e1 e2
  have hq:=fX w q
  have hlen:(iC D k v).length=D.length+1:=by rw[yH h0.asc,hk];rfl
  have hD':iC D k v=A++(k,v)::B:=by rw[hD,sE ha hb]
  obtain⟨F',hm,ht,hf⟩:=EF (D':=iC D k v) (h0.more hq) hp0 (hv0.keep hq (fun _ _ q=>q)) (hk0.keep hq (fun _ _ q=>q)) fp fk fv m1 m2 (sI h0.asc k v) (by omega)
   (by rw[e1,hD',(vv A B k v).1,hD]) (by rw[e2,hD',(vv A B k v).2,hD]) hlen.symm
  exact⟨rfl,F',hm,(Turned.mono hq (fun _ _ q=>q.elim)).trans ht,hf⟩
 have FIN:=hQQ FIN0
 clear FIN0
 have FK:=hQQ fk
 have FV:=hQQ fv
 have HD:=h0.small
 rw[←hl] at C0
 have C:=hQQ C0
 clear C0
 obtain⟨c0,c1,f0,hlt⟩:=ig hp0
 have HP:=hQQ hp0
 have HK:=hQQ hk0
 have HV:=hQQ hv0
 clear hp0 fk fv hD hl ha hb h0 hs hk hk0 hv0 fp B
 go_enter Tryz.func135,Tryz.ntmps135
 go_wp2_with fail
 refine C.o.mono ?_
 rintro e w1 ⟨rfl,q,rfl⟩
 have hq:=fX w q
 go_wp2_with fail
 refine(Hh HD hi k (HK.o.keep hq (fun _ _ q=>q))).mono ?_
 rintro e w2 ⟨ka',kc',rfl,m1⟩
 have hp2:w2.heap[p]?=_:=(Turned.block m1.turn p (ac HP.o) (fun q=>(FK.o p q).2 rfl)).trans HP.o
 obtain⟨d0,d1,g0,hlt2⟩:=ig hp2
 have hp3:=bo (o:=0) (.slice ka' (D.length+1) kc') hp2
 obtain⟨x0,x1,z0,hlt3⟩:=ig (by simpa using hp3)
 have hv3:RowAt (w2.setCell ⟨p,0,none⟩ (.slice ka' (D.length+1) kc')) 3 (cH D) va vc :=
  ((HV.o.keep hq (fun _ _ q=>q)).keep m1.turn (fun k q=>(FV.o k q).2.2)).keep (bz (S:=fun k=>k=p) (Turned.refl _ w2) (fun _=>rfl) _) (fun k q=>(FV.o k q).2.1)
 have HV3:=hQQ hv3
 have M1:=hQQ m1
 clear hp2 hp3 hv3 m1
 go_wp2_with fail
 refine(Hi (w:=w2.setCell ⟨p,0,none⟩ (.slice ka' (D.length+1) kc')) (by simp) HD hi v HV3.o).mono ?_
 rintro e w4 ⟨va',vc',rfl,m2⟩
 have hp3:=bo (o:=0) (.slice ka' (D.length+1) kc') ((Turned.block M1.o.turn p (ac HP.o) (fun q=>(FK.o p q).2 rfl)).trans HP.o)
 have hp4:w4.heap[p]?=_:=(Turned.block m2.turn p (ac hp3) (fun q=>(FV.o p q).2.1 rfl)).trans hp3
 obtain⟨y0,y1,k0,hlt4⟩:=ig (by simpa using hp4)
 have M2:=hQQ m2
 clear hp3 hp4 m2
 go_wp2_with fail
 go_ret
 exact FIN.o _ _ _ _ _ _ _ _ _ M1.o M2.o rfl rfl
theorem J7 (F:Nat→Prop)(p:Nat)(D:List KV)(k:Int)(v u:Int)(w:World)(h0:fl w F p D)(hk:look D k=some u):
 Calls Tryz.prog 135 #[.pointer (some ⟨p,0,none⟩),.int .i64 k,.int .i64 v] w (sK w F p (iC D k v) (.bool false)):=by
 obtain⟨ka,kc,va,vc,hp0,hk0,hv0,fp,fk,fv⟩:=h0.ex
 have C0:=ol h0.asc h0.small k hk0
 rw[hk] at C0
 obtain⟨A,B,hD,hl,ha,hb⟩:=h0.asc.with hk
 have hi:A.length<D.length:=by rw[hD];simp
 obtain⟨g,rfl,hg,hc,hf⟩:=hv0.reads (by rw[iQ];omega)
 have cg:w.cell? ⟨g,A.length,none⟩=some (.int .i64 u):=hc _ _ (by unfold cH ja;rw[hD];simp)
 have hfg:=hf A.length
 have FIN0:∀q,sK w F p (iC D k v) (.bool false) (.returned (.bool false)) ((w.drewN q).setCell ⟨g,A.length,none⟩ (.int .i64 v)):=by
  intro q
  have hq:=fX w q
  have hlen:(iC D k v).length=D.length:=by rw[yH h0.asc,hk];rfl
  have hD':iC D k v=A++(k,v)::B:=by rw[hD,sG ha hb]
  have hgp:=(fv g rfl).2.1
  have hh:((w.drewN q).setCell ⟨g,A.length,none⟩ (.int .i64 v)).heap.size=w.heap.size:=by simp
  have tg:Turned (fun k=>k=g) w ((w.drewN q).setCell ⟨g,A.length,none⟩ (.int .i64 v)):=bz (S:=fun k=>k=g) ((Turned.refl _ w).drewN q) (fun _=>rfl) _
  refine⟨rfl,F,⟨sI h0.asc k v,by rw[hlen];exact h0.small,fun k hk=>by rw[hh];exact h0.lt k hk,ka,kc,_,vc,?_,?_,?_,fp,fk,fv⟩,tg.mono fun k _ e=>by subst e;exact(fv k rfl).1,fun k hk=> .inl hk⟩
  ·rw[hlen,Turned.block tg p (ac hp0) (fun e=>hgp e.symm)];exact hp0
  ·have:cG (iC D k v)=cG D:=by rw[hD',hD];simp[cG,fQ]
   rw[this]
   exact hk0.keep tg fun x hx e=>(fv g rfl).2.2 (e▸hx)
  ·have:cH (iC D k v)=(cH D).set A.length (.int .i64 v):=by rw[hD',hD];simp[cH,ja,List.set_append]
   rw[this]
   exact vr _ (hv0.keep hq (fun _ _ q=>q)) (by rw[iQ];exact hi)
 have FIN:=hQQ FIN0
 rw[←hl] at C0
 have C:=hQQ C0
 have HD:=h0.small
 obtain⟨c0,c1,f0,hlt⟩:=ig hp0
 clear FIN0 C0 hp0 fk fv hD hl ha hb h0 hk hk0 hv0 fp B hc hf
 generalize A.length=i at *
 generalize D.length=n at *
 go_enter Tryz.func135,Tryz.ntmps135
 go_wp2_with fail
 refine C.o.mono ?_
 rintro e w1 ⟨rfl,q,rfl⟩
 go_wp2_with fail
 go_ret
 exact FIN.o q
theorem ME (F:Nat→Prop)(p:Nat)(D:List KV)(k:Int)(v:Int)(w:World)(h:fl w F p D)(hs:D.length<100000):
 Calls Tryz.prog 135 #[.pointer (some ⟨p,0,none⟩),.int .i64 k,.int .i64 v] w (sK w F p (iC D k v) (.bool (look D k).isNone)):=by
 cases e:look D k with
 |none=>exact J6 F p D k v w h hs e
 |some u=>exact J7 F p D k v u w h e
structure wZ (w W W':World)(e:TypeId)(xs:List Value)(a:Option Addr)(cap:Nat):Prop where
 row:RowAt W' e xs a cap
 step:ae W W'
 all:ae w W'
 new:∀k,cW a k→W.heap.size≤k
theorem Be {w:World}{D:List KV}(hs:D.length≤100000){a:Option Addr}{cap:Nat}(h:RowAt w 3 (cG D) a cap)(W:World)(hW:ae w W):
 Calls Tryz.prog 41 #[.slice a D.length cap] W fun e W'=>∃a' cap',e=.returned (.slice a' D.length cap')∧wZ w W W' 3 (cG D) a' cap':=by
 have:=vt (fQ D) (by rw[fW];omega) a cap W (h.keep hW (fun _ _ q=>q))
 rw[fW] at this
 refine this.mono ?_
 rintro e W' ⟨a',cap',rfl,hr,hm,hn⟩
 exact⟨a',cap',rfl,hr,hm,hW.trans hm,hn⟩
theorem Bf {w:World}{D:List KV}(hs:D.length≤100000){a:Option Addr}{cap:Nat}(h:RowAt w 3 (cH D) a cap)(W:World)(hW:ae w W):
 Calls Tryz.prog 41 #[.slice a D.length cap] W fun e W'=>∃a' cap',e=.returned (.slice a' D.length cap')∧wZ w W W' 3 (cH D) a' cap':=by
 have:=vt (ja D) (by rw[jb];omega) a cap W (h.keep hW (fun _ _ q=>q))
 rw[jb] at this
 refine this.mono ?_
 rintro e W' ⟨a',cap',rfl,hr,hm,hn⟩
 exact⟨a',cap',rfl,hr,hm,hW.trans hm,hn⟩
theorem yJ {w Wk Wk' Wv Wv' W:World}{D:List KV}(ha:Asc D)(hs:D.length≤100000){ka va:Option Addr}{kc vc:Nat}(hk:wZ w Wk Wk' 3 (cG D) ka kc)(hv:wZ w Wv Wv' 3 (cH D) va vc)
 (mk:ae Wk' W) (mv:ae Wv' W) (hw1:w.heap.size≤Wk.heap.size) (hw2:w.heap.size≤Wv.heap.size) (hd:Wk'.heap.size≤Wv.heap.size∨Wv'.heap.size≤Wk.heap.size):
 rR w D (.returned (.pointer (some ⟨W.heap.size,0,none⟩))) (W.alloc (.cells #[.slice ka D.length kc,.slice va D.length vc] 142)):=by
 have m:=(ae.refl W).alloc (.cells #[.slice ka D.length kc,.slice va D.length vc] 142)
 have hk':=hk.row.keep mk (fun _ _ q=>q)
 have hv':=hv.row.keep mv (fun _ _ q=>q)
 have lk:=hk.row.lt
 have lv:=hv.row.lt
 have sk:=mk.size
 have sv:=mv.size
 refine⟨fun k=>w.heap.size≤k∧k<W.heap.size+1,W.heap.size,rfl,⟨ha,hs,fun k q=>by simp;omega,ka,kc,va,vc,a7 W _,hk'.keep m (fun _ _ q=>q),hv'.keep m (fun _ _ q=>q),⟨by have:=hk.all.size;omega,by omega⟩,?_,?_⟩,(hk.all.trans mk).trans m,fun k q=>q.1⟩
 ·intro k q
  have:=hk.new k q;have:=lk k q
  exact⟨⟨by omega,by omega⟩,by omega⟩
 ·intro k q
  have:=hv.new k q;have:=lv k q
  refine⟨⟨by omega,by omega⟩,by omega,fun r=>?_⟩
  have:=hk.new k r;have:=lk k r
  omega
theorem J8 (F:Nat→Prop)(p:Nat)(D:List KV)(w:World)(h:fl w F p D):
 Calls Tryz.prog 125 #[.pointer (some ⟨p,0,none⟩)] w (rR w D):=by
 obtain⟨ka,kc,va,vc,hp,hk,hv,_⟩:=h.ex
 obtain⟨c0,c1,f0,hlt⟩:=ig hp
 have CK:=hQQ (Be h.small hk)
 have CV:=hQQ (Bf h.small hv)
 have HA:=hQQ h.asc
 have HS:=hQQ h.small
 have C0:=hQQ c0
 have C1:=hQQ c1
 clear h hp hk hv
 go_enter Tryz.func125,Tryz.ntmps125
 go_wp2_with fail
 go_region_held3 (fun w'=>w'.cell? ⟨p,0,none⟩=some (.slice ka D.length kc)∧w'.cell? ⟨p,1,none⟩=some (.slice va D.length vc))
  (first|exact⟨M40.o.cell C0.o,M40.o.cell C1.o⟩|exact⟨M41.o.cell C0.o,M41.o.cell C1.o⟩|go_keep)
  (first
   |(go_at_call 41;refine(CK.o _ (by first|exact M41.o|exact M41.o.drew|exact(ae.refl w).drew|exact ae.refl w)).mono ?_;rintro e w40 ⟨a40,c40,rfl,h40⟩;have H40:=hQQ h40;have M40:=hQQ h40.all;clear h40)
   |(go_at_call 41;refine(CV.o _ (by first|exact M40.o|exact M40.o.drew|exact(ae.refl w).drew|exact ae.refl w)).mono ?_;rintro e w41 ⟨a41,c41,rfl,h41⟩;have H41:=hQQ h41;have M41:=hQQ h41.all;clear h41))
 all_goals go_wp2_with fail
 all_goals go_ret
 all_goals first
  |exact yJ HA.o HS.o H40.o H41.o H41.o.step (ae.refl _) (by simp) M40.o.size (.inl (Nat.le_refl _))
  |exact yJ HA.o HS.o H40.o H41.o (ae.refl _) H40.o.step M41.o.size (by simp) (.inr (Nat.le_refl _))
def W64 (x:Int):Prop:= -9223372036854775808≤x∧x≤9223372036854775807
abbrev MG:=Int×Int×Int
inductive Ran where
 |need (a:Int)
 |done (D:List KV)
def dM (kn:Int→Option Int)(D:List KV)(a:Int):Option Int :=
 if a<0 then some 0 else(look D a).or (kn a)
def ep (D:List KV)(a x:Int):List KV:=if a<0 then D else iC D a x
def yK (kn:Int→Option Int):List MG→Bool→Int→List KV→Ran
 | [],_,_,D=> .done D
 | _::r,true,x,D=>yK kn r false x D
 |(k,a,b)::r,false,x,D =>
  if k=0 then(match dM kn D a with|none=> .need a|some y=>yK kn r false y D)
  else if k=1 then yK kn r false x (ep D a b)
  else if k=2 then yK kn r false x (ep D a x)
  else if k=3 then(match dM kn D x with|none=> .need x|some y=>yK kn r false y D)
  else if k=4 then yK kn r (decide (x=b)) x D
  else yK kn r false x D
def OkK (kn:Int→Option Int):Prop:=∀a v,kn a=some v→W64 v
def OkD (D:List KV):Prop:=∀p∈D,0≤p.1∧W64 p.1∧W64 p.2
theorem Ka:OkD []:=fun p h=>by cases h
theorem yL {D:List KV}{k v:Int}{p:KV}(h:p∈iC D k v):p=(k,v)∨p∈D:=by
 unfold iC less more at h
 rw[List.mem_append,List.mem_cons] at h
 rcases h with h|h|h
 ·exact .inr (List.mem_filter.1 h).1
 ·exact .inl h
 ·exact .inr (List.mem_filter.1 h).1
theorem EG {D:List KV}(h:OkD D){a x:Int}(ha:W64 a)(hx:W64 x):OkD (ep D a x):=by
 unfold ep
 split
 ·exact h
 ·intro p hp
  rcases yL hp with rfl|hp
  ·exact⟨by simp;omega,ha,hx⟩
  ·exact h p hp
theorem EH {D:List KV}(h:Asc D)(a x:Int):Asc (ep D a x):=by
 unfold ep
 split
 ·exact h
 ·exact sI h a x
theorem Dr {kn:Int→Option Int}(hk:OkK kn){D:List KV}(hD:OkD D){a y:Int}(h:dM kn D a=some y):W64 y:=by
 unfold dM at h
 split at h
 ·cases h;unfold W64;omega
 ·cases e:look D a with
  |none=>rw[e] at h;exact hk a y (by simpa using h)
  |some v =>
   rw[e] at h
   have:v=y:=by simpa using h
   subst this
   exact(hD _ (pc e)).2.2
theorem vw {kn:Int→Option Int}{D:List KV}{a:Int}(h:dM kn D a=none):0≤a∧look D a=none∧kn a=none:=by
 unfold dM at h
 split at h
 ·cases h
 ·cases e:look D a with
  |none=>rw[e] at h;exact⟨by omega,rfl,by simpa using h⟩
  |some v=>rw[e] at h;simp at h
def MH (kn:Int→Option Int)(n:Nat):Ran→Prop
 | .need a=>0≤a∧W64 a∧kn a=none
 | .done D=>OkD D∧Asc D∧D.length≤n
section
variable {kn:Int→Option Int}{l:List MG}{i:Nat}{k a b x y:Int}{D:List KV}{R:Ran}
end
open Go.Maps
theorem Mg {x:Int}(h:W64 x):(Lit.int .i64 x).wf=true:=WalkArith.wf_i64 h
theorem yM {x:Int}(h:(Lit.int .i64 x).wf=true):W64 x:=by
 simp only[Lit.wf,Bool.and_eq_true,decide_eq_true_eq] at h
 exact⟨h.1,h.2⟩
theorem xd:Keyed Tryz.prog 3:=int_keyed Tryz.underlying3
theorem Hj (w:World):(zeroValue 3).run Tryz.prog w=.ok (.int .i64 0) w:=by kernel_rfl
theorem xe {x:Int}(h:W64 x):keyOf Tryz.prog 3 (.int .i64 x)=some (.int .i64 x):=keyOf_int_mk Tryz.underlying3 (Mg h)
def KnownAt (w:World)(M n:Nat)(kn:Int→Option Int):Prop :=
 ∃D:DataW Unit,w.ownsMap Tryz.prog 3 (plainElem Tryz.prog 3) M n D∧∀x,W64 x→Maps.has D (.int .i64 x)=(kn x).isSome∧D.atKey (.int .i64 x) (.lit (.int .i64 0))=.lit (.int .i64 ((kn x).getD 0))
namespace KnownAt
variable {w w':World}{M n:Nat}{kn:Int→Option Int}
theorem lt (h:KnownAt w M n kn):M<w.heap.size:=by obtain⟨D,hD,_⟩:=h;exact hD.lt
theorem keep (h:KnownAt w M n kn){S:Nat→Prop}(t:Turned S w w')(hs:¬S M):KnownAt w' M n kn:=by
 obtain⟨D,⟨es,clock,hb,F⟩,hk⟩:=h
 exact⟨D,⟨es,clock,(Turned.block t M (ac hb) hs).trans hb,F⟩,hk⟩
theorem more (h:KnownAt w M n kn)(t:ae w w'):KnownAt w' M n kn:=h.keep t (fun q=>q)
theorem look (h:KnownAt w M n kn){a:Int}(ha:W64 a):(Instr.lookup 83 (.map (some M)) (.int .i64 a) true).run Tryz.prog w=.ok (.tuple #[.int .i64 ((kn a).getD 0),.bool (kn a).isSome]) w:=by
 obtain⟨D,hD,hk⟩:=h
 obtain⟨v,ps,hr,hv⟩:=hD.look_ok xd Tryz.underlying83 (Hj w) (plainElem_int Tryz.underlying3 (by decide)) (xe ha)
 obtain⟨c,rfl,hc,_⟩:=plainElem_int_inv Tryz.underlying3 hv
 obtain⟨h1,h2⟩:=hk a ha
 rw[h1] at hr
 rw[h2] at hc
 simp only[Prod.mk.injEq,DataW.lit.injEq,Lit.int.injEq,true_and] at hc
 rw[hr,←hc.1]
theorem made (w:World):KnownAt (w.alloc (.map #[] 0)) w.heap.size 0 (fun _=>none):=
 ⟨.map [],World.ownsMap_made _ _ _ _,fun x _=>⟨rfl,rfl⟩⟩
theorem store (h:KnownAt w M n kn){a x:Int}(ha:W64 a)(hx:W64 x)(hn:n<maxLen):
 ∃w',(Instr.mapUpdate 83 (.map (some M)) (.int .i64 a) (.int .i64 x)).run Tryz.prog w=.ok () w'∧KnownAt w' M (n+1) (fun y=>if y=a then some x else kn y)∧Turned (fun k=>k=M) w w':=by
 obtain⟨D,hD,hk⟩:=h
 obtain⟨w',hr,h1,h2⟩:=hD.update xd Tryz.underlying83 hn (xe ha) (plainElem_int Tryz.underlying3 (Mg hx))
 refine⟨w',hr,⟨_,h1,fun y hy=>?_⟩,⟨h2.os,h2.tape,h2.output,h2.size,fun k hk hne=>h2.block k hk (fun e=>hne (Option.some.inj e))⟩⟩
 by_cases e:y=a
 ·subst e
  dsimp only
  rw[if_pos rfl]
  refine⟨has_put_same hD.isMap ?_ _,atKey_put_same hD.isMap ?_ _ _⟩<;>exact xd.key (xe ha)
 ·have hne:(Lit.int .i64 y)≠Lit.int .i64 a:=fun q=>e (by simpa using q)
  dsimp only
  rw[if_neg e,has_put_other hne,atKey_put_other hne]
  exact hk y hy
end KnownAt
def cu (self:Option Addr)(M q:Nat)(need:Int):Array Value:= #[.pointer self,.map (some M),.pointer (some ⟨q,0,none⟩),.int .i64 need]
structure aD (w:World)(F:Nat→Prop)(p:Nat)(kn:Int→Option Int)(D:List KV):Prop where
 ex:∃M q n F0,w.heap[p]?=some (.cells (cu (some ⟨p,0,none⟩) M q (-1)) 110 (0,0))∧KnownAt w M n kn∧fl w F0 q D∧F p∧(∀k,F0 k→F k∧k≠p)∧¬F M
 lt:∀k,F k→k<w.heap.size
def bB (w:World)(p:Nat)(need:Int):Prop:=∃M q,w.heap[p]?=some (.cells (cu none M q need) 110 (0,0))
theorem aD.keep {w w':World}{F S:Nat→Prop}{p:Nat}{kn:Int→Option Int}{D:List KV}(h:aD w F p kn D)(ht:Turned S w w')(hs:∀k,F k→¬S k)(hM:∀k,S k→F k∨False):aD w' F p kn D:=by
 obtain⟨M,q,n,F0,hp,hk,hm,fp,f0,fM⟩:=h.ex
 refine⟨⟨M,q,n,F0,by rw[Turned.block ht p (ac hp) (hs p fp)];exact hp,hk.keep ht (fun q=>?_),hm.keep ht (fun k q=>hs k (f0 k q).1),fp,f0,fM⟩,fun k hk=>Nat.lt_of_lt_of_le (h.lt k hk) ht.size⟩
 rcases hM M q with r|r
 ·exact fM r
 ·exact r
theorem aD.more {w w':World}{F:Nat→Prop}{p:Nat}{kn:Int→Option Int}{D:List KV}(h:aD w F p kn D)(ht:ae w w'):aD w' F p kn D:=h.keep ht (fun _ _ q=>q) (fun _ q=> .inr q)
theorem bB.keep {w w':World}{S:Nat→Prop}{p:Nat}{a:Int}(h:bB w p a)(ht:Turned S w w')(hs:¬S p):bB w' p a:=by
 obtain⟨M,q,hp⟩:=h
 exact⟨M,q,by rw[Turned.block ht p (ac hp) hs];exact hp⟩
def bg (p:Nat):List PanicEntry:= [{ v:= .iface 113 (.agg #[.pointer (some ⟨p,0,none⟩)]),recovered:=false }]
theorem cP {w:World}{p M q:Nat}{self:Option Addr}{need:Int}(h:w.heap[p]?=some (.cells (cu self M q need) 110 (0,0))):
 w.cell? ⟨p,0,none⟩=some (.pointer self)∧w.cell? ⟨p,1,none⟩=some (.map (some M))∧w.cell? ⟨p,2,none⟩=some (.pointer (some ⟨q,0,none⟩))∧w.cell? ⟨p,3,none⟩=some (.int .i64 need)∧(∀j,w.frozen? ⟨p,j,none⟩=false)∧p<w.heap.size :=
 ⟨by simp[World.cell?,h,cu],by simp[World.cell?,h,cu],by simp[World.cell?,h,cu],by simp[World.cell?,h,cu],fun j=>by simp[World.frozen?,h],ac h⟩
theorem vx:∃j,Tryz.prog.info? 110=some j:=by
 have h:(Tryz.prog.info? 110).isSome=true:=by kernel_rfl
 exact Option.isSome_iff_exists.1 h
theorem Hk (p:Addr)(w:World):Sem.run Tryz.prog (binOp BinOp.eql 43 (.pointer (some p)) (.pointer (some p))) w=.ok (.bool true) w:=by
 obtain⟨j,hj⟩:=vx
 exact run_eql_ptr_same w p Tryz.underlying43 hj
theorem ql {P:Program}(w:World)(d:Nat)(t:TypeId){e:TypeId}(h:P.underlying t=some (.pointer e))(p:Addr):(Op.equalIn (d+1) t (.pointer none) (.pointer (some p))).run P w=.ok false w:=by
 simp[Op.equalIn,run_underlying h]
theorem Hl (p:Addr)(w:World):Sem.run Tryz.prog (binOp BinOp.eql 43 (.pointer none) (.pointer (some p))) w=.ok (.bool false) w:=by
 have h:Sem.run Tryz.prog (Op.equal 43 (.pointer none) (.pointer (some p))) w=.ok false w:=ql w 9999 _ Tryz.underlying43 p
 simp only[binOp]
 simp[h]
theorem Hm (p:Addr)(w:World):Sem.run Tryz.prog (binOp BinOp.neq 43 (.pointer (some p)) (.pointer (some p))) w=.ok (.bool false) w:=by
 obtain⟨j,hj⟩:=vx
 have h:Sem.run Tryz.prog (Op.equal 43 (.pointer (some p)) (.pointer (some p))) w=.ok true w:=by
  have:=run_eql_ptr_same (P:=Tryz.prog) w p Tryz.underlying43 hj
  simp only[binOp] at this
  cases e:Sem.run Tryz.prog (Op.equal 43 (.pointer (some p)) (.pointer (some p))) w<;>rw[Sem.run_bind,e] at this<;>simp[Result.andThen] at this
  obtain⟨rfl,rfl⟩:=this
  rfl
 simp only[binOp]
 simp[h]
theorem jc (p:Nat)(w:World)(h:w.cell? ⟨p,0,none⟩=some (.pointer (some ⟨p,0,none⟩))):Calls Tryz.prog 59 #[.pointer (some ⟨p,0,none⟩)] w fun e w'=>e=.returned (.bool true)∧w'=w:=by
 have hq:=fun w=>Hk ⟨p,0,none⟩ w
 go_enter Tryz.func59,Tryz.ntmps59
 go_wp2_with fail
 go_ret
 exact⟨rfl,rfl⟩
theorem vy (p:Nat)(w:World)(h:w.cell? ⟨p,0,none⟩=some (.pointer none)):Calls Tryz.prog 59 #[.pointer (some ⟨p,0,none⟩)] w fun e w'=>e=.returned (.bool false)∧w'=w:=by
 have hq:=fun w=>Hl ⟨p,0,none⟩ w
 go_enter Tryz.func59,Tryz.ntmps59
 go_wp2_with fail
 go_ret
 exact⟨rfl,rfl⟩
theorem Hn (F:Nat→Prop)(p:Nat)(kn:Int→Option Int)(D:List KV)(a:Int)(w:World)(h:aD w F p kn D)(ha:a<0):
 Calls Tryz.prog 27 #[.pointer (some ⟨p,0,none⟩),.int .i64 a] w fun e w'=>e=.returned (.int .i64 0)∧∃n,w'=w.drewN n:=by
 obtain⟨M,q,n,F0,hp,hk,hm,_⟩:=h.ex
 obtain⟨c0,_⟩:=cP hp
 have S:=hQQ (jc p w c0)
 have d:decide (a<0)=true:=by simp;omega
 have E:∃n,w=w.drewN n:=⟨0,rfl⟩
 clear h hp hk hm c0 ha
 go_enter Tryz.func27,Tryz.ntmps27
 go_wp2_with (go_at_call 59;refine S.o.mono ?_;rintro e w' ⟨rfl,rfl⟩)
 go_ret
 exact⟨rfl,0,rfl⟩
theorem Bg (F:Nat→Prop)(p:Nat)(kn:Int→Option Int)(D:List KV)(a y:Int)(w:World)(h:aD w F p kn D)(ha:0≤a)(hy:look D a=some y):
 Calls Tryz.prog 27 #[.pointer (some ⟨p,0,none⟩),.int .i64 a] w fun e w'=>e=.returned (.int .i64 y)∧∃n,w'=w.drewN n:=by
 obtain⟨M,q,n,F0,hp,hk,hm,_⟩:=h.ex
 obtain⟨c0,c1,c2,c3,_,hl⟩:=cP hp
 have S:=hQQ (jc p w c0)
 have G:=Bd F0 q D a w hm
 rw[hy] at G
 have G:=hQQ G
 have d:decide (a<0)=false:=by simp;omega
 clear h hp hk hm ha c0 c1 c3
 go_enter Tryz.func27,Tryz.ntmps27
 go_wp2_with (first|(go_at_call 59;refine S.o.mono ?_;rintro e w' ⟨rfl,rfl⟩)|(go_at_call 60;refine G.o.mono ?_;rintro e w' ⟨rfl,n,rfl⟩))
 go_ret
 exact⟨rfl,n,rfl⟩
theorem Bh (F:Nat→Prop)(p:Nat)(kn:Int→Option Int)(D:List KV)(a y:Int)(w:World)(h:aD w F p kn D)(ha:0≤a)(hw:W64 a)(hy:look D a=none)(hk':kn a=some y):
 Calls Tryz.prog 27 #[.pointer (some ⟨p,0,none⟩),.int .i64 a] w fun e w'=>e=.returned (.int .i64 y)∧∃n,w'=w.drewN n:=by
 obtain⟨M,q,n,F0,hp,hk,hm,_⟩:=h.ex
 have S:=hQQ (jc p w (cP hp).1)
 have G:=Bd F0 q D a w hm
 rw[hy] at G
 have G:=hQQ G
 have L:∀m,Sem.run Tryz.prog (Instr.lookup 83 (.map (some M)) (.int .i64 a) true) (w.drewN m)=.ok (.tuple #[.int .i64 y,.bool true]) (w.drewN m):=fun m=>by
  have:=(hk.more (fX w m)).look hw
  rw[hk'] at this
  exact this
 have d:decide (a<0)=false:=by simp;omega
 obtain⟨c0,c1,c2,c3,_,hl⟩:=cP hp
 clear h hp hk hm ha c0 c3
 go_enter Tryz.func27,Tryz.ntmps27
 go_wp2_with (first|(go_at_call 59;refine S.o.mono ?_;rintro e w' ⟨rfl,rfl⟩)|(go_at_call 60;refine G.o.mono ?_;rintro e w' ⟨rfl,n,rfl⟩))
 go_ret
 exact⟨rfl,n,rfl⟩
theorem mT (F:Nat→Prop)(p:Nat)(kn:Int→Option Int)(D:List KV)(a y:Int)(w:World)(h:aD w F p kn D)(hw:W64 a)(hy:dM kn D a=some y):
 Calls Tryz.prog 27 #[.pointer (some ⟨p,0,none⟩),.int .i64 a] w fun e w'=>e=.returned (.int .i64 y)∧∃n,w'=w.drewN n:=by
 unfold dM at hy
 split at hy
 ·cases hy;exact Hn F p kn D a w h (by omega)
 ·cases e:look D a with
  |none=>rw[e] at hy;exact Bh F p kn D a y w h (by omega) hw e (by simpa using hy)
  |some v =>
   rw[e] at hy
   have:v=y:=by simpa using hy
   subst this
   exact Bg F p kn D a v w h (by omega) e
def vz (w:World)(F:Nat→Prop)(p:Nat)(a:Int)(e:Ending)(w':World):Prop:=e=.panicked (bg p)∧bB w' p a∧Turned F w w'
theorem Ho {w:World}{F:Nat→Prop}{p M q:Nat}{a:Int}{n:Nat}(hp:w.heap[p]?=some (.cells (cu (some ⟨p,0,none⟩) M q (-1)) 110 (0,0)))(fp:F p):
 bB (((w.drewN n).setCell ⟨p,0,none⟩ (.pointer none)).setCell ⟨p,3,none⟩ (.int .i64 a)) p a∧Turned F w (((w.drewN n).setCell ⟨p,0,none⟩ (.pointer none)).setCell ⟨p,3,none⟩ (.int .i64 a)):=by
 have h1:(w.drewN n).heap[p]?=_:=hp
 have h2:=bo (o:=0) (.pointer none) h1
 have h4:=bo (o:=3) (.int .i64 a) h2
 exact⟨⟨M,q,by rw[h4];simp[cu]⟩,bz (bz ((Turned.refl F w).drewN n) (fun _=>fp) _) (fun _=>fp) _⟩
theorem iX (F:Nat→Prop)(p:Nat)(kn:Int→Option Int)(D:List KV)(a:Int)(w:World)(h:aD w F p kn D)(hw:W64 a)(hy:dM kn D a=none):
 Calls Tryz.prog 27 #[.pointer (some ⟨p,0,none⟩),.int .i64 a] w (vz w F p a):=by
 obtain⟨ha,hy,hk'⟩:=vw hy
 obtain⟨M,q,n,F0,hp,hk,hm,fp,_⟩:=h.ex
 have S:=hQQ (jc p w (cP hp).1)
 have G:=Bd F0 q D a w hm
 rw[hy] at G
 have G:=hQQ G
 have L:∀m,Sem.run Tryz.prog (Instr.lookup 83 (.map (some M)) (.int .i64 a) true) (w.drewN m)=.ok (.tuple #[.int .i64 0,.bool false]) (w.drewN m):=fun m=>by
  have:=(hk.more (fX w m)).look hw
  rw[hk'] at this
  exact this
 have d:decide (a<0)=false:=by simp;omega
 obtain⟨c0,c1,c2,c3,hf,hl⟩:=cP hp
 have FIN:Hq (∀n,bB (((w.drewN n).setCell ⟨p,0,none⟩ (.pointer none)).setCell ⟨p,3,none⟩ (.int .i64 a)) p a∧Turned F w (((w.drewN n).setCell ⟨p,0,none⟩ (.pointer none)).setCell ⟨p,3,none⟩ (.int .i64 a))):=hQQ fun n=>Ho hp fp
 clear h hp hk hm ha
 go_enter Tryz.func27,Tryz.ntmps27
 go_wp2_with (first|(go_at_call 59;refine S.o.mono ?_;rintro e w' ⟨rfl,rfl⟩)|(go_at_call 60;refine G.o.mono ?_;rintro e w' ⟨rfl,n,rfl⟩))
 exact⟨rfl,rfl,FIN.o n⟩
def gv (w:World)(F:Nat→Prop)(p:Nat)(kn:Int→Option Int)(D:List KV)(v:Value)(e:Ending)(w':World):Prop :=
 e=.returned v∧∃F',aD w' F' p kn D∧Turned F w w'∧∀k,F' k→F k∨w.heap.size≤k
theorem gv.same {w w':World}{F:Nat→Prop}{p:Nat}{kn:Int→Option Int}{D:List KV}{v:Value}(h:aD w F p kn D)(t:ae w w'):gv w F p kn D v (.returned v) w' :=
 ⟨rfl,F,h.more t,Turned.mono t (fun _ _ q=>q.elim),fun k hk=> .inl hk⟩
theorem Kb {w w':World}{F F0 F1:Nat→Prop}{p M q n:Nat}{kn:Int→Option Int}{D':List KV}{v:Value}(hp:w.heap[p]?=some (.cells (cu (some ⟨p,0,none⟩) M q (-1)) 110 (0,0)))
 (hk:KnownAt w M n kn) (fp:F p) (f0:∀k,F0 k→F k∧k≠p) (fM:¬F M) (hl:∀k,F k→k<w.heap.size) (hm:fl w' F1 q D') (ht:Turned F0 w w') (h1:∀k,F1 k→F0 k∨w.heap.size≤k):gv w F p kn D' v (.returned v) w':=by
 have hlM:=hk.lt
 have hlp:=ac hp
 refine⟨rfl,fun k=>F k∨F1 k,⟨⟨M,q,n,F1,?_,hk.keep ht (fun r=>fM (f0 M r).1),hm,.inl fp,fun k r=>⟨.inr r,fun e=>?_⟩,fun r=>?_⟩,fun k r=>?_⟩,ht.mono (fun k _ r=>(f0 k r).1),fun k r=>?_⟩
 ·rw[Turned.block ht p hlp (fun r=>(f0 p r).2 rfl)];exact hp
 ·subst e
  rcases h1 k r with q|q
  ·exact(f0 k q).2 rfl
  ·omega
 ·rcases r with r|r
  ·exact fM r
  ·rcases h1 M r with q|q
   ·exact fM (f0 M q).1
   ·omega
 ·rcases r with r|r
  ·exact Nat.lt_of_lt_of_le (hl k r) ht.size
  ·exact hm.lt k r
 ·rcases r with r|r
  ·exact .inl r
  ·exact(h1 k r).imp (fun q=>(f0 k q).1) id
theorem yN (F:Nat→Prop)(p:Nat)(kn:Int→Option Int)(D:List KV)(a x:Int)(w:World)(h:aD w F p kn D)(hs:D.length<100000):
 Calls Tryz.prog 116 #[.pointer (some ⟨p,0,none⟩),.int .i64 a,.int .i64 x] w (gv w F p kn (ep D a x) (.tuple #[])):=by
 obtain⟨M,q,n,F0,hp,hk,hm,fp,f0,fM⟩:=h.ex
 have S:=hQQ (jc p w (cP hp).1)
 have P:=hQQ (ME F0 q D a x w hm hs)
 by_cases ha:a<0
 ·have e:ep D a x=D:=by unfold ep;rw[if_pos ha]
  have FIN:=hQQ (gv.same (v:=.tuple #[]) h (ae.refl w))
  rw[e]
  have d:decide (0≤a)=false:=by simp;omega
  clear h hp hk hm e ha P
  go_enter Tryz.func116,Tryz.ntmps116
  go_wp2_with (go_at_call 59;refine S.o.mono ?_;rintro e w' ⟨rfl,rfl⟩)
  go_end0
  exact FIN.o
 ·have e:ep D a x=iC D a x:=by unfold ep;rw[if_neg ha]
  rw[e]
  have d:decide (0≤a)=true:=by simp;omega
  have hl:=h.lt
  have FIN:Hq (∀w' F1,fl w' F1 q (iC D a x)→Turned F0 w w'→(∀k,F1 k→F0 k∨w.heap.size≤k)→gv w F p kn (iC D a x) (.tuple #[]) (.returned (.tuple #[])) w'):=
   hQQ fun w' F1 m t f=>Kb hp hk fp f0 fM hl m t f
  obtain⟨c0,c1,c2,c3,hf,hlp⟩:=cP hp
  clear h hp hk hm e ha fp f0 fM hl
  go_enter Tryz.func116,Tryz.ntmps116
  go_wp2_with (first|(go_at_call 59;refine S.o.mono ?_;rintro e w' ⟨rfl,rfl⟩)|(go_at_call 135;refine P.o.mono ?_;rintro e w1 ⟨rfl,F1,m,t,f⟩;have M1:=hQQ m;have T1:=hQQ t;have N1:=hQQ f;clear m t f))
  go_end0
  exact FIN.o _ _ M1.o T1.o N1.o
theorem vB (p:Nat)(n a:Int)(w:World)(h:bB w p n):Calls Tryz.prog 27 #[.pointer (some ⟨p,0,none⟩),.int .i64 a] w fun e w'=>e=.returned (.int .i64 0)∧w'=w:=by
 obtain⟨M,q,hp⟩:=h
 have S:=hQQ (vy p w (cP hp).1)
 clear hp
 go_enter Tryz.func27,Tryz.ntmps27
 go_wp2_with (go_at_call 59;refine S.o.mono ?_;rintro e w' ⟨rfl,rfl⟩)
 go_ret
 exact⟨rfl,rfl⟩
theorem kJ (p:Nat)(n a x:Int)(w:World)(h:bB w p n):Calls Tryz.prog 116 #[.pointer (some ⟨p,0,none⟩),.int .i64 a,.int .i64 x] w fun e w'=>e=.returned (.tuple #[])∧w'=w:=by
 obtain⟨M,q,hp⟩:=h
 have S:=hQQ (vy p w (cP hp).1)
 clear hp
 go_enter Tryz.func116,Tryz.ntmps116
 go_wp2_with (go_at_call 59;refine S.o.mono ?_;rintro e w' ⟨rfl,rfl⟩)
 go_end0
 exact⟨rfl,rfl⟩
def pd (w:World)(a:Option Addr)(l:List KV):Prop :=
 l= []∨∃s o,a=some ⟨s,o,none⟩∧s<w.heap.size∧∀i t,l[i]?=some t→w.cell? ⟨s,o+i * 2,none⟩=some (.int .i64 t.1)∧w.cell? ⟨s,o+i * 2+1,none⟩=some (.int .i64 t.2)
def ip (a:Option Addr)(k:Nat):Prop:=a.map (·.block)=some k
theorem d9 {S:Nat→Prop}{w w':World}(t:Turned S w w'){s o:Nat}{v:Value}(hs:¬S s)(h:w.cell? ⟨s,o,none⟩=some v):w'.cell? ⟨s,o,none⟩=some v:=by
 rw[World.cell?_of_block (w:=w) (Turned.block t s (eQ h) hs)];exact h
theorem pd.keep {w w':World}{a:Option Addr}{l:List KV}(h:pd w a l){S:Nat→Prop}(t:Turned S w w')(hs:∀k,ip a k→¬S k):pd w' a l:=by
 rcases h with h|⟨s,o,rfl,hl,hc⟩
 ·exact .inl h
 ·exact .inr ⟨s,o,rfl,Nat.lt_of_lt_of_le hl t.size,fun i u hi=>by
   obtain⟨c0,c1⟩:=hc i u hi
   exact⟨d9 t (hs s rfl) c0,d9 t (hs s rfl) c1⟩⟩
theorem am {F F':Nat→Prop}{W w w':World}(h:Turned F W w)(t:Turned F' w w')(n:∀k,F' k→F k∨W.heap.size≤k):Turned F W w' :=
 ⟨t.os.trans h.os,t.tape.trans h.tape,t.output.trans h.output,Nat.le_trans h.size t.size,fun k hk hs=>by
  rw[Turned.block t k (Nat.lt_of_lt_of_le hk h.size) (fun q=>by rcases n k q with r|r;exact hs r;omega)]
  exact Turned.block h k hk hs⟩
structure On (W wr:World)(F:Nat→Prop)(p:Nat)(kn:Int→Option Int)(l:List MG)(R:Ran)(i:Nat)(x:Int):Prop where
 ex:∃F' D,aD wr F' p kn D∧(∀k,F' k→F k∨W.heap.size≤k)∧yK kn (l.drop i) false x D=R∧OkD D∧D.length≤i
 turn:Turned F W wr
 x64:W64 x
theorem iD {S:Nat→Prop}{wa w w':World}{v:Value}{e:TypeId}{s n:Nat}{xs:List Value}(hW:Turned S wa w)(h:w.ownsRow wa.heap.size e s v n xs)(g:w.grownBy w' v.ownBlock):Turned S wa w' :=
 ⟨g.os.trans hW.os,g.tape.trans hW.tape,g.output.trans hW.output,Nat.le_trans hW.size g.size,fun k hk hs=>by
  rw[g.block k (Nat.lt_of_lt_of_le hk hW.size) (by
   rcases h.2 with⟨rfl,_⟩|⟨b,cap,cur,rfl,hb,_⟩
   ·simp[Value.ownBlock]
   ·simp only[Value.ownBlock,ne_eq,Option.some.injEq];omega)]
  exact Turned.block hW k hk hs⟩
theorem kK {w w':World}{base:Nat}{e:TypeId}{s n:Nat}{v:Value}{xs:List Value}(h:w.ownsRow base e s v n xs){S:Nat→Prop}(hW:Turned S w w')(hs:∀k,base≤k→¬S k):w'.ownsRow base e s v n xs:=by
 refine⟨h.1,?_⟩
 rcases h.2 with q|⟨g,cap,cur,h1,h2,h3,h4⟩
 ·exact .inl q
 ·exact .inr ⟨g,cap,cur,h1,h2,by rw[Turned.block hW g (ac h3) (hs g h2)];exact h3,h4⟩
theorem nR {w:World}{base base':Nat}{e:TypeId}{s n:Nat}{v:Value}{xs:List Value}(h:w.ownsRow base e s v n xs)(hb:base'≤base):w.ownsRow base' e s v n xs:=by
 refine⟨h.1,?_⟩
 rcases h.2 with q|⟨g,cap,cur,h1,h2,h3,h4⟩
 ·exact .inl q
 ·exact .inr ⟨g,cap,cur,h1,by omega,h3,h4⟩
def dU (ps:List KV):List Value:=ps.flatMap fun p=> [.int .i64 p.1,.int .i64 p.2]
theorem jd (ps:List KV)(p:KV):dU (ps++ [p])=dU ps++ [.int .i64 p.1,.int .i64 p.2]:=by simp[dU]
theorem je (p:KV)(ps:List KV):dU (p::ps)=.int .i64 p.1:: .int .i64 p.2::dU ps:=by simp[dU]
theorem jV:∀ps:List KV,(dU ps).length=ps.length * 2
 | []=>rfl
 |p::ps=>by rw[je,List.length_cons,List.length_cons,jV ps,List.length_cons];omega
theorem jW:∀(ps:List KV) (i:Nat) (p:KV),ps[i]?=some p→(dU ps)[i * 2]?=some (.int .i64 p.1)∧(dU ps)[i * 2+1]?=some (.int .i64 p.2)
 | [],i,p,h=>by cases h
 |q::ps,0,p,h=>by
  simp at h;subst h
  rw[je];exact⟨rfl,rfl⟩
 |q::ps,i+1,p,h=>by
  have:=jW ps i p (by simpa using h)
  rw[je,show(i+1) * 2=i * 2+1+1 by omega]
  exact this
theorem vC:∃i:TypeInfo,Tryz.prog.info? 88=some i∧i.zero=some (.agg #[.int .i64 0,.int .i64 0])∧i.size=2∧i.bytes=16:=by
 have h1:(Tryz.prog.info? 88).map (·.size)=some 2:=by kernel_rfl
 have h2:(Tryz.prog.info? 88).bind (·.zero)=some (.agg #[.int .i64 0,.int .i64 0]):=by kernel_rfl
 have h3:(Tryz.prog.info? 88).map (·.bytes)=some 16:=by kernel_rfl
 cases q:Tryz.prog.info? 88 with
 |none=>rw[q] at h1;simp at h1
 |some i=>rw[q] at h1 h2 h3;exact⟨i,rfl,by simpa using h2,by simpa using h1,by simpa using h3⟩
def PRw (base:Nat)(w:World)(v:Value)(ps:List KV):Prop:=w.ownsRow base 88 2 v ps.length (dU ps)
theorem PRw.nil (base:Nat)(w:World):PRw base w (.slice none 0 0) []:=World.ownsRow_nil w base _ 2
theorem PRw.keep {base:Nat}{w w':World}{v:Value}{ps:List KV}(h:PRw base w v ps){S:Nat→Prop}(hW:Turned S w w')(hs:∀k,base≤k→¬S k):PRw base w' v ps:=kK h hW hs
theorem PRw.more {base:Nat}{w w':World}{v:Value}{ps:List KV}(h:PRw base w v ps)(hW:ae w w'):PRw base w' v ps:=kK h hW (fun _ _ q=>q)
theorem PRw.mono {base base':Nat}{w:World}{v:Value}{ps:List KV}(h:PRw base w v ps)(hb:base'≤base):PRw base' w v ps:=nR h hb
theorem PRw.reads {base:Nat}{w:World}{v:Value}{ps:List KV}(h:PRw base w v ps):∃a cap,v=.slice a ps.length cap∧pd w a ps∧∀k,ip a k→base≤k:=by
 rcases h.2 with⟨rfl,h0⟩|⟨g,cap,cur,rfl,hb,hg,_,_,hs,ht⟩
 ·have:ps= []:=List.length_eq_zero_iff.1 h0
  subst this
  exact⟨none,0,rfl,.inl rfl,fun k hk=>by cases hk⟩
 ·refine⟨_,cap,rfl,.inr ⟨g,0,rfl,ac hg,fun i t hi=>?_⟩,fun k hk=>by cases hk;exact hb⟩
  have hil:=(List.getElem?_eq_some_iff.1 hi).1
  have hcell:∀j u,(dU ps)[j]?=some u→w.cell? ⟨g,0+j,none⟩=some u:=fun j u hj=>by
   have hj':j<ps.length * 2:=by have:=(List.getElem?_eq_some_iff.1 hj).1;rw[jV] at this;exact this
   have e:cur.toList[j]?=some u:=by
    have h1:(cur.toList.take (ps.length * 2))[j]?=some u:=by rw[ht];exact hj
    rw[List.getElem?_take,if_pos (by omega)] at h1
    exact h1
   simp[World.cell?,hg]
   simpa using e
  obtain⟨p1,p2⟩:=jW ps i t hi
  exact⟨hcell _ _ p1,by have:=hcell _ _ p2;rwa [←Nat.add_assoc] at this⟩
theorem yO {ops:Array Oper}{rest:List Oper}{o:Oper}{a:Act}{Q:Exit→Act→World→Prop}{S:Nat→Prop}{w wa:World}{v:Value}{ps:List KV}(p q:Int)(hgd:o.guard=none)(s x:Operand)
 (ho:o.op=.call { callee:= .builtin .append,args:= #[s,x],argTypes:= #[39,39] })
 (hs:a.eval s=v) (hn:PRw wa.heap.size w v ps) (hW:Turned S wa w) (hl:ps.length≤1000000)
 (hx:a.eval x=.slice (some ⟨w.heap.size,0,none⟩) 1 1)
 (h:∀g cap w',PRw wa.heap.size w' (.slice (some ⟨g,0,none⟩) (ps.length+1) cap) (ps++ [(p,q)])→Turned S wa w'→(∀k ob,w.heap[k]?=some ob→v.ownBlock≠some k→w'.heap[k]?=some ob)→wpList Tryz.prog ops Q rest (a.put o.dst (.slice (some ⟨g,0,none⟩) (ps.length+1) cap)) w'):wpList Tryz.prog ops Q (o::rest) a (w.alloc (.cells #[.int .i64 p,.int .i64 q] 88)):=by
 obtain⟨i,i1,i2,i3,i4⟩:=vC
 have hn':=hn.more ((ae.refl w).alloc (.cells #[.int .i64 p,.int .i64 q] 88))
 have hB:=a7 w (.cells #[.int .i64 p,.int .i64 q] 88)
 refine wpList_append_lies _ hgd s x 39 ho wa.heap.size 88 i _ 2 16 Tryz.underlying39 i1 i2 i3 i4 rfl (by omega) v ps.length _ hs hn' ⟨w.heap.size,0,none⟩ 1 1 [.int .i64 p,.int .i64 q] hx (by simp)
  (fun j u hu=>World.news_of_block hB j u (by simpa using hu)) (by intro u hu;simp at hu;rcases hu with rfl|rfl<;>rfl) (by omega) (by simp only[maxLen];omega) (by omega) (by have:=hW.size;simp;omega) _ rfl ?_
 intro g cap w1 hown hgrow _ _
 refine h g cap w1 ?_ (iD (hW.alloc _) hn' hgrow) (fun k ob hk hne=>?_)
 ·unfold PRw
  rw[List.length_append,jd]
  exact hown
 ·rw[hgrow.block k (by have:=ac hk;simp;omega) (Ne.symm hne),Below.heap_alloc _ _ _ (ac hk)];exact hk
theorem qm {P:Program}(w:World)(d:Nat)(t:TypeId) {a b c}(h:P.underlying t=some (.func a b c))(f:Fn)(xs ys:Array Value):
 (Op.equalIn (d+1) t (.func f xs ys) .nilFunc).run P w=.ok false w:=by
 simp[Op.equalIn,run_underlying h]
theorem kL {P:Program}(w:World)(t:TypeId) {a b c}(h:P.underlying t=some (.func a b c))(f:Fn)(xs ys:Array Value):Sem.run P (binOp BinOp.eql t (Value.func f xs ys) Value.nilFunc) w=.ok (.bool false) w:=by
 have:Sem.run P (Op.equal t (Value.func f xs ys) Value.nilFunc) w=.ok false w:=qm w 9999 t h f xs ys
 simp[binOp,this]
theorem aB {w:World}{b:Nat}{v:Value}{T:TypeId}(h:w.heap[b]?=some (.cells #[v] T (0,0))):w.cell? ⟨b,0,none⟩=some v∧w.frozen? ⟨b,0,none⟩=false∧b<w.heap.size :=
 ⟨by simp[World.cell?,h],by simp[World.frozen?,h],ac h⟩
theorem kM {w:World}{b:Nat}{v:Value}{T:TypeId}(x:Value)(h:w.heap[b]?=some (.cells #[v] T (0,0))):(w.setCell ⟨b,0,none⟩ x).heap[b]?=some (.cells #[x] T (0,0)):=by
 have:=bo (o:=0) x h
 simpa using this
structure xg (wa W:World)(b:Nat)(ps:List KV):Prop where
 ex:∃v,W.heap[b]?=some (.cells #[v] 39 (0,0))∧PRw wa.heap.size W v ps
 turn:Turned (fun k=>k=b) wa W
theorem xg.more {wa W W':World}{b:Nat}{ps:List KV}(h:xg wa W b ps)(t:ae W W'):xg wa W' b ps:=by
 obtain⟨v,hb,hv⟩:=h.ex
 exact⟨⟨v,t.block hb,hv.more t⟩,am (F':=fun _=>False) h.turn t (fun _ q=>q.elim)⟩
theorem Kc (wa W:World)(b:Nat)(ps:List KV)(x y:Int)(hlt:b<wa.heap.size)(h:xg wa W b ps)(hl:ps.length≤100000):
 Calls Tryz.prog 106 #[.int .i64 x,.int .i64 y,.pointer (some ⟨b,0,none⟩)] W fun e w'=>e=.returned (.bool true)∧xg wa w' b (ps++ [(x,y)]):=by
 obtain⟨v,hb,hv⟩:=h.ex
 obtain⟨c0,f0,l0⟩:=aB hb
 have HB:=hQQ hb
 have HV:=hQQ hv
 have HT:=hQQ h.turn
 have FIN:Hq (∀v' w',PRw wa.heap.size w' v' (ps++ [(x,y)])→Turned (fun k=>k=b) wa w'→w'.heap[b]?=some (.cells #[v] 39 (0,0))→xg wa (w'.setCell ⟨b,0,none⟩ v') b (ps++ [(x,y)])):=hQQ fun v' w' hp ht hbb =>
  ⟨⟨v',kM v' hbb,hp.keep (bz (S:=fun k=>k=b) (Turned.refl _ w') (fun _=>rfl) v') (fun k hk e=>by omega)⟩,bz ht (fun _=>rfl) v'⟩
 have NE:Hq (∀k,v.ownBlock=some k→k≠b):=hQQ fun k hk e=>by have:=hv.lt k hk;omega
 clear h hb hv
 go_enter Tryz.func106,Tryz.ntmps106
 go_wp2_with (at_builtin;refine yO (S:=fun k=>k=b) (wa:=wa) (v:=v) (ps:=ps) x y rfl _ _ rfl rfl HV.o HT.o (by omega) rfl ?_;intro g' c' w1 hp1 ht1 hk1;have H1:=hQQ hp1;have T1:=hQQ ht1;have B1:=hQQ (hk1 b _ HB.o (fun e=>NE.o b e rfl));have c1:=(aB B1.o).1;have f1:=(aB B1.o).2.1;clear hp1 ht1 hk1)
 go_ret
 exact⟨rfl,FIN.o _ _ H1.o T1.o B1.o⟩
theorem EJ (F:Nat→Prop)(q:Nat)(D:List KV)(b:Nat)(W:World)(h:fl W F q D)(hb:W.heap[b]?=some (.cells #[.slice none 0 0] 39 (0,0)))(hF:¬F b):
 Calls Tryz.prog 105 #[.pointer (some ⟨q,0,none⟩),.func (.func 106) #[] #[.pointer (some ⟨b,0,none⟩)]] W fun e w'=>e=.returned (.tuple #[])∧Turned (fun k=>k=b) W w'∧∃v,w'.heap[b]?=some (.cells #[v] 39 (0,0))∧PRw W.heap.size w' v D:=by
 have hq:∀w,Sem.run Tryz.prog (binOp BinOp.eql 132 (Value.func (.func 106) #[] #[.pointer (some ⟨b,0,none⟩)]) Value.nilFunc) w=.ok (.bool false) w:=fun w=>kL w _ Tryz.underlying132 _ _ _
 have hlb:=ac hb
 have hsm:=h.small
 have CP:=hQQ (J8 F q D W h)
 have HB:=hQQ hb
 clear h hb hF
 go_enter Tryz.func105,Tryz.ntmps105
 go_wp2_with fail
 refine CP.o.mono ?_
 rintro e w1 ⟨Fc,c,rfl,mc,M1,nc⟩
 have MC:=hQQ mc
 have K1:=hQQ M1
 have T0:=hQQ (show xg w1 w1 b [] from⟨⟨_,M1.block HB.o,PRw.nil _ _⟩,Turned.refl _ _⟩)
 have hlb1:b<w1.heap.size:=Nat.lt_of_lt_of_le hlb M1.size
 have NC:Hq (∀x,Fc x→¬x=b):=hQQ (fun x hx q=>by have:=nc x hx;omega)
 have FIN:Hq (∀wr,xg w1 wr b D→Turned (fun k=>k=b) W wr∧∃v,wr.heap[b]?=some (.cells #[v] 39 (0,0))∧PRw W.heap.size wr v D):=hQQ fun wr ht=>by
  obtain⟨v,h1,h2⟩:=ht.ex
  exact⟨(Turned.mono K1.o (fun _ _ q=>q.elim)).trans ht.turn,v,h1,h2.mono K1.o.size⟩
 clear mc M1 nc
 go_wp2_with fail
 refine(Hf Fc c D w1 MC.o).mono ?_
 rintro e w2 ⟨rfl,h2⟩
 obtain rfl:w2=w1:=h2
 go_wp2_with fail
 go_loopw [15] (fun i wr=>∃t:Nat,t≤D.length∧i=.int .i64 (t:Nat)∧xg w2 wr b (D.take t)) (fun i _=>D.length-(intOf i).toNat)
 case atStart=>exact⟨0,Nat.zero_le _,rfl,T0.o⟩
 case round =>
  obtain⟨t,ht,rfl,htell⟩:=hrel
  have T3:=hQQ htell;have C3:=hQQ (MC.o.keep htell.turn NC.o)
  clear htell
  by_cases hlt3:t<D.length
  ·obtain⟨x,hx⟩:∃x,D[t]?=some x:=⟨_,List.getElem?_eq_getElem hlt3⟩
   have TK:Hq (D.take (t+1)=D.take t++ [x]):=hQQ (by rw[List.take_add_one,hx];rfl)
   have HX:=hQQ hx
   clear hx
   obtain⟨xk,xv⟩:=x
   go_wp2_with fail
   refine(OH Fc c D t (xk,xv) wr C3.o HX.o).mono ?_
   rintro e w4 ⟨rfl,n4,rfl⟩
   have C4:=hQQ (C3.o.more (fX wr n4));have T4:=hQQ (T3.o.more (fX wr n4))
   clear C3 T3
   generalize wr.drewN n4=w4 at C4 T4⊢
   simp only
   go_wp2_with fail
   refine(Kc w2 w4 b (D.take t) xk xv hlb1 T4.o (by simp;omega)).mono ?_
   rintro e w5 ⟨rfl,htell⟩
   have T5:=hQQ htell
   clear htell C4 T4
   go_wp2_with fail
   go_roundw
   case rel=>exact⟨t+1,by omega,by go_num,by rw[TK.o];exact T5.o⟩
   case measure=>simp[intOf];omega
  ·obtain rfl:t=D.length:=by omega
   have FIN2:Hq (∀wr',wr'=wr→Turned (fun k=>k=b) W wr'∧∃v,wr'.heap[b]?=some (.cells #[v] 39 (0,0))∧PRw W.heap.size wr' v D):=hQQ (fun wr' e=>by subst e;exact FIN.o _ (by have:=T3.o;rwa [List.take_length] at this))
   go_wp2_with fail
   go_end0
   exact⟨rfl,FIN2.o _ rfl⟩
theorem Ds (F:Nat→Prop)(p q:Nat)(D:List KV)(W:World)(hp:W.cell? ⟨p,2,none⟩=some (.pointer (some ⟨q,0,none⟩)))(hm:fl W F q D):
 Calls Tryz.prog 78 #[.pointer (some ⟨p,0,none⟩)] W fun e w'=>∃v,e=.returned v∧PRw W.heap.size w' v D∧ae W w':=by
 have M1:ae W (W.alloc (.cells #[.slice none 0 0] 39)):=(ae.refl W).alloc _
 have hb:=a7 W (.cells #[.slice none 0 0] 39)
 have E:=hQQ (EJ F q D W.heap.size _ (hm.more M1) hb (fun r=>by have:=hm.lt _ r;omega))
 have hp1:=M1.cell hp
 have hlp:=eQ hp
 have HM:=hQQ M1
 clear hm hb M1
 go_enter Tryz.func78,Tryz.ntmps78
 go_wp2_with fail
 refine E.o.mono ?_
 rintro e w1 ⟨rfl,ht,v,hv,hr⟩
 have FIN:Hq (PRw W.heap.size w1 v D∧ae W w1):=hQQ ⟨hr.mono (by simp),Turned.mono (am (F:=fun _=>False) HM.o ht (fun k hk=> .inr (by omega))) (fun _ _ q=>q)⟩
 obtain⟨c0,f0,l0⟩:=aB hv
 clear ht hr hv
 go_wp2_with fail
 go_ret
 exact⟨_,rfl,FIN.o⟩
theorem Bi (v:Value)(w:World):(Instr.typeAssert (.iface 113 v) 20 113 true).run Tryz.prog w=.ok (.tuple #[v,.bool true]) w:=by kernel_rfl
theorem yP (w:World):(Instr.typeAssert .nilIface 20 113 true).run Tryz.prog w=.ok (.tuple #[.agg #[.pointer none],.bool false]) w:=by kernel_rfl
def xh (w:World)(p bn:Nat)(a:Int)(w':World):Prop:=bB w' p a∧w'.heap[bn]?=some (.cells #[.int .i64 a] 3 (0,0))∧Turned (fun k=>k=p∨k=bn) w w'
theorem vD (p bv bn:Nat)(a n:Int)(w:World)(h:bB w p a)(hv:w.heap[bv]?=some (.cells #[.pointer (some ⟨p,0,none⟩)] 43 (0,0)))(hn:w.heap[bn]?=some (.cells #[.int .i64 n] 3 (0,0)))(h1:bv≠p)(h2:bn≠p)(h3:bv≠bn):
 CallsD Tryz.prog 77 #[.pointer (some ⟨bv,0,none⟩),.pointer (some ⟨bn,0,none⟩)] (.panicking (bg p)) w fun e u' w' =>
  e=.returned (.tuple #[])∧u'= .panicking [{ v:= .iface 113 (.agg #[.pointer (some ⟨p,0,none⟩)]),recovered:=true }]∧xh w p bn a w':=by
 have hq:=fun w=>Hm ⟨p,0,none⟩ w
 obtain⟨M,q,hp⟩:=h
 obtain⟨c0,c1,c2,c3,cf,cl⟩:=cP hp
 obtain⟨v0,vf,vl⟩:=aB hv
 obtain⟨n0,nf,nl⟩:=aB hn
 refine callsD_of_wpS Tryz.func77 rfl fun c₀ cs hu=>?_
 apply wpS_seq
 apply wpS_region
 simp[wpOpsS,go_sem,recoverD,hu,Tryz.ntmps77,Exit.thenS,v0,c0,cf,vf]
 apply wpS_seq
 apply wpS_seq
 apply wpS_region
 simp[wpOpsS,go_sem,recoverD,hu,bg,Exit.thenS,Array.replicate_succ,v0,c0,cf,vf,Bi]
 have t1:Turned (fun k=>k=p∨k=bn) w ((w.setCell ⟨p,0,none⟩ (.pointer none)).alloc (.cells #[.pointer (some ⟨p,0,none⟩)] 113)):=Turned.alloc (bz (Turned.refl _ w) (fun _=> .inl rfl) _) _
 have hp1:((w.setCell ⟨p,0,none⟩ (.pointer none)).alloc (.cells #[.pointer (some ⟨p,0,none⟩)] 113)).heap[p]?=some (.cells (cu none M q a) 110 (0,0)):=by
  rw[Below.heap_alloc _ _ _ (by simpa using cl)]
  have:=bo (o:=0) (.pointer none) hp
  simpa [cu] using this
 have hv1:((w.setCell ⟨p,0,none⟩ (.pointer none)).alloc (.cells #[.pointer (some ⟨p,0,none⟩)] 113)).heap[bv]?=some (.cells #[.pointer (some ⟨p,0,none⟩)] 43 (0,0)):=by
  rw[Turned.block t1 bv vl (by omega)];exact hv
 have hs1:=a7 (w.setCell ⟨p,0,none⟩ (.pointer none)) (.cells #[.pointer (some ⟨p,0,none⟩)] 113)
 rw[show(w.setCell ⟨p,0,none⟩ (.pointer none)).heap.size=w.heap.size by simp] at hs1
 have hn1:((w.setCell ⟨p,0,none⟩ (.pointer none)).alloc (.cells #[.pointer (some ⟨p,0,none⟩)] 113)).heap[bn]?=some (.cells #[.int .i64 n] 3 (0,0)):=by
  rw[Below.heap_alloc _ _ _ (by simpa using nl),Below.heap_setCell _ _ _ _ h2];exact hn
 generalize (w.setCell ⟨p,0,none⟩ (.pointer none)).alloc (.cells #[.pointer (some ⟨p,0,none⟩)] 113)=W1 at t1 hp1 hv1 hs1 hn1⊢
 generalize w.heap.size=bs at hs1⊢
 obtain⟨_,_,_,x3,_,xl⟩:=cP hp1
 obtain⟨y0,yf,yl⟩:=aB hv1
 obtain⟨z0,zf,zl⟩:=aB hs1
 obtain⟨n1,nf1,nl1⟩:=aB hn1
 have FIN:Hq (xh w p bn a (W1.setCell ⟨bn,0,none⟩ (.int .i64 a))):=hQQ ⟨⟨M,q,by rw[Below.heap_setCell _ _ _ _ (Ne.symm h2)];exact hp1⟩,kM _ hn1,bz t1 (fun _=> .inr rfl) _⟩
 clear c0 c1 c2 c3 cf cl v0 vf vl n0 nf nl hp hv hn hp1 hv1 hs1 hn1 t1
 refine wpS_of_wp ?_
 go_wp2_with fail
 refine wpS_of_wp ?_
 go_wp2_with fail
 exact⟨rfl,_,rfl,_,results_none rfl _ _ _,rfl,rfl,FIN.o⟩
theorem sL (p bv bn M q:Nat)(n:Int)(w:World)(hp:w.heap[p]?=some (.cells (cu (some ⟨p,0,none⟩) M q (-1)) 110 (0,0)))(hv:w.heap[bv]?=some (.cells #[.pointer (some ⟨p,0,none⟩)] 43 (0,0)))(hn:w.heap[bn]?=some (.cells #[.int .i64 n] 3 (0,0)))(h1:bv≠p)(h2:bn≠p)(h3:bv≠bn):
 CallsD Tryz.prog 77 #[.pointer (some ⟨bv,0,none⟩),.pointer (some ⟨bn,0,none⟩)] .returning w fun e u' w' =>
  e=.returned (.tuple #[])∧u'= .returning∧xh w p bn (-1) w':=by
 obtain⟨c0,c1,c2,c3,cf,cl⟩:=cP hp
 obtain⟨v0,vf,vl⟩:=aB hv
 obtain⟨n0,nf,nl⟩:=aB hn
 refine callsD_of_wpS Tryz.func77 rfl fun c₀ cs hu=>?_
 apply wpS_seq
 apply wpS_region
 simp[wpOpsS,go_sem,recoverD,hu,Tryz.ntmps77,Exit.thenS,v0,c0,cf,vf]
 apply wpS_seq
 apply wpS_seq
 apply wpS_region
 simp[wpOpsS,go_sem,recoverD,hu,bg,Exit.thenS,Array.replicate_succ,v0,c0,cf,vf,yP]
 have t1:Turned (fun k=>k=p∨k=bn) w ((w.setCell ⟨p,0,none⟩ (.pointer none)).alloc (.cells #[.pointer none] 113)):=Turned.alloc (bz (Turned.refl _ w) (fun _=> .inl rfl) _) _
 have hp1:((w.setCell ⟨p,0,none⟩ (.pointer none)).alloc (.cells #[.pointer none] 113)).heap[p]?=some (.cells (cu none M q (-1)) 110 (0,0)):=by
  rw[Below.heap_alloc _ _ _ (by simpa using cl)]
  have:=bo (o:=0) (.pointer none) hp
  simpa [cu] using this
 have hv1:((w.setCell ⟨p,0,none⟩ (.pointer none)).alloc (.cells #[.pointer none] 113)).heap[bv]?=some (.cells #[.pointer (some ⟨p,0,none⟩)] 43 (0,0)):=by
  rw[Turned.block t1 bv vl (by omega)];exact hv
 have hn1:((w.setCell ⟨p,0,none⟩ (.pointer none)).alloc (.cells #[.pointer none] 113)).heap[bn]?=some (.cells #[.int .i64 n] 3 (0,0)):=by
  rw[Below.heap_alloc _ _ _ (by simpa using nl),Below.heap_setCell _ _ _ _ h2];exact hn
 generalize (w.setCell ⟨p,0,none⟩ (.pointer none)).alloc (.cells #[.pointer none] 113)=W1 at t1 hp1 hv1 hn1⊢
 obtain⟨_,_,_,x3,_,xl⟩:=cP hp1
 obtain⟨y0,yf,yl⟩:=aB hv1
 obtain⟨n1,nf1,nl1⟩:=aB hn1
 have FIN:Hq (xh w p bn (-1) (W1.setCell ⟨bn,0,none⟩ (.int .i64 (-1)))):=hQQ ⟨⟨M,q,by rw[Below.heap_setCell _ _ _ _ (Ne.symm h2)];exact hp1⟩,kM _ hn1,bz t1 (fun _=> .inr rfl) _⟩
 clear c0 c1 c2 c3 cf cl v0 vf vl n0 nf nl hp hv hn hp1 hv1 hn1 t1
 refine wpS_of_wp ?_
 go_wp2_with fail
 refine wpS_of_wp ?_
 go_wp2_with fail
 refine⟨rfl,.returning,?_,_,results_none rfl _ _ _,rfl,rfl,FIN.o⟩
 cases c₀
 simp_all
structure Hp (w W:World)(F:Nat→Prop)(p bv bn:Nat)(kn:Int→Option Int):Prop where
 view:aD W F p kn []
 v:W.heap[bv]?=some (.cells #[.pointer (some ⟨p,0,none⟩)] 43 (0,0))
 n:W.heap[bn]?=some (.cells #[.int .i64 0] 3 (0,0))
 more:ae w W
 new:∀k,F k→w.heap.size≤k
 fv:¬F bv
 fn:¬F bn
 vn:bv≠bn
 lv:w.heap.size≤bv
 ln:w.heap.size≤bn
 lp:w.heap.size≤p
theorem yQ {w w1:World}{M q n:Nat}{F0:Nat→Prop}{kn:Int→Option Int}(hk:KnownAt w M n kn)(hm:fl w1 F0 q [])(hM:ae (w.alloc (.cells #[.int .i64 0] 3)) w1)(hn:∀k,F0 k→(w.alloc (.cells #[.int .i64 0] 3)).heap.size≤k):
 ∃F,Hp w ((w1.alloc (.cells (cu (some ⟨w1.heap.size,0,none⟩) M q (-1)) 110)).alloc (.cells #[.pointer (some ⟨w1.heap.size,0,none⟩)] 43)) F w1.heap.size (w1.heap.size+1) w.heap.size kn:=by
 have m0:ae w (w.alloc (.cells #[.int .i64 0] 3)):=(ae.refl w).alloc _
 have hb:=a7 w (.cells #[.int .i64 0] 3)
 have hs0:(w.alloc (.cells #[.int .i64 0] 3)).heap.size=w.heap.size+1:=by simp
 rw[hs0] at hn
 have h1:=hM.size
 rw[hs0] at h1
 have hp:=a7 w1 (.cells (cu (some ⟨w1.heap.size,0,none⟩) M q (-1)) 110)
 have m2:ae w1 (w1.alloc (.cells (cu (some ⟨w1.heap.size,0,none⟩) M q (-1)) 110)):=(ae.refl w1).alloc _
 have hs2:(w1.alloc (.cells (cu (some ⟨w1.heap.size,0,none⟩) M q (-1)) 110)).heap.size=w1.heap.size+1:=by simp
 generalize w1.alloc (.cells (cu (some ⟨w1.heap.size,0,none⟩) M q (-1)) 110)=w2 at hp m2 hs2⊢
 have hv:=a7 w2 (.cells #[.pointer (some ⟨w1.heap.size,0,none⟩)] 43)
 rw[hs2] at hv
 have m3:ae w2 (w2.alloc (.cells #[.pointer (some ⟨w1.heap.size,0,none⟩)] 43)):=(ae.refl w2).alloc _
 have hs3:(w2.alloc (.cells #[.pointer (some ⟨w1.heap.size,0,none⟩)] 43)).heap.size=w1.heap.size+2:=by simp[hs2]
 generalize w2.alloc (.cells #[.pointer (some ⟨w1.heap.size,0,none⟩)] 43)=w3 at hv m3 hs3⊢
 have lM:=hk.lt
 have all:ae w w3:=((m0.trans hM).trans m2).trans m3
 refine⟨fun k=>F0 k∨k=w1.heap.size,⟨⟨⟨M,q,n,F0,m3.block hp,hk.more all,(hm.more m2).more m3,.inr rfl,fun k hk=>⟨.inl hk,fun e=>by have:=hm.lt k hk;omega⟩,fun r=>?_⟩,fun k r=>?_⟩,hv,m3.block (m2.block (hM.block hb)),all,fun k r=>?_,fun r=>?_,fun r=>?_,by omega,by omega,Nat.le_refl _,by omega⟩⟩
 ·rcases r with r|r
  ·have:=hn M r;omega
  ·omega
 ·rcases r with r|r
  ·have:=hm.lt k r;omega
  ·omega
 ·rcases r with r|r
  ·have:=hn k r;omega
  ·omega
 ·rcases r with r|r
  ·have:=hm.lt _ r;omega
  ·omega
 ·rcases r with r|r
  ·have:=hn _ r;omega
  ·omega
theorem pf {w W w2 w3:World}{F S:Nat→Prop}{p bv bn:Nat}{kn:Int→Option Int}(hb:Hp w W F p bv bn kn)(t:Turned (fun k=>F k∨S k) W w2)(t':Turned (fun k=>k=p∨k=bn) w2 w3):Turned S w w3:=by
 have m:Turned S w W:=Turned.mono hb.more (fun _ _ q=>q.elim)
 have h1:Turned S w w2:=am m t (fun k q=>by rcases q with q|q;exact .inr (hb.new k q);exact .inl q)
 exact am h1 t' (fun k q=>by have:=hb.lp;have:=hb.ln;rcases q with q|q<;>exact .inr (by omega))
theorem rS {w W w2:World}{F S:Nat→Prop}{p bv bn:Nat}{kn:Int→Option Int}(hb:Hp w W F p bv bn kn)(hS:∀k,S k→k<w.heap.size)(t:Turned (fun k=>F k∨S k) W w2):
 w2.heap[bv]?=some (.cells #[.pointer (some ⟨p,0,none⟩)] 43 (0,0))∧w2.heap[bn]?=some (.cells #[.int .i64 0] 3 (0,0))∧bv≠p∧bn≠p:=by
 obtain⟨M,q,n,F0,hp,_,_,fp,_⟩:=hb.view.ex
 refine⟨?_,?_,fun e=>hb.fv (e▸fp),fun e=>hb.fn (e▸fp)⟩
 ·rw[Turned.block t bv (ac hb.v) (fun q=>by rcases q with q|q;exact hb.fv q;have:=hS _ q;have:=hb.lv;omega)];exact hb.v
 ·rw[Turned.block t bn (ac hb.n) (fun q=>by rcases q with q|q;exact hb.fn q;have:=hS _ q;have:=hb.ln;omega)];exact hb.n
attribute [local go_sem] Oper.semAt_some
theorem jX {w w':World}(h:Below w.heap.size w w'):ae w w':=⟨h.1,h.2,h.3,h.4,fun k hk _=>h.5 k hk⟩
def fg (a b:Nat)(w w':World):Prop:=w'.heap[a]?=w.heap[a]? ∧w'.heap[b]?=w.heap[b]?
theorem fg.refl (a b:Nat)(w:World):fg a b w w:=⟨rfl,rfl⟩
theorem fg.trans {a b:Nat}{w w' w'':World}(h:fg a b w w')(k:fg a b w' w''):fg a b w w'':=⟨k.1.trans h.1,k.2.trans h.2⟩
theorem fg.cell2 {a b o:Nat}{w w':World}{v:Value}(h:fg a b w w')(hc:w.cell? ⟨b,o,none⟩=some v):w'.cell? ⟨b,o,none⟩=some v:=by
 rw[World.cell?_of_block (w:=w) h.2];exact hc
theorem sM {a b n:Nat}(ha:a<n)(hb:b<n)(W:World)(l:Nat)(o o':Obj)(hl:n≤l)(h:W.heap[l]?=some o) (_:o.isCells=false) (_:o.isWalk=false):fg a b W (W.putObj l o'):=
 ⟨World.putObj_heap_other (by omega),World.putObj_heap_other (by omega)⟩
def MK (l:List KV)(i:Nat):KV:=l.getD i (0,0)
attribute [local go_sem] Oper.semAt_some
def Pn (ps:List KV)(pre:List Nat)(x:Int):Option Int:=look (pre.reverse.map (MK ps)) x
structure Pr (w:World)(ps:List KV)(pre:List Nat)(W:World):Prop where
 box:Boxed W (w.heap.size+1) 83 (.map (some w.heap.size))
 known:KnownAt W w.heap.size pre.length (Pn ps pre)
 below:Below w.heap.size w W
 big:w.heap.size+3≤W.heap.size
def wAt (ws:List Int)(i:Int):Int:=ws.getD i.toNat 0
def bZ (ws:List Int)(D:List KV):List Int:=D.foldl (fun z p=>z.set p.1.toNat p.2) ws
def j6 (ws:List Int)(D:List KV):Bool:=D.all fun p=>decide (p.1<ws.length)
def doP (sem:List KV→Ran)(ws:List Int):Nat→List KV→Option (List Int×List KV)
 | 0,_=>none
 |n+1,K=>match sem K with
  | .need a=>if a<ws.length then doP sem ws n (K++ [(a,wAt ws a)]) else none
  | .done D=>if j6 ws D then some (bZ ws D,K) else none
theorem dX (D:List KV):∀ws,(bZ ws D).length=ws.length:=by
 induction D with
 |nil=>intro ws;rfl
 |cons p D ih=>intro ws;show(bZ (ws.set _ _) D).length=_;rw[ih];simp
theorem yR (ws:List Int)(D:List KV)(p:KV):bZ ws (D++ [p])=(bZ ws D).set p.1.toNat p.2:=by simp[bZ,List.foldl_append]
theorem EK {D:List KV}{i:Nat}{p:KV}(h:D[i]?=some p):D.take (i+1)=D.take i++ [p]:=by rw[List.take_add_one,h];rfl
theorem Bj (ws:List Int)(D:List KV)(p:KV):j6 ws (D++ [p])=(j6 ws D && decide (p.1<ws.length)):=by simp[j6,List.all_append]
theorem EM {ws:List Int}{D:List KV}{i:Nat}{p:KV}(h:D[i]?=some p)(hp:¬p.1<ws.length):j6 ws D=false:=by
 unfold j6
 rw[List.all_eq_false]
 exact⟨p,List.mem_of_getElem? h,by simpa using hp⟩
structure jD (ws:List Int)(K:List KV):Prop where
 at':∀p∈K,0≤p.1∧p.1<ws.length∧p.2=wAt ws p.1
 once:(K.map (·.1)).Nodup
theorem ph (ws:List Int):jD ws []:=⟨(fun p h=>by cases h),by simp⟩
theorem vE {ws:List Int}{K:List KV}(h:jD ws K){a:Int}(h0:0≤a)(h1:a<ws.length)(hn:look K a=none):jD ws (K++ [(a,wAt ws a)]):=by
 refine⟨fun p hp=>?_,?_⟩
 ·rcases List.mem_append.1 hp with q|q
  ·exact h.at' p q
  ·simp at q;subst q;exact⟨h0,h1,rfl⟩
 ·rw[List.map_append,List.nodup_append]
  refine⟨h.once,by simp,fun x hx y hy e=>?_⟩
  simp at hy;subst hy;subst e
  obtain⟨p,hp,rfl⟩:=List.mem_map.1 hx
  exact ie.1 hn p hp rfl
theorem lN (M:Nat):∀xs:List Int,xs.Nodup→(∀x∈xs,0≤x∧x<M)→xs.length≤M:=by
 induction M with
 |zero =>
  intro xs _ h
  cases xs with
  |nil=>simp
  |cons a l=>have:=h a (by simp);omega
 |succ M ih =>
  intro xs hn h
  by_cases hm:(M:Int)∈xs
  ·have h1:=ih (xs.erase (M:Int)) (hn.erase _) (fun x hx=>by
    have hx':=(List.Nodup.mem_erase_iff hn).1 hx
    have:=h x hx'.2
    have:=hx'.1
    omega)
   have h2:=List.length_erase_of_mem hm
   omega
  ·have h1:=ih xs hn (fun x hx=>by
    have:=h x hx
    have:x≠(M:Int):=fun e=>hm (e▸hx)
    omega)
   omega
theorem jD.len {ws:List Int}{K:List KV}(h:jD ws K):K.length≤ws.length:=by
 have:=lN ws.length (K.map (·.1)) h.once fun x hx=>by
  obtain⟨p,hp,rfl⟩:=List.mem_map.1 hx
  exact⟨(h.at' p hp).1,(h.at' p hp).2.1⟩
 simpa using this
theorem vF {K:List KV}{a x:Int}(h:look K a=none):(fun y=>if y=a then some x else look K y)=look (K++ [(a,x)]):=by
 funext y
 rw[lL,gi]
 by_cases e:y=a
 ·subst e;rw[if_pos rfl,if_pos rfl,h];rfl
 ·rw[if_neg e,if_neg (fun q=>e q.symm),Hd];cases look K y<;>rfl
def OkW (ws:List Int):Prop:=∀x∈ws,W64 x
theorem Bn {ws:List Int}(h:OkW ws)(i:Int):W64 (wAt ws i):=by
 unfold wAt
 by_cases q:i.toNat<ws.length
 ·have:ws.getD i.toNat 0=ws[i.toNat]:=by simp[List.getD,q]
  rw[this];exact h _ (List.getElem_mem q)
 ·have:ws.getD i.toNat 0=0:=by simp[List.getD,List.getElem?_eq_none (show ws.length≤i.toNat by omega)]
  rw[this];unfold W64;omega
def xi (ws:List Int)(b:Nat)(sem:List KV→Ran):Prop:=∀K,jD ws K→MH (look K) b (sem K)
theorem yS {b:Nat}{sem:List KV→Ran}{ws:List Int}{K:List KV}{a:Int}{R:Option (List Int×List KV)}(hK:jD ws K)(hf:MH (look K) b (sem K))(hs:sem K=.need a)(ha:a<ws.length)(hR:doP sem ws (ws.length+1-K.length) K=R):
 jD ws (K++ [(a,wAt ws a)])∧doP sem ws (ws.length+1-(K++ [(a,wAt ws a)]).length) (K++ [(a,wAt ws a)])=R∧0≤a∧look K a=none:=by
 rw[hs] at hf
 have h1:=vE hK hf.1 ha hf.2.2
 have h2:=hK.len
 refine⟨h1,?_,hf.1,hf.2.2⟩
 rw[show ws.length+1-K.length=(ws.length-K.length)+1 by omega] at hR
 unfold doP at hR
 rw[hs] at hR
 simp only[if_pos ha] at hR
 rw[List.length_append,List.length_singleton,show ws.length+1-(K.length+1)=ws.length-K.length by omega]
 exact hR
theorem Dt {sem:List KV→Ran}{ws:List Int}{K:List KV}{a:Int}{R:Option (List Int×List KV)}(hK:jD ws K)(hs:sem K=.need a)(ha:¬a<ws.length)(hR:doP sem ws (ws.length+1-K.length) K=R):R=none:=by
 have h2:=hK.len
 rw[show ws.length+1-K.length=(ws.length-K.length)+1 by omega] at hR
 unfold doP at hR
 rw[hs] at hR
 simp only[if_neg ha] at hR
 exact hR.symm
theorem yT {sem:List KV→Ran}{ws:List Int}{K D:List KV}{R:Option (List Int×List KV)}(hK:jD ws K)(hs:sem K=.done D)(hR:doP sem ws (ws.length+1-K.length) K=R):R=if j6 ws D then some (bZ ws D,K) else none:=by
 have h2:=hK.len
 rw[show ws.length+1-K.length=(ws.length-K.length)+1 by omega] at hR
 unfold doP at hR
 rw[hs] at hR
 exact hR.symm
theorem pi {w w':World}{base:Nat}{e:TypeId}{s n:Nat}{v:Value}{xs:List Value}(h:w.ownsRow base e s v n xs)(hW:ae w w'):w'.ownsRow base e s v n xs:=by
 refine⟨h.1,?_⟩
 rcases h.2 with q|⟨g,cap,cur,h1,h2,h3,h4⟩
 ·exact .inl q
 ·exact .inr ⟨g,cap,cur,h1,h2,hW.block h3,h4⟩
theorem qW {w:World}{base base':Nat}{e:TypeId}{s n:Nat}{v:Value}{xs:List Value}(h:w.ownsRow base e s v n xs)(hb:base'≤base):w.ownsRow base' e s v n xs:=by
 refine⟨h.1,?_⟩
 rcases h.2 with q|⟨g,cap,cur,h1,h2,h3,h4⟩
 ·exact .inl q
 ·exact .inr ⟨g,cap,cur,h1,by omega,h3,h4⟩
theorem uX {wa w w':World}{v:Value}{e:TypeId}{s n:Nat}{xs:List Value}(hW:ae wa w)(h:w.ownsRow wa.heap.size e s v n xs)(g:w.grownBy w' v.ownBlock):ae wa w' :=
 ⟨g.os.trans hW.os,g.tape.trans hW.tape,g.output.trans hW.output,Nat.le_trans hW.size g.size,fun k hk _=>by
  rw[g.block k (Nat.lt_of_lt_of_le hk hW.size) (by
   rcases h.2 with⟨rfl,_⟩|⟨b,cap,cur,rfl,hb,_⟩
   ·simp[Value.ownBlock]
   ·simp only[Value.ownBlock,ne_eq,Option.some.injEq];omega)]
  exact Turned.block hW k hk (fun q=>q)⟩
theorem jf:∃i:TypeInfo,Tryz.prog.info? 3=some i∧i.zero=some (.int .i64 0)∧i.size=1∧i.bytes=8:=by
 have h1:(Tryz.prog.info? 3).map (·.size)=some 1:=by kernel_rfl
 have h2:(Tryz.prog.info? 3).bind (·.zero)=some (.int .i64 0):=by kernel_rfl
 have h3:(Tryz.prog.info? 3).map (·.bytes)=some 8:=by kernel_rfl
 cases q:Tryz.prog.info? 3 with
 |none=>rw[q] at h1;simp at h1
 |some i=>rw[q] at h1 h2 h3;exact⟨i,rfl,by simpa using h2,by simpa using h1,by simpa using h3⟩
def Rw (base:Nat)(w:World)(v:Value)(xs:List Int):Prop:=w.ownsRow base 3 1 v xs.length (xs.map (Value.int .i64))
theorem Rw.nil (base:Nat)(w:World):Rw base w (.slice none 0 0) []:=World.ownsRow_nil w base _ 1
theorem Rw.more {base:Nat}{w w':World}{v:Value}{xs:List Int}(h:Rw base w v xs)(hW:ae w w'):Rw base w' v xs:=pi h hW
theorem Rw.mono {base base':Nat}{w:World}{v:Value}{xs:List Int}(h:Rw base w v xs)(hb:base'≤base):Rw base' w v xs:=by
 refine⟨h.1,?_⟩
 rcases h.2 with q|⟨g,cap,cur,h1,h2,h3,h4⟩
 ·exact .inl q
 ·exact .inr ⟨g,cap,cur,h1,by omega,h3,h4⟩
theorem Rw.reads {base:Nat}{w:World}{v:Value}{xs:List Int}(h:Rw base w v xs):
 ∃a cap,v=.slice a xs.length cap∧∀k,k<xs.length→∃g,a=some ⟨g,0,none⟩∧base≤g∧g<w.heap.size∧∀j,j<xs.length→w.cell? ⟨g,j,none⟩=some (.int .i64 (xs.getD j 0)):=by
 rcases h.2 with⟨rfl,h0⟩|⟨g,cap,cur,rfl,hb,hg,_,_,hs,ht⟩
 ·exact⟨none,0,by rw[h0],fun k hk=>by omega⟩
 ·refine⟨_,cap,rfl,fun k hk=>⟨g,rfl,hb,ac hg,fun j hj=>?_⟩⟩
  rw[World.cell?_of_block (w:=w) (w':=w) rfl]
  have e:cur.toList[j]?=some (.int .i64 (xs.getD j 0)):=by
   have h1:(cur.toList.take (xs.length * 1))[j]?=some (.int .i64 (xs.getD j 0)):=by
    rw[ht,List.getElem?_map,List.getElem?_eq_getElem hj];simp[List.getD,hj]
   rw[List.getElem?_take,if_pos (by omega)] at h1
   exact h1
  simp[World.cell?,hg]
  simpa using e
def yU (w:World)(xs:List Int)(e:Ending)(w':World):Prop:=∃v,e=.returned v∧Rw w.heap.size w' v xs∧ae w w'
theorem vG (xs:List Int)(v1 v2:Value)(b1 b2:Nat)(w:World)(hl:xs.length≤1000000)(h1:Rw b1 w v1 xs)(h2:Rw b2 w v2 xs):
 Calls Tryz.prog 35 #[v1,v2] w (aP w (.bool true)):=by
 obtain⟨a1,c1,rfl,r1⟩:=h1.reads
 obtain⟨a2,c2,rfl,r2⟩:=h2.reads
 clear h1 h2
 have HM:Hq (ae w w):=ae.refl w
 by_cases h0:xs.length=0
 ·rw[h0]
  clear r1 r2 h0 hl
  go_enter Tryz.func35,Tryz.ntmps35
  go_wp2_with fail
  go_loop [5] (fun i=>i=.int .i64 0) (fun _=>0)
  case atStart=>rfl
  case round =>
   obtain rfl:=hrel
   go_wp2_with fail
   go_ret
   exact⟨rfl,HM.o⟩
 ·obtain⟨g1,rfl,_,hg1,q1⟩:=r1 0 (by omega)
  obtain⟨g2,rfl,_,hg2,q2⟩:=r2 0 (by omega)
  have H1:=hQQ q1
  have H2:=hQQ q2
  clear r1 r2 q1 q2
  go_enter Tryz.func35,Tryz.ntmps35
  go_wp2_with fail
  go_loopw [5] (fun i wr=>∃k:Nat,k≤xs.length∧i=.int .i64 k∧ae w wr) (fun i _=>xs.length-(intOf i).toNat)
  case atStart=>exact⟨0,Nat.zero_le _,rfl,HM.o⟩
  case round =>
   obtain⟨k,hk,rfl,ht⟩:=hrel
   by_cases hlt:k<xs.length
   ·have x1:=ht.cell (H1.o k hlt)
    have x2:=ht.cell (H2.o k hlt)
    have Ht:=hQQ ht
    clear ht
    generalize xs.getD k 0=z at x1 x2
    go_wp2_with fail
    go_quiet (fail)
    go_wp2_with fail
    go_roundw
    case rel=>exact⟨k+1,by omega,by go_num,Ht.o.drewN _⟩
    case measure=>simp[intOf];omega
   ·go_wp2_with fail
    go_ret
    exact⟨rfl,ht⟩
def kN (w:World)(a:Option Addr)(zs:List Int):Prop :=
 zs= []∨∃s o,a=some ⟨s,o,none⟩∧s<w.heap.size∧∀i,i<zs.length→w.cell? ⟨s,o+i,none⟩=some (.int .i64 (zs.getD i 0))
theorem qX (a:Option Addr)(cap:Nat)(zs:List Int)(w:World)(h:kN w a zs)(hl:zs.length≤1000000):
 Calls Tryz.prog 41 #[.slice a zs.length cap] w fun e w'=>∃a' cap',e=.returned (.slice a' zs.length cap')∧RowAt w' 3 (zs.map (Value.int .i64)) a' cap'∧(∀k,cW a' k→w.heap.size≤k)∧ae w w':=by
 have fin:∀ {v':Value} {w':World},w'.ownsRow w.heap.size 3 1 v' zs.length (zs.map (Value.int .i64))→Below w.heap.size w w'→∃a' cap',Ending.returned v'= .returned (.slice a' zs.length cap')∧RowAt w' 3 (zs.map (Value.int .i64)) a' cap'∧(∀k,cW a' k→w.heap.size≤k)∧ae w w':=by
  intro v' w' ho hb
  obtain⟨a',cap',rfl,hr,hn,_⟩:=RowAt.of_own ho
  exact⟨a',cap',rfl,hr,hn,jX hb⟩
 cases a with
 |none =>
  obtain rfl:zs= []:=by
   rcases h with h|⟨s,o,h,_⟩
   ·exact h
   ·cases h
  refine(AnyG.slices_Clone_int_nil Tryz.lCloneN 0 cap w).mono ?_
  rintro e w' ⟨rfl,rfl⟩
  exact⟨none,0,rfl,RowAt.nil _ _,(fun k hk=>by cases hk),ae.refl _⟩
 |some b =>
  by_cases h0:zs= []
  ·subst h0
   refine(AnyG.slices_Clone_int_zero Tryz.lCloneN b cap w).mono ?_
   rintro e w' ⟨v',rfl,ho,_,hb⟩
   exact fin ho hb
  ·obtain⟨s,o,e,hs,hc⟩:=h.resolve_left h0
   cases e
   refine(AnyG.slices_Clone_int Tryz.lCloneN s o zs.length cap zs w (Nat.le_refl _) (by omega) hc).mono ?_
   rintro e w' ⟨v',rfl,ho,_,hb⟩
   rw[List.take_length] at ho
   exact fin ho hb
def jg (w:World)(zs:List Int)(D:List KV)(a:Option Addr)(cap:Nat)(vn:Value)(e:Ending)(w':World):Prop :=
 Turned (cW a) w w'∧((j6 zs D=true∧e=.returned (.tuple #[.slice a zs.length cap,vn,.int .i64 0])∧RowAt w' 3 ((bZ zs D).map (Value.int .i64)) a cap) ∨
  (j6 zs D=false∧e=.returned (.tuple #[.slice none 0 0,.slice none 0 0,.int .i64 3])))
theorem vH (zs:List Int)(D:List KV)(a ad an:Option Addr)(cap cd n cn:Nat)(w:World)(hr:RowAt w 3 (zs.map (Value.int .i64)) a cap)(hd:pd w ad D)(hl:D.length≤1000000)(hz:zs.length≤1000000)(hD:OkD D)(hne:∀k,ip ad k→¬cW a k):
 Calls Tryz.prog 43 #[.slice a zs.length cap,.slice an n cn,.slice ad D.length cd] w (jg w zs D a cap (.slice an n cn)):=by
 have HR:=hQQ hr;have HD:=hQQ hd;have HO:=hQQ hD;have HN:=hQQ hne
 clear hr hd hD hne
 go_enter Tryz.func43,Tryz.ntmps43
 go_wp2_with fail
 go_loopw [13] (fun u wr=>∃i:Nat,u=.int .i64 i∧i≤D.length∧j6 zs (D.take i)=true∧RowAt wr 3 ((bZ zs (D.take i)).map (Value.int .i64)) a cap∧Turned (cW a) w wr) (fun u _=>D.length-(intOf u).toNat)
 case atStart=>exact⟨0,rfl,by omega,rfl,HR.o,Turned.refl _ _⟩
 case round =>
  obtain⟨i,rfl,hi,hf,hr,ht⟩:=hrel
  have HF:=hQQ hf;have HR2:=hQQ hr;have HT:=hQQ ht
  clear hf hr ht
  by_cases hlt:i<D.length
  ·obtain⟨⟨k,v⟩,hp⟩:∃p,D[i]?=some p:=⟨_,List.getElem?_eq_getElem hlt⟩
   obtain⟨s,o,rfl,hs,hc⟩:=(HD.o.keep HT.o HN.o).resolve_left (by intro q;rw[q] at hlt;simp at hlt)
   obtain⟨c0,c1⟩:=hc i _ hp
   simp only at c0 c1
   obtain⟨hk0,_,_⟩:=HO.o _ (List.mem_of_getElem? hp)
   simp only at hk0
   have HP:=hQQ hp
   clear hc hp
   by_cases hk:k<zs.length
   ·obtain⟨j,rfl⟩:∃j:Nat,k=j:=⟨k.toNat,by omega⟩
    have d1:decide ((zs.length:Int)≤(j:Int))=false:=by simp;omega
    have hj:j<zs.length:=by omega
    have hlen:=dX (D.take i) zs
    have hrow:=HR2.o
    rcases hrow with⟨rfl,rfl,hx⟩|⟨g,cur,rfl,hg,hn,hm,hsz,htk⟩
    ·have:=congrArg List.length hx;rw[List.length_map,hlen,List.length_nil] at this;omega
    have hgl:=ac hg
    have hcell:wr.cell? ⟨g,j,none⟩=cur[j]? :=by simp[World.cell?,hg]
    have hcell2:∃u,wr.cell? ⟨g,j,none⟩=some u:=by
     have:j<cur.size:=by rw[List.length_map,hlen] at hn;omega
     exact⟨cur[j],by rw[hcell,Array.getElem?_eq_getElem this]⟩
    obtain⟨u0,hu⟩:=hcell2
    have hfr:wr.frozen? ⟨g,j,none⟩=false:=by simp[World.frozen?,hg]
    have NX:Hq (j6 zs (D.take (i+1))=true∧RowAt ((wr.setCell ⟨g,j,none⟩ (.int .i64 v)).alloc (.cells #[.int .i64 (j:Int),.int .i64 v] 88)) 3 ((bZ zs (D.take (i+1))).map (Value.int .i64)) (some ⟨g,0,none⟩) cap∧Turned (cW (some ⟨g,0,none⟩)) w ((wr.setCell ⟨g,j,none⟩ (.int .i64 v)).alloc (.cells #[.int .i64 (j:Int),.int .i64 v] 88))):=hQQ (by
     rw[EK HP.o,Bj,yR,HF.o]
     refine⟨by simp;omega,?_,(bz HT.o (fun _=>rfl) _).alloc _⟩
     have r2:=vr (i:=j) (.int .i64 v) HR2.o (by simp[hlen];omega)
     have r3:=r2.keep ((ae.refl _).alloc (.cells #[.int .i64 (j:Int),.int .i64 v] 88)) (fun _ _ q=>q)
     simpa [List.map_set] using r3)
    clear hn hm hsz htk hg hcell hk
    go_wp2_with fail
    go_roundw
    case rel=>exact⟨i+1,by go_num,by omega,NX.o.1,NX.o.2.1,NX.o.2.2⟩
    case measure=>simp[intOf];omega
   ·have d1:decide ((zs.length:Int)≤k)=true:=by simp;omega
    have FIN:Hq (∀w',ae wr w'→jg w zs D a cap (.slice an n cn) (.returned (.tuple #[.slice none 0 0,.slice none 0 0,.int .i64 3])) w'):=hQQ fun w' t=>⟨am (F':=fun _=>False) HT.o t (fun _ q=>q.elim),.inr ⟨EM HP.o hk,rfl⟩⟩
    have HM:Hq (∀o,ae wr (wr.alloc o)):=hQQ fun o=>(ae.refl wr).alloc o
    clear hk
    go_wp2_with fail
    go_ret3
    exact FIN.o _ (HM.o _)
  ·obtain rfl:i=D.length:=by omega
   have FIN:Hq (jg w zs D a cap (.slice an n cn) (.returned (.tuple #[.slice a zs.length cap,.slice an n cn,.int .i64 0])) wr):=hQQ ⟨HT.o,.inl ⟨by have:=HF.o;rwa [List.take_length] at this,rfl,by have:=HR2.o;rwa [List.take_length] at this⟩⟩
   go_wp2_with fail
   go_ret3
   exact FIN.o
def qY:Value→Nat
 | .slice _ n _=>n
 | _=>0
structure Ps (w wb wr:World)(M:Nat)(zs:List Int)(sem:List KV→Ran)(R:Option (List Int×List KV))(K:List KV)(v:Value):Prop where
 okn:jD zs K
 res:doP sem zs (zs.length+1-K.length) K=R
 row:PRw wb.heap.size wr v K
 known:KnownAt wr M K.length (look K)
 turn:Turned (fun k=>k=M) wb wr
theorem KnownAt.of_block {w w':World}{M n:Nat}{kn:Int→Option Int}(h:KnownAt w M n kn)(e:∀ob,w.heap[M]?=some ob→w'.heap[M]?=some ob):KnownAt w' M n kn:=by
 obtain⟨D,⟨es,clock,hb,F⟩,hk⟩:=h
 exact⟨D,⟨es,clock,e _ hb,F⟩,hk⟩
def gj (w:World)(F S:Nat→Prop)(Y X:World→Prop)(p:Nat)(kn:Int→Option Int)(R:Ran)(e:Ending)(w':World):Prop :=
 match R with
 | .need a=>e=.panicked (bg p)∧bB w' p a∧Turned (fun k=>F k∨S k) w w'∧Y w'
 | .done D=>e=.returned (.tuple #[])∧(∃F',aD w' F' p kn D)∧Turned (fun k=>F k∨S k) w w'∧Y w'∧X w'
def OI (w:World)(S:Nat→Prop)(Y X:World→Prop)(R:Ran)(e:Ending)(w':World):Prop :=
 match R with
 | .need a=>e=.returned (.tuple #[.int .i64 a,.slice none 0 0])∧Turned S w w'∧Y w'
 | .done D=>∃v p,e=.returned (.tuple #[.int .i64 (-1),v])∧PRw w.heap.size w' v D∧Turned S w w'∧Y w'∧X w'∧bB w' p (-1)
theorem Kd (kn:Int→Option Int)(R:Ran)(M n:Nat)(w:World)(hk:KnownAt w M n kn)(f:Nat)(cap:Array Value)(S:Nat→Prop)(Y X:World→Prop)
 (henter:∀args w,Sem.run Tryz.prog (callFunc f args) w=.ok (.enter f args) w) (hS:∀k,S k→k<w.heap.size) (hY:∀w' w'',Y w'→Turned (fun k=>w.heap.size≤k) w' w''→Y w'') (hX:∀w' w'',X w'→Turned (fun k=>w.heap.size≤k) w' w''→X w'') (hY0:Y w)
 (hprog:∀(W:World) (F:Nat→Prop) (p:Nat),ae w W→Y W→aD W F p kn []→(∀k,F k→w.heap.size≤k)→Calls Tryz.prog f (#[.pointer (some ⟨p,0,none⟩)]++cap) W (gj W F S Y X p kn R)):
 Calls Tryz.prog 42 #[.map (some M),.func (.func f) #[] cap] w (OI w S Y X R):=by
 have hq:∀w,Sem.run Tryz.prog (binOp BinOp.eql 52 (Value.func (.func f) #[] cap) Value.nilFunc) w=.ok (.bool false) w:=fun w=>kL w _ Tryz.underlying52 _ _ _
 have hmf:∀(fn:Fn) (first cap:Array Value) (w:World),(Instr.makeFunc fn first cap).run Tryz.prog w=.ok (.func fn first cap) w:=fun _ _ _ _=>rfl
 have HK:=hQQ hk
 have HS:=hQQ hS
 have HX:=hQQ hX
 have HY:=hQQ hY
 have HY0:=hQQ hY0
 have HP:=hQQ hprog
 clear hk hS hX hY hY0 hprog
 go_enter_defers Tryz.func42,Tryz.ntmps42
 go_wp2_with fail
 refine(Hg _).mono ?_
 rintro e w1 ⟨F0,q,rfl,m1,M1,n1⟩
 obtain⟨F,hbeg⟩:=yQ HK.o m1 M1 n1
 have HB:=hQQ hbeg
 have hws:w.heap.size<w1.heap.size:=by have:=M1.size;simp at this;omega
 clear hbeg m1 M1 n1
 go_wp2_with fail
 change Calls _ _ _ ((w1.alloc (.cells (cu (some ⟨w1.heap.size,0,none⟩) M q (-1)) 110)).alloc (.cells #[.pointer (some ⟨w1.heap.size,0,none⟩)] 43)) _
 generalize (w1.alloc (.cells (cu (some ⟨w1.heap.size,0,none⟩) M q (-1)) 110)).alloc (.cells #[.pointer (some ⟨w1.heap.size,0,none⟩)] 43)=W at HB⊢
 generalize w1.heap.size+1=bv at HB⊢
 generalize w1.heap.size=p at HB⊢
 have hlw:Hq (∀k,k<w.heap.size→k≠bv∧k≠p):=hQQ fun k hk=>by have:=HB.o.lv;have:=HB.o.lp;omega
 clear hws
 refine(HP.o W F p HB.o.more (HY.o _ _ HY0.o (Turned.mono HB.o.more (fun _ _ q=>q.elim))) HB.o.view HB.o.new).mono ?_
 intro e w2 he
 cases R with
 |need a =>
  obtain⟨rfl,hd,ht,hy⟩:=he
  obtain⟨hv2,hn2,ne1,ne2⟩:=rS HB.o HS.o ht
  change bodyPostD _ _ _ (Exit.panic (bg p)) _ _
  refine leaves_cons (f:=77) (args:=#[.pointer (some ⟨bv,0,none⟩),.pointer (some ⟨w.heap.size,0,none⟩)]) (by simp) (by simp[go_sem]) ?_
  refine(vD p bv w.heap.size a 0 w2 hd hv2 hn2 ne1 ne2 HB.o.vn).mono ?_
  rintro e u' w3 ⟨rfl,rfl,hc⟩
  obtain⟨b0,_,_⟩:=aB hc.2.1
  have FIN:Turned S w w3∧Y w3:=⟨pf HB.o ht hc.2.2,HY.o _ _ hy (hc.2.2.mono (fun k _ q=>by have:=HB.o.lp;rcases q with q|q<;>omega))⟩
  simp[Leaves,settle,results,Tryz.results42,go_sem,b0]
  exact⟨rfl,FIN⟩
 |done D =>
  obtain⟨rfl,⟨F',hv⟩,ht,hy,hx⟩:=he
  obtain⟨hv2,hn2,ne1,ne2⟩:=rS HB.o HS.o ht
  obtain⟨M',q',n',F0',hp2,hk2,hm2,fp2,f02,fM2⟩:=hv.ex
  obtain⟨c0,c1,c2,c3,cf,cl⟩:=cP hp2
  obtain⟨v0,vf,vl⟩:=aB hv2
  have TOLD:=hQQ (Ds F0' p q' D w2 c2 hm2)
  have HT:=hQQ ht
  have HX2:=hQQ hx
  have HY2:=hQQ hy
  have HP2:=hQQ hp2
  have HV2:=hQQ hv2
  have HN2:=hQQ hn2
  clear hv hk2 hm2 fp2 f02 fM2 hp2 hv2 hn2 ht hx hy
  go_wp2_with fail
  refine TOLD.o.mono ?_
  rintro e w3 ⟨v,rfl,hr,hm3⟩
  obtain⟨n0,nf,nl⟩:=aB (hm3.block HN2.o)
  have HR:=hQQ hr
  have HM3:=hQQ hm3
  clear hr hm3
  go_wp2_with fail
  have t4:Turned (fun k=>k=p∨k=w.heap.size) w3 (w3.setCell ⟨w.heap.size,0,none⟩ (.int .i64 (-1))):=bz (Turned.refl _ w3) (fun _=> .inr rfl) _
  have hp4:(w3.setCell ⟨w.heap.size,0,none⟩ (.int .i64 (-1))).heap[p]?=_:=(Below.heap_setCell _ _ _ _ (Ne.symm ne2)).trans (HM3.o.block HP2.o)
  have hv4:(w3.setCell ⟨w.heap.size,0,none⟩ (.int .i64 (-1))).heap[bv]?=_:=(Below.heap_setCell _ _ _ _ HB.o.vn).trans (HM3.o.block HV2.o)
  have hn4:=kM (.int .i64 (-1)) (HM3.o.block HN2.o)
  have hm3:=HM3.o
  have hr:=HR.o
  have hlp2:=cl
  have hln2:w.heap.size<w2.heap.size:=ac HN2.o
  generalize w3.setCell ⟨w.heap.size,0,none⟩ (.int .i64 (-1))=w4 at t4 hp4 hv4 hn4⊢
  refine leaves_cons (f:=77) (args:=#[.pointer (some ⟨bv,0,none⟩),.pointer (some ⟨w.heap.size,0,none⟩)]) (by simp) (by simp[go_sem]) ?_
  refine(sL p bv w.heap.size M' q' (-1) w4 hp4 hv4 hn4 ne1 ne2 HB.o.vn).mono ?_
  rintro e u' w5 ⟨rfl,rfl,hc⟩
  obtain⟨b0,_,_⟩:=aB hc.2.1
  have t35:Turned (fun k=>k=p∨k=w.heap.size) w3 w5:=t4.trans hc.2.2
  have FIN:OI w S Y X (.done D) (.returned (.tuple #[.int .i64 (-1),v])) w5:=by
   refine⟨v,p,rfl,(hr.keep t35 (fun k hk q=>by rcases q with q|q<;>omega)).mono (by omega),?_,?_,?_,hc.1⟩
   ·exact pf HB.o HT.o ((Turned.mono hm3 (fun _ _ q=>q.elim)).trans t35)
   ·have hlp:=HB.o.lp
    exact HY.o w2 w5 HY2.o ((Turned.mono hm3 (fun _ _ q=>q.elim)).trans (t35.mono (fun k _ q=>by rcases q with q|q<;>omega)))
   ·have hlp:=HB.o.lp
    exact HX.o w2 w5 HX2.o ((Turned.mono hm3 (fun _ _ q=>q.elim)).trans (t35.mono (fun k _ q=>by rcases q with q|q<;>omega)))
  simp[Leaves,settle,results,Tryz.results42,go_sem,b0]
  exact FIN
theorem pj {ops:Array Oper}{rest:List Oper}{o:Oper}{a:Act}{Q:Exit→Act→World→Prop}{S:Nat→Prop}{w wa:World}{v:Value}{ps:List KV}(p q:Int)(hgd:o.guard=none)(s x:Operand)
 (ho:o.op=.call { callee:= .builtin .append,args:= #[s,x],argTypes:= #[39,39] })
 (hs:a.eval s=v) (hn:PRw wa.heap.size w v ps) (hW:Turned S wa w) (hl:ps.length≤1000000)
 (hx:a.eval x=.slice (some ⟨w.heap.size,0,none⟩) 1 1)
 (h:∀g cap w',PRw wa.heap.size w' (.slice (some ⟨g,0,none⟩) (ps.length+1) cap) (ps++ [(p,q)])→Turned S wa w'→(∀k ob,w.heap[k]?=some ob→v.ownBlock≠some k→w'.heap[k]?=some ob)→Turned (fun k=>v.ownBlock=some k) w w'→wpList Tryz.prog ops Q rest (a.put o.dst (.slice (some ⟨g,0,none⟩) (ps.length+1) cap)) w'):wpList Tryz.prog ops Q (o::rest) a (w.alloc (.cells #[.int .i64 p,.int .i64 q] 88)):=by
 obtain⟨i,i1,i2,i3,i4⟩:=vC
 have hn':=hn.more ((ae.refl w).alloc (.cells #[.int .i64 p,.int .i64 q] 88))
 have hB:=a7 w (.cells #[.int .i64 p,.int .i64 q] 88)
 refine wpList_append_lies _ hgd s x 39 ho wa.heap.size 88 i _ 2 16 Tryz.underlying39 i1 i2 i3 i4 rfl (by omega) v ps.length _ hs hn' ⟨w.heap.size,0,none⟩ 1 1 [.int .i64 p,.int .i64 q] hx (by simp)
  (fun j u hu=>World.news_of_block hB j u (by simpa using hu)) (by intro u hu;simp at hu;rcases hu with rfl|rfl<;>rfl) (by omega) (by simp only[maxLen];omega) (by omega) (by have:=hW.size;simp;omega) _ rfl ?_
 intro g cap w1 hown hgrow _ _
 have ht:Turned (fun k=>v.ownBlock=some k) w w1:=⟨hgrow.os,hgrow.tape,hgrow.output,Nat.le_trans (by simp) hgrow.size,fun k hk hne=>by
  rw[hgrow.block k (by simp;omega) (fun e=>hne e.symm),Below.heap_alloc _ _ _ hk]⟩
 refine h g cap w1 ?_ (iD (hW.alloc _) hn' hgrow) (fun k ob hk hne=>by rw[Turned.block ht k (ac hk) hne];exact hk) ht
 unfold PRw
 rw[List.length_append,jd]
 exact hown
def Ke (w:World)(S:Nat→Prop)(Y X:World→Prop)(R:Option (List Int×List KV))(e:Ending)(w':World):Prop :=
 match R with
 |none=>e=.returned (.tuple #[.slice none 0 0,.slice none 0 0,.int .i64 3])∧Turned S w w'∧Y w'
 |some (ws,K)=>∃v1 v2,e=.returned (.tuple #[v1,v2,.int .i64 0])∧Rw w.heap.size w' v1 ws∧PRw w.heap.size w' v2 K∧Turned S w w'∧Y w'∧X w'
structure OnY (w wb wr:World)(S:Nat→Prop)(Y:World→Prop)(M:Nat)(zs:List Int)(sem:List KV→Ran)(R:Option (List Int×List KV))(K:List KV)(v:Value):Prop where
 okn:jD zs K
 res:doP sem zs (zs.length+1-K.length) K=R
 row:PRw wb.heap.size wr v K
 known:KnownAt wr M K.length (look K)
 turn:Turned (fun k=>k=M∨S k) wb wr
 y:Y wr
theorem Kf {w wb wr w2 w3:World}{S:Nat→Prop}{Y X:World→Prop}{M:Nat}{zs:List Int}{sem:List KV→Ran}{R:Option (List Int×List KV)}{K D:List KV}{a' an:Option Addr}{cap' cn:Nat}{e:Ending}(h:OnY w wb wr S Y M zs sem R K (.slice an K.length cn))(hs:sem K=.done D)(mb:ae w wb)(hM:w.heap.size≤M)
 (hl:∀k,cW a' k→w.heap.size≤k∧k<wb.heap.size) (hS:∀k,S k→k<w.heap.size) (m2:Turned S wr w2) (hf:jg w2 zs D a' cap' (.slice an K.length cn) e w3)
 (hY:∀w' w'',Y w'→Turned (fun k=>w.heap.size≤k) w' w''→Y w'') (hX:∀w' w'',X w'→Turned (fun k=>w.heap.size≤k) w' w''→X w'') (y2:Y w2) (x2:X w2):Ke w S Y X R e w3:=by
 have hR:=yT h.okn hs h.res
 have mbS:Turned S w wb:=Turned.mono mb (fun _ _ q=>q.elim)
 have t3:Turned S w w3:=by
  have t1:Turned S w wr:=am mbS h.turn (fun k q=>by rcases q with q|q;exact .inr (by omega);exact .inl q)
  exact am (am t1 m2 (fun k q=> .inl q)) hf.1 (fun k q=> .inr (hl k q).1)
 have t23:Turned (fun k=>w.heap.size≤k) w2 w3:=hf.1.mono (fun k _ q=>(hl k q).1)
 rcases hf.2 with⟨h1,h2,h3⟩|⟨h1,h2⟩
 ·rw[hR,if_pos h1]
  have hlen:(bZ zs D).length=zs.length:=dX D zs
  refine⟨_,_,h2,?_,?_,t3,hY _ _ y2 t23,hX _ _ x2 t23⟩
  ·have:=h3.own (base:=w.heap.size) (fun k q=>(hl k q).1)
   unfold Rw
   rw[List.length_map,hlen] at this
   rw[hlen];exact this
  ·have hb:=mb.size
   exact((h.row.keep m2 (fun k hk q=>by have:=hS k q;omega)).keep hf.1 (fun k hk q=>by have:=(hl k q).2;omega)).mono mb.size
 ·rw[hR,h1]
  exact⟨h2,t3,hY _ _ y2 t23⟩
theorem ML (a:Option Addr)(cap:Nat)(zs:List Int)(sem:List KV→Ran)(R:Option (List Int×List KV))(b:Nat)(w:World)(hz:kN w a zs)(hlen:zs.length≤1000)(hok:OkW zs)(hfine:xi zs b sem)(hb:b≤100000)(hR:doP sem zs (zs.length+1) []=R)(f:Nat)(clo:Array Value)(S:Nat→Prop)(Y X:World→Prop)(hS:∀k,S k→k<w.heap.size)
 (hY:∀w' w'',Y w'→Turned (fun k=>w.heap.size≤k) w' w''→Y w'') (hX:∀w' w'',X w'→Turned (fun k=>w.heap.size≤k) w' w''→X w'') (hY0:Y w)
 (henter:∀args w,Sem.run Tryz.prog (callFunc f args) w=.ok (.enter f args) w)
 (hprog:∀(K:List KV),jD zs K→∀(W:World) (F:Nat→Prop) (p:Nat),Turned S w W→Y W→aD W F p (look K) []→(∀k,F k→w.heap.size≤k)→Calls Tryz.prog f (#[.pointer (some ⟨p,0,none⟩)]++clo) W (gj W F S Y X p (look K) (sem K))):
 Calls Tryz.prog 9 #[.slice a zs.length cap,.func (.func f) #[] clo] w (Ke w S Y X R):=by
 have hmm:= @run_makeMap Tryz.prog
 have CL:=hQQ (qX a cap zs w hz (by omega))
 have HOK:=hQQ hok
 have HF:=hQQ hfine
 have HR0:=hQQ hR
 have HE:=hQQ henter
 have HP:=hQQ hprog
 have HSS:=hQQ hS
 have HY:=hQQ hY
 have HX:=hQQ hX
 have HY0:=hQQ hY0
 clear hz hok hfine hR henter hprog hS hY hX hY0
 go_enter Tryz.func9,Tryz.ntmps9
 go_wp2_with fail
 refine CL.o.mono ?_
 rintro e w1 ⟨a',cap',rfl,hr1,hn1,hm1⟩
 have DO0:Hq (OnY w (w1.alloc (.map #[] 0)) (w1.alloc (.map #[] 0)) S Y w1.heap.size zs sem R [] (.slice none 0 0)):=hQQ
  ⟨ph zs,HR0.o,PRw.nil _ _,KnownAt.made w1,Turned.refl _ _,HY.o _ _ HY0.o (Turned.mono (hm1.alloc _) (fun _ _ q=>q.elim))⟩
 have MB:Hq (ae w (w1.alloc (.map #[] 0))):=hQQ (hm1.alloc _)
 have RB:=hQQ (hr1.keep ((ae.refl w1).alloc (.map #[] 0)) (fun _ _ q=>q))
 have HL:Hq (∀k,cW a' k→w.heap.size≤k∧k<(w1.alloc (.map #[] 0)).heap.size∧k≠w1.heap.size):=hQQ fun k q=>⟨hn1 k q,by have:=hr1.lt k q;simp;omega,by have:=hr1.lt k q;omega⟩
 have hwM:w.heap.size≤w1.heap.size:=hm1.size
 have hMb:w1.heap.size<(w1.alloc (.map #[] 0)).heap.size:=by simp
 clear hr1 hn1 hm1 CL
 go_wp2_with fail
 generalize w1.alloc (.map #[] 0)=wb at DO0 MB RB HL hMb⊢
 generalize w1.heap.size=M at DO0 HL hwM hMb⊢
 go_loopw [8] (fun u8 wr=>∃K,OnY w wb wr S Y M zs sem R K u8∧qY u8=K.length) (fun u8 _=>zs.length+1-qY u8)
 case atStart=>exact⟨[],DO0.o,rfl⟩
 case round =>
  obtain⟨K,hdo,hln⟩:=hrel
  obtain⟨an,cn,rfl,hpn,_⟩:=hdo.row.reads
  have DO:=hQQ hdo
  have hKl:=hdo.okn.len
  have hsz:w.heap.size≤wr.heap.size:=Nat.le_trans MB.o.size hdo.turn.size
  have hmr:Turned S w wr:=am (Turned.mono MB.o (fun _ _ q=>q.elim)) hdo.turn (fun k q=>by rcases q with q|q;exact .inr (by omega);exact .inl q)
  have LS:=hQQ (fun k (q:S k)=>HSS.o k q)
  have RUN:=hQQ (Kd (look K) (sem K) M K.length wr hdo.known f clo S Y X HE.o (fun k q=>Nat.lt_of_lt_of_le (HSS.o k q) hsz) (fun w' w'' h t=>HY.o w' w'' h (t.mono (fun k _ q=>Nat.le_trans hsz q))) (fun w' w'' h t=>HX.o w' w'' h (t.mono (fun k _ q=>Nat.le_trans hsz q))) hdo.y
   (fun W F p m y v n=>HP.o K hdo.okn W F p (am (F':=fun _=>False) hmr m (fun _ q=>q.elim)) y v (fun k hk=>Nat.le_trans hsz (n k hk))))
  have HFK:=hQQ (HF.o K hdo.okn)
  have RW:Hq (RowAt wr 3 (zs.map (Value.int .i64)) a' cap'):=hQQ (RB.o.keep hdo.turn (fun k q e=>by rcases e with e|e;exact(HL.o k q).2.2 e;have:=HSS.o k e;have:=(HL.o k q).1;omega))
  clear hdo hpn hmr hsz DO0 hln
  go_wp2_with fail
  refine RUN.o.mono ?_
  intro e w2 he
  cases hs:sem K with
  |need x =>
   rw[hs] at he
   obtain⟨rfl,hm2,hy2⟩:=he
   have HS:=hQQ hs
   have hx0:0≤x:=by have:=HFK.o;rw[hs] at this;exact this.1
   clear hs RUN
   obtain⟨j,rfl⟩:∃j:Nat,x=j:=⟨x.toNat,by omega⟩
   have HM2:Hq (Turned S wr w2):=hQQ hm2
   have Y2:=hQQ hy2
   have nSM:¬S M:=fun q=>by have:=HSS.o M q;omega
   have nSa:∀k,cW a' k→¬S k:=fun k q r=>by have:=HSS.o k r;have:=(HL.o k q).1;omega
   have bW:w.heap.size≤wb.heap.size:=MB.o.size
   clear hm2 hy2
   have HFJ:=HFK.o
   rw[HS.o] at HFJ
   by_cases hj:j<zs.length
   ·obtain⟨q1,q2,q3,q4⟩:=yS DO.o.okn HFK.o HS.o (by omega) DO.o.res
    have d1:decide ((zs.length:Int)≤(j:Int))=false:=by simp;omega
    have d3:decide (zs.length≤j)=false:=by simp;omega
    have d2:decide ((j:Int)<0)=false:=by simp
    have hrow:=RW.o.keep HM2.o nSa
    obtain⟨g,rfl,hg,hcell,_⟩:=hrow.reads (by simp;omega)
    have hgM:g≠M:=(HL.o g rfl).2.2
    have cw:w2.cell? ⟨g,j,none⟩=some (.int .i64 (wAt zs j)):=by
     refine hcell j _ ?_
     unfold wAt
     rw[List.getElem?_map,List.getElem?_eq_getElem hj]
     simp[List.getD,hj]
    obtain⟨w3,hst,hk3,ht3⟩:=(DO.o.known.keep HM2.o nSM).store HFJ.2.1 (Bn HOK.o j) (by unfold maxLen;omega)
    rw[vF q4] at hk3
    have T23:=hQQ ht3
    have K3:=hQQ hk3
    have cw3:=d9 ht3 hgM cw
    have hg3:g<w3.heap.size:=Nat.lt_of_lt_of_le hg ht3.size
    have TB3:Hq (Turned (fun k=>k=M∨S k) wb w3):=hQQ ((am DO.o.turn HM2.o (fun _ q=> .inl (.inr q))).trans (ht3.mono (fun _ _ q=> .inl q)))
    have YW3:Hq (Y w3):=hQQ (HY.o _ _ Y2.o (ht3.mono (fun k _ q=>by subst q;exact hwM)))
    have R3:Hq (PRw wb.heap.size w3 (.slice an K.length cn) K):=hQQ ((DO.o.row.keep HM2.o (fun k hk q=>by have:=HSS.o k q;omega)).keep ht3 (fun k hk e=>by omega))
    have NX:Hq (∀w4 v,PRw wb.heap.size w4 v (K++ [((j:Int),wAt zs j)])→Turned (fun k=>k=M∨S k) wb w4→(∀k ob,w3.heap[k]?=some ob→(Value.slice an K.length cn).ownBlock≠some k→w4.heap[k]?=some ob)→Y w4→OnY w wb w4 S Y M zs sem R (K++ [((j:Int),wAt zs j)]) v):=hQQ fun w4 v h1 h2 h3 h5 =>
     ⟨q1,q2,h1,by rw[List.length_append];exact K3.o.of_block (fun ob ho=>h3 M ob ho (fun e=>by have:=(DO.o.row.lt M e).1;omega)),h2,h5⟩
    clear hrow hcell hk3 ht3 q1 q2 q3 q4 HFJ
    generalize wAt zs j=z at cw hst cw3 NX
    go_wp2_with (at_builtin;refine pj (S:=fun k=>k=M∨S k) (wa:=wb) (ps:=K) (j:Int) z rfl _ _ rfl rfl R3.o TB3.o (by omega) rfl ?_;intro g4 c4 w4 h4 t4 k4 u4;have N4:=hQQ (NX.o _ _ h4 t4 k4 (HY.o _ _ YW3.o (u4.mono (fun k _ q=>Nat.le_trans bW (DO.o.row.lt k q).1))));clear h4 t4 k4 u4)
    go_roundw
    case rel=>exact⟨_,N4.o,by simp[qY]⟩
    case measure=>simp[qY];omega
   ·have hn:=Dt DO.o.okn HS.o (by omega) DO.o.res
    subst hn
    have d1:decide ((zs.length:Int)≤(j:Int))=true:=by simp;omega
    have d3:decide (zs.length≤j)=true:=by simp;omega
    have d2:decide ((j:Int)<0)=false:=by simp
    have FIN:Hq (Ke w S Y X none (.returned (.tuple #[.slice none 0 0,.slice none 0 0,.int .i64 3])) w2):=hQQ ⟨rfl,am (am (Turned.mono MB.o (fun _ _ q=>q.elim)) DO.o.turn (fun k q=>by rcases q with q|q;exact .inr (by omega);exact .inl q)) HM2.o (fun k q=> .inl q),Y2.o⟩
    clear HFJ hj
    go_wp2_with fail
    go_ret3
    exact FIN.o
  |done D =>
   rw[hs] at he
   obtain⟨v,p,rfl,hr,hm2,hy2,hx2,_⟩:=he
   have nSa:∀k,cW a' k→¬S k:=fun k q r=>by have:=HSS.o k r;have:=(HL.o k q).1;omega
   obtain⟨ad,cd,rfl,hpd,hbd⟩:=hr.reads
   have hfk:=HFK.o
   rw[hs] at hfk
   have FINI:=hQQ (vH zs D a' ad an cap' cd K.length cn w2 (RW.o.keep hm2 nSa) hpd (by have:=hfk.2.2;omega) (by omega) hfk.1 (fun k q r=>by have:=hbd k q;have:=(HL.o k r).2.1;have:=DO.o.turn.size;omega))
   have FIN:Hq (∀e w3,jg w2 zs D a' cap' (.slice an K.length cn) e w3→Ke w S Y X R e w3):=hQQ fun e w3 h=>Kf DO.o hs MB.o hwM (fun k q=>⟨(HL.o k q).1,(HL.o k q).2.1⟩) HSS.o hm2 h HY.o HX.o hy2 hx2
   clear hs RUN hr hm2 hpd hbd hfk hy2 hx2
   go_wp2_with fail
   refine FINI.o.mono ?_
   intro e w3 he
   have hfin:=FIN.o e w3 he
   rcases he.2 with⟨_,rfl,_⟩|⟨_,rfl⟩
   ·have F2:=hQQ hfin
    clear hfin he
    go_wp2_with fail
    go_ret3
    exact F2.o
   ·have F2:=hQQ hfin
    clear hfin he
    go_wp2_with fail
    go_ret3
    exact F2.o
inductive Res (α:Type) where
 |need (a:Int)
 |ok (x:α) (D:List KV)
abbrev Prg (α:Type):=(Int→Option Int)→List KV→Res α
def ay {α:Type}(x:α):Prg α:=fun _ D=> .ok x D
def ak {α β:Type}(p:Prg α)(f:α→Prg β):Prg β:=fun kn D=>match p kn D with
 | .need a=> .need a
 | .ok x D'=>f x kn D'
def cS (a:Int):Prg Int:=fun kn D=>match dM kn D a with
 |none=> .need a
 |some y=> .ok y D
def cM (a x:Int):Prg Unit:=fun _ D=> .ok () (ep D a x)
def eP {α:Type} :Res α→Ran
 | .need a=> .need a
 | .ok _ D=> .done D
theorem ag {α β:Type}{p:Prg α}{f:α→Prg β}{kn:Int→Option Int}{D:List KV}{a:Int}(h:p kn D=.need a):ak p f kn D=.need a:=by unfold ak;rw[h]
theorem aj {α β:Type}{p:Prg α}{f:α→Prg β}{kn:Int→Option Int}{D D':List KV}{x:α}(h:p kn D=.ok x D'):ak p f kn D=f x kn D':=by unfold ak;rw[h]
theorem eS {kn:Int→Option Int}{D:List KV}{a y:Int}(h:dM kn D a=some y):cS a kn D=.ok y D:=by unfold cS;rw[h]
theorem jh {kn:Int→Option Int}{D:List KV}{a:Int}(h:dM kn D a=none):cS a kn D=.need a:=by unfold cS;rw[h]
structure cC (n:Nat)(D:List KV):Prop where
 ok:OkD D
 asc:Asc D
 lt:∀p∈D,p.1<n
theorem ea (n:Nat):cC n []:=⟨Ka,Dq,fun p h=>by cases h⟩
theorem cC.len {n:Nat}{D:List KV}(h:cC n D):D.length≤n:=by
 have hn:(D.map (·.1)).Nodup:=by
  have:=h.asc
  unfold Asc at this
  rw[List.Nodup,List.pairwise_map]
  exact this.imp (fun h=>by omega)
 have:=lN n (D.map (·.1)) hn fun x hx=>by
  obtain⟨p,hp,rfl⟩:=List.mem_map.1 hx
  exact⟨(h.ok p hp).1,h.lt p hp⟩
 simpa using this
theorem cC.fits {zs:List Int}{D:List KV}(h:cC zs.length D):j6 zs D=true:=by
 unfold j6;rw[List.all_eq_true];intro p hp;simpa using h.lt p hp
theorem cC.write {n:Nat}{D:List KV}(h:cC n D){a x:Int}(ha:W64 a)(hn:a<n)(hx:W64 x):cC n (ep D a x):=
 ⟨EG h.ok ha hx,EH h.asc a x,fun p hp=>by
  unfold ep at hp
  split at hp
  ·exact h.lt p hp
  ·rcases yL hp with rfl|q
   ·exact hn
   ·exact h.lt p q⟩
def bQ {α:Type}(n:Nat)(Q:α→Prop)(p:Prg α):Prop:=∀kn D,OkK kn→cC n D→match p kn D with
 | .need a=>0≤a∧a<n∧kn a=none
 | .ok x D'=>cC n D'∧Q x
def bh {α:Type}(p:Prg α):Prop:=∀kn kn' D,(∀a v,kn a=some v→kn' a=some v)→(∃a,p kn D=.need a)∨p kn D=p kn' D
theorem ai {α:Type}(n:Nat){Q:α→Prop}{x:α}(h:Q x):bQ n Q (ay x):=fun _ _ _ hD=>⟨hD,h⟩
theorem ar {α β:Type}{n:Nat}{Q:α→Prop}{Q':β→Prop}{p:Prg α}{f:α→Prg β}(h:bQ n Q p)(hf:∀x,Q x→bQ n Q' (f x)):bQ n Q' (ak p f):=fun kn D hk hD=>by
 have h1:=h kn D hk hD
 cases e:p kn D with
 |need a=>rw[ag e];rw[e] at h1;exact h1
 |ok x D'=>rw[aj e];rw[e] at h1;exact hf x h1.2 kn D' hk h1.1
theorem bb (n:Nat){a:Int}(ha:a<n):bQ n W64 (cS a):=fun kn D hk hD=>by
 cases e:dM kn D a with
 |none=>rw[jh e];obtain⟨h0,_,h2⟩:=vw e;exact⟨h0,ha,h2⟩
 |some y=>rw[eS e];exact⟨hD,Dr hk hD.ok e⟩
theorem aQ (n:Nat){a x:Int}(ha:W64 a)(hn:a<n)(hx:W64 x):bQ n (fun _=>True) (cM a x):=fun kn D hk hD=>⟨hD.write ha hn hx,trivial⟩
theorem de {α:Type}{n:Nat}{Q Q':α→Prop}{p:Prg α}(h:bQ n Q p)(hq:∀x,Q x→Q' x):bQ n Q' p:=fun kn D hk hD=>by
 have h1:=h kn D hk hD
 cases e:p kn D with
 |need a=>rw[e] at h1;exact h1
 |ok x D'=>rw[e] at h1;exact⟨h1.1,hq x h1.2⟩
theorem bQ.ok {α:Type}{n:Nat}{Q:α→Prop}{p:Prg α}(h:bQ n Q p){kn:Int→Option Int}{D:List KV}(hk:OkK kn)(hD:cC n D){x:α}{D':List KV}(e:p kn D=.ok x D'):cC n D'∧Q x:=by
 have:=h kn D hk hD;rw[e] at this;exact this
theorem ah {α:Type}(x:α):bh (ay x):=fun _ _ _ _=> .inr rfl
theorem aq {α β:Type}{p:Prg α}{f:α→Prg β}(h:bh p)(hf:∀x,bh (f x)):bh (ak p f):=fun kn kn' D hk=>by
 rcases h kn kn' D hk with⟨a,e⟩|e
 ·exact .inl ⟨a,ag e⟩
 ·cases e1:p kn D with
  |need a=>exact .inl ⟨a,ag e1⟩
  |ok x D'=>rw[aj e1,aj (e.symm.trans e1)];exact hf x kn kn' D' hk
theorem dx (a:Int):bh (cS a):=fun kn kn' D hk=>by
 cases e:dM kn D a with
 |none=>exact .inl ⟨a,jh e⟩
 |some y =>
  refine .inr ?_
  rw[eS e,eS]
  unfold dM at e⊢
  split
  ·rename_i q;rw[if_pos q] at e;exact e
  ·rename_i q
   rw[if_neg q] at e
   cases e1:look D a with
   |none=>rw[e1] at e;simp at e⊢;exact hk a y e
   |some v=>rw[e1] at e;simpa using e
theorem cT (a x:Int):bh (cM a x):=fun _ _ _ _=> .inr rfl
theorem aH {α:Type}{c:Prop} [Decidable c] {p q:Prg α}(h1:bh p)(h2:bh q):bh (if c then p else q):=by
 split
 ·exact h1
 ·exact h2
def sN (zs:List Int):Int→Option Int:=fun a=>if 0≤a∧a<zs.length then some (wAt zs a) else none
theorem jG {zs:List Int}(h:OkW zs):OkK (sN zs):=fun a v e=>by
 unfold sN at e
 split at e
 ·cases e;exact Bn h a
 ·cases e
theorem sO {zs:List Int}{K:List KV}(h:jD zs K):∀a v,look K a=some v→sN zs a=some v:=fun a v e=>by
 obtain⟨h0,h1,h2⟩:=h.at' _ (pc e)
 simp only at h0 h1 h2
 unfold sN
 rw[if_pos ⟨h0,h1⟩,h2]
theorem sP {zs:List Int}{K:List KV}(h:jD zs K)(hz:OkW zs):OkK (look K):=fun a v e=>jG hz a v (sO h a v e)
theorem xj {α:Type}{zs:List Int}{p:Prg α}{Q:α→Prop}{x:α}{D:List KV}(hS:bh p)(hG:bQ zs.length Q p)(hz:OkW zs)(hf:p (sN zs) []=.ok x D):
 ∀(n:Nat) (K:List KV),jD zs K→zs.length+1=K.length+n→∃K',jD zs K'∧doP (fun K=>eP (p (look K) [])) zs n K=some (bZ zs D,K')
 | 0,K,hK,hn=>by have:=hK.len;omega
 |n+1,K,hK,hn=>by
  have hg:=hG (look K) [] (sP hK hz) (ea _)
  have hD:=(hG.ok (jG hz) (ea _) hf).1
  unfold doP
  rcases hS (look K) (sN zs) [] (sO hK) with⟨a,e⟩|e
  ·rw[e] at hg⊢
   obtain⟨h0,h1,h2⟩:=hg
   simp only[eP]
   rw[if_pos h1]
   exact xj hS hG hz hf n _ (vE hK h0 h1 h2) (by simp;omega)
  ·rw[e,hf]
   simp only[eP]
   rw[if_pos hD.fits]
   exact⟨K,hK,rfl⟩
theorem sQ {α:Type}{zs:List Int}{p:Prg α}{x y:α}{D D':List KV}{K:List KV}(hS:bh p)(hK:jD zs K)(hf:p (sN zs) []=.ok x D)(h:p (look K) []=.ok y D'):y=x∧D'=D:=by
 rcases hS (look K) (sN zs) [] (sO hK) with⟨a,e⟩|e
 ·rw[h] at e;cases e
 ·rw[h,hf] at e;cases e;exact⟨rfl,rfl⟩
theorem xm {α:Type}{zs:List Int}{p:Prg α}{Q:α→Prop}(hG:bQ zs.length Q p)(hz:OkW zs)(hl:zs.length≤100000):xi zs zs.length (fun K=>eP (p (look K) [])):=fun K hK=>by
 have hg:=hG (look K) [] (sP hK hz) (ea _)
 show MH (look K) _ (eP (p (look K) []))
 cases e:p (look K) [] with
 |need a=>rw[e] at hg;exact⟨hg.1,by have:=hg.2.1;unfold W64;constructor<;>omega,hg.2.2⟩
 |ok x D=>rw[e] at hg;exact⟨hg.1.ok,hg.1.asc,hg.1.len⟩
theorem om {D:List KV}(hA:Asc D)(zs:List Int)(h0:∀p∈D,0≤p.1∧p.1<zs.length)(i:Int)(hi:0≤i∧i<zs.length):wAt (bZ zs D) i=(look D i).getD (wAt zs i):=by
 induction D generalizing zs with
 |nil=>rfl
 |cons p D ih =>
  have hA':Asc D:=by unfold Asc at hA⊢;exact(List.pairwise_cons.1 hA).2
  have hp:=h0 p (by simp)
  show wAt (bZ (zs.set p.1.toNat p.2) D) i=_
  rw[ih hA' _ (fun q hq=>by have:=h0 q (by simp[hq]);simpa using this) (by simpa using hi)]
  rw[gi]
  by_cases e:p.1=i
  ·rw[if_pos e]
   have hn:look D i=none:=ie.2 (fun q hq=>by
    unfold Asc at hA
    have:=(List.pairwise_cons.1 hA).1 q hq
    omega)
   rw[hn]
   subst e
   unfold wAt
   simp only[List.getD,Option.getD_some]
   rw[List.getElem?_set_self (by omega)]
   rfl
  ·rw[if_neg e]
   have:wAt (zs.set p.1.toNat p.2) i=wAt zs i:=by
    unfold wAt
    simp only[List.getD]
    rw[List.getElem?_set_ne (by omega)]
   rw[this]
theorem vI {xs ys:List Int}(hl:xs.length=ys.length)(h:∀i:Int,0≤i→i<xs.length→wAt xs i=wAt ys i):xs=ys:=by
 apply List.ext_getElem hl
 intro i h1 h2
 have:=h (i:Int) (by omega) (by omega)
 simpa [wAt,List.getD,h1,h2] using this
theorem dH {ws:List Int}{a x i:Int}(ha:0≤a)(hi:0≤i)(hn:a<ws.length):wAt (ws.set a.toNat x) i=if i=a then x else wAt ws i:=by
 unfold wAt
 simp only[List.getD]
 by_cases e:i=a
 ·subst e
  rw[if_pos rfl,List.getElem?_set_self (by omega)]
  rfl
 ·rw[if_neg e,List.getElem?_set_ne (by omega)]
theorem yV {n:Nat}{zs:List Int}{D:List KV}(hn:zs.length=n)(h:cC n D){a x:Int}(ha:0≤a)(hl:a<n)(hw:W64 a)(hx:W64 x):bZ zs (ep D a x)=(bZ zs D).set a.toNat x:=by
 have h2:=h.write hw hl hx
 subst hn
 apply vI
 ·simp[dX]
 ·intro i h0 h1
  rw[dX] at h1
  rw[om h2.asc zs (fun p hp=>⟨(h2.ok p hp).1,h2.lt p hp⟩) i ⟨h0,h1⟩,dH ha h0 (by rw[dX];exact hl),
   om h.asc zs (fun p hp=>⟨(h.ok p hp).1,h.lt p hp⟩) i ⟨h0,h1⟩]
  unfold ep
  rw[if_neg (by omega),qj h.asc]
  split<;>rfl
theorem yW {zs:List Int}{D:List KV}(h:cC zs.length D){a:Int}(h0:0≤a)(h1:a<zs.length):dM (sN zs) D a=some (wAt (bZ zs D) a):=by
 rw[om h.asc zs (fun p hp=>⟨(h.ok p hp).1,h.lt p hp⟩) a ⟨h0,h1⟩]
 unfold dM sN
 rw[if_neg (by omega),if_pos ⟨h0,h1⟩]
 cases look D a<;>rfl
def bJ {α:Type}(n:Nat)(p:Prg α)(g:List Int→α×List Int):Prop:=∀zs D,zs.length=n→OkW zs→cC n D→∃D',p (sN zs) D=.ok (g (bZ zs D)).1 D'∧bZ zs D'=(g (bZ zs D)).2∧cC n D'
theorem au {α:Type}(n:Nat)(x:α):bJ n (ay x) (fun ws=>(x,ws)):=fun zs D _ _ hD=>⟨D,rfl,rfl,hD⟩
theorem aA {α β:Type}{n:Nat}{p:Prg α}{f:α→Prg β}{g:List Int→α×List Int}{k:α→List Int→β×List Int}(h:bJ n p g)(hf:∀x,bJ n (f x) (k x)):bJ n (ak p f) (fun ws=>k (g ws).1 (g ws).2):=fun zs D hn hz hD=>by
 obtain⟨D1,e1,a1,i1⟩:=h zs D hn hz hD
 obtain⟨D2,e2,a2,i2⟩:=hf (g (bZ zs D)).1 zs D1 hn hz i1
 refine⟨D2,?_,?_,i2⟩
 ·rw[aj e1,e2,a1]
 ·rw[a2,a1]
theorem dV {n:Nat}{a:Int}(h0:0≤a)(h1:a<n):bJ n (cS a) (fun ws=>(wAt ws a,ws)):=fun zs D hn hz hD=>by
 subst hn
 exact⟨D,eS (yW hD h0 h1),rfl,hD⟩
theorem df {n:Nat}{a x:Int}(h0:0≤a)(h1:a<n)(hw:W64 a)(hx:W64 x):bJ n (cM a x) (fun ws=>((),ws.set a.toNat x)):=fun zs D hn hz hD =>
 ⟨_,rfl,yV hn hD h0 h1 hw hx,hD.write hw h1 hx⟩
theorem aU {α:Type}{n:Nat}{p:Prg α}{g k:List Int→α×List Int}(h:bJ n p g)(e:∀ws,ws.length=n→g ws=k ws):bJ n p k:=fun zs D hn hz hD=>by
 rw[←e (bZ zs D) (by rw[dX];exact hn)]
 exact h zs D hn hz hD
theorem Du {α:Type}{zs:List Int}{p:Prg α}{Q:α→Prop}{g:List Int→α×List Int}(hS:bh p)(hG:bQ zs.length Q p)(hz:OkW zs)(hF:bJ zs.length p g):
 ∃K,doP (fun K=>eP (p (look K) [])) zs (zs.length+1) []=some ((g zs).2,K)∧jD zs K∧∀K,jD zs K→∀y D,p (look K) []=.ok y D→y=(g zs).1:=by
 obtain⟨D,e,a,i⟩:=hF zs [] rfl hz (ea _)
 have e0:bZ zs []=zs:=rfl
 rw[e0] at e a
 obtain⟨K,hK,hd⟩:=xj hS hG hz e (zs.length+1) [] (ph zs) (by simp)
 exact⟨K,by rw[hd,a],hK,fun K hK y D' h=>(sQ hS hK e h).1⟩
theorem aD.keepS {w w':World}{F S:Nat→Prop}{p:Nat}{kn:Int→Option Int}{D:List KV}(h:aD w F p kn D)(ht:Turned S w w')(hs:∀k,F k→¬S k)(hM:∀k es cl,S k→w.heap[k]? ≠some (.map es cl)):aD w' F p kn D:=by
 obtain⟨M,q,n,F0,hp,hk,hm,fp,f0,fM⟩:=h.ex
 have nM:¬S M:=by
  obtain⟨D',⟨es,clock,hb,_⟩,_⟩:=hk
  intro q
  exact hM M _ _ q hb
 exact⟨⟨M,q,n,F0,by rw[Turned.block ht p (ac hp) (hs p fp)];exact hp,hk.keep ht nM,hm.keep ht (fun k q=>hs k (f0 k q).1),fp,f0,fM⟩,fun k hk=>Nat.lt_of_lt_of_le (h.lt k hk) ht.size⟩
theorem jH {W:World}{g:Nat}{v:Value}{t:TypeId}(h:W.heap[g]?=some (.cells #[v] t (0,0)))(z:Value):(W.setCell ⟨g,0,none⟩ z).heap[g]?=some (.cells #[z] t (0,0)):=by
 have:=bo (o:=0) z h
 simpa using this
def aG {α:Type}(w:World)(F:Nat→Prop)(p:Nat)(kn:Int→Option Int)(val:α→Value)(R:Res α)(e:Ending)(w':World):Prop :=
 match R with
 | .need a=>vz w F p a e w'
 | .ok x D=>gv w F p kn D (val x) e w'
theorem aG.from {α:Type}{w w2 w':World}{F F':Nat→Prop}{p:Nat}{kn:Int→Option Int}{val:α→Value}{R:Res α}{e:Ending}(t:Turned F w w2)(n:∀k,F' k→F k∨w.heap.size≤k)(h:aG w2 F' p kn val R e w'):aG w F p kn val R e w':=by
 cases R with
 |need a=>exact⟨h.1,h.2.1,am t h.2.2 n⟩
 |ok x D =>
  obtain⟨he,F1,hv,ht,hn⟩:=h
  refine⟨he,F1,hv,am t ht n,fun k hk=>?_⟩
  rcases hn k hk with q|q
  ·exact n k q
  ·exact .inr (Nat.le_trans t.size q)
theorem aG.after {α:Type}{w w2 w':World}{F:Nat→Prop}{p:Nat}{kn:Int→Option Int}{val:α→Value}{R:Res α}{e:Ending}(t:ae w w2)(h:aG w2 F p kn val R e w'):aG w F p kn val R e w' :=
 h.from (Turned.mono t (fun _ _ q=>q.elim)) (fun k q=> .inl q)
theorem aG.need {α:Type}{w w':World}{F:Nat→Prop}{p:Nat}{kn:Int→Option Int}{val:α→Value}{R:Res α}{e:Ending}{a:Int}(hR:R=.need a)(h:vz w F p a e w'):aG w F p kn val R e w':=by subst hR;exact h
theorem aG.did {α:Type}{w w':World}{F:Nat→Prop}{p:Nat}{kn:Int→Option Int}{val:α→Value}{R:Res α}{e:Ending}{x:α}{D:List KV}(hR:R=.ok x D)(h:gv w F p kn D (val x) e w'):aG w F p kn val R e w':=by subst hR;exact h
theorem aG.same {α:Type}{w w':World}{F:Nat→Prop}{p:Nat}{kn:Int→Option Int}{D:List KV}{val:α→Value}{R:Res α}{x:α}(hR:R=.ok x D)(hv:aD w F p kn D)(t:ae w w'):aG w F p kn val R (.returned (val x)) w':=by
 subst hR;exact gv.same hv t
def MN {α β:Type}(f:α→β):Res α→Res β
 | .need a=> .need a
 | .ok x D=> .ok (f x) D
theorem aG.map {α β:Type}{w w':World}{F:Nat→Prop}{p:Nat}{kn:Int→Option Int}{val:α→Value}{val':β→Value}(f:α→β){R:Res α}{x:α}{D:List KV}{v:Value}(hR:R=.ok x D)(h:aG w F p kn val R (.returned v) w'):aG w F p kn val' (MN f R) (.returned (val' (f x))) w':=by
 subst hR
 obtain⟨_,F',hv,ht,hn⟩:=h
 exact⟨rfl,F',hv,ht,hn⟩
theorem aG.mapN {α β:Type}{w w':World}{F:Nat→Prop}{p:Nat}{kn:Int→Option Int}{val:α→Value}{val':β→Value}(f:α→β){R:Res α}{a:Int}{e:Ending}(hR:R=.need a)(h:aG w F p kn val R e w'):aG w F p kn val' (MN f R) e w':=by
 subst hR
 exact h
structure MidV (W wr:World)(F S:Nat→Prop)(p:Nat)(kn:Int→Option Int)(n:Nat)(D:List KV)(F':Nat→Prop):Prop where
 view:aD wr F' p kn D
 from':∀k,F' k→F k∨W.heap.size≤k
 turn:Turned (fun b=>F b∨S b) W wr
 inv:cC n D
namespace MidV
variable {W wr w1 w2:World}{F S F':Nat→Prop}{p n:Nat}{kn:Int→Option Int}{D:List KV}
theorem begin (hv:aD W F p kn D)(hD:cC n D):MidV W W F S p kn n D F:=⟨hv,fun k q=> .inl q,Turned.refl _ _,hD⟩
theorem more (h:MidV W wr F S p kn n D F')(m:ae wr w1):MidV W w1 F S p kn n D F' :=
 ⟨h.view.more m,h.from',am (F':=fun _=>False) h.turn m (fun _ q=>q.elim),h.inv⟩
theorem size (h:MidV W wr F S p kn n D F'):W.heap.size≤wr.heap.size:=h.turn.size
theorem off (h:MidV W wr F S p kn n D F'){b:Nat}(hb:b<W.heap.size)(nF:¬F b):¬F' b:=fun q=>by
 rcases h.from' b q with r|r
 ·exact nF r
 ·omega
theorem box (h:MidV W wr F S p kn n D F'){b:Nat}(hS:b<W.heap.size→S b)(nF:¬F' b)(v:Value){cs:Array Value}{t:TypeId}{fr:Nat×Nat}(hb:wr.heap[b]?=some (.cells cs t fr)):MidV W (wr.setCell ⟨b,0,none⟩ v) F S p kn n D F' :=
 ⟨h.view.keepS (S:=fun k=>k=b) (Turned.setCell (S:=fun k=>k=b) (Turned.refl _ wr) ⟨b,0,none⟩ v (fun _=>rfl)) (fun k q e=>nF (e▸q)) (fun k es cl e q=>by subst e;rw[hb] at q;cases q),
  h.from',am h.turn (Turned.setCell (S:=fun k=>k=b) (Turned.refl _ wr) ⟨b,0,none⟩ v (fun _=>rfl)) (fun k q=>by
   subst q
   rcases Nat.lt_or_ge k W.heap.size with r|r
   ·exact .inl (.inr (hS r))
   ·exact .inr r),h.inv⟩
theorem step {α:Type}{val:α→Value}{Q:α→Prop}{pr:Prg α}{e:Ending}(h:MidV W wr F S p kn n D F')(m:ae wr w1)(hk:OkK kn)(G:bQ n Q pr)(he:aG w1 F' p kn val (pr kn D) e w2):
 (∃a,pr kn D=.need a∧e=.panicked (bg p)∧bB w2 p a∧Turned (fun b=>F b∨S b) W w2∧∀b o,¬F' b→wr.heap[b]?=some o→w2.heap[b]?=some o) ∨
 (∃x D1 F1,pr kn D=.ok x D1∧e=.returned (val x)∧MidV W w2 F S p kn n D1 F1∧Q x∧(∀b o,¬F' b→wr.heap[b]?=some o→w2.heap[b]?=some o)∧∀b,F1 b→F' b∨wr.heap.size≤b):=by
 have hm:=h.more m
 have hs:=m.size
 have hK:∀t,Turned F' w1 t→∀b o,¬F' b→wr.heap[b]?=some o→t.heap[b]?=some o:=fun t ht b o nb hb=>(ht.block b (ac (m.block hb)) nb).trans (m.block hb)
 cases hE:pr kn D with
 |need a =>
  rw[hE] at he
  obtain⟨h1,h2,h3⟩:=he
  exact .inl ⟨a,rfl,h1,h2,am hm.turn h3 (fun k q=>(h.from' k q).imp .inl id),hK _ h3⟩
 |ok x D1 =>
  rw[hE] at he
  obtain⟨h1,F1,hv,ht,hn⟩:=he
  obtain⟨i1,q1⟩:=G.ok hk h.inv hE
  refine .inr ⟨x,D1,F1,rfl,h1,⟨hv,fun k q=>?_,am hm.turn ht (fun k q=>(h.from' k q).imp .inl id),i1⟩,q1,hK _ ht,fun b q=>(hn b q).imp id (fun r=>by omega)⟩
  rcases hn k q with r|r
  ·exact h.from' k r
  ·have:=hm.size;exact .inr (by omega)
end MidV
theorem xo {W w2:World}{F S:Nat→Prop}{Y X:World→Prop}{p:Nat}{kn:Int→Option Int}{R:Ran}{a:Int}(hR:R=.need a)(hd:bB w2 p a)(ht:Turned (fun b=>F b∨S b) W w2)(hy:Y w2):gj W F S Y X p kn R (.panicked (bg p)) w2:=by
 subst hR;exact⟨rfl,hd,ht,hy⟩
theorem xp {W wr:World}{F S F':Nat→Prop}{Y X:World→Prop}{p n:Nat}{kn:Int→Option Int}{D:List KV}{R:Ran}(h:MidV W wr F S p kn n D F')(hR:R=.done D)(hy:Y wr)(hx:X wr):gj W F S Y X p kn R (.returned (.tuple #[])) wr:=by
 subst hR;exact⟨rfl,⟨F',h.view⟩,h.turn,hy,hx⟩
theorem cI {α β γ:Type}(p:Prg α)(f:α→Prg β)(g:β→Prg γ):ak (ak p f) g=ak p (fun x=>ak (f x) g):=by
 funext kn D;unfold ak;cases p kn D<;>rfl
theorem Dv {α β:Type}(f:α→β)(p:Prg α)(kn:Int→Option Int)(D:List KV):MN f (p kn D)=ak p (fun x=>ay (f x)) kn D:=by
 unfold ak;cases p kn D<;>rfl
def j7 (g:Nat)(w:World)(b:Bool):Prop:=w.heap[g]?=some (.cells #[.bool b] 4 (0,0))
theorem pk {g:Nat}{w:World}{b:Bool}(h:j7 g w b)(x:Bool):j7 g (w.setCell ⟨g,0,none⟩ (.bool x)) x:=jH h _
theorem oo {α:Type}{R:Res α}{a:Int}(h:R=.need a):eP R=.need a:=by rw[h];rfl
theorem sR {α:Type}{R:Res α}{x:α}{D:List KV}(h:R=.ok x D):eP R=.done D:=by rw[h];rfl
theorem a6 (w:World)(o0:Obj):∃w1,w.alloc o0=w1∧w1.heap[w.heap.size]?=some o0∧ae w w1∧w1.heap.size=w.heap.size+1:=⟨_,rfl,a7 w o0,(ae.refl _).alloc _,by simp⟩
theorem gT (w:World)(o0 o1:Obj):∃w2,(w.alloc o0).alloc o1=w2∧w2.heap[w.heap.size]?=some o0∧w2.heap[w.heap.size+1]?=some o1∧ae w w2∧w2.heap.size=w.heap.size+2:=by
 obtain⟨w1,e1,h0,m0,s0⟩:=a6 w o0
 rw[e1]
 obtain⟨w2,e2,h1,m1,s1⟩:=a6 w1 o1
 rw[s0] at h1
 exact⟨w2,e2,m1.block h0,h1,m0.trans m1,by omega⟩
theorem kO (w:World)(o0 o1 o2:Obj):∃w3,((w.alloc o0).alloc o1).alloc o2=w3∧w3.heap[w.heap.size]?=some o0∧w3.heap[w.heap.size+1]?=some o1∧w3.heap[w.heap.size+2]?=some o2∧ae w w3∧w3.heap.size=w.heap.size+3:=by
 have h0:=a7 w o0
 have s0:(w.alloc o0).heap.size=w.heap.size+1:=by simp
 have m0:ae w (w.alloc o0):=(ae.refl _).alloc _
 generalize w.alloc o0=w1 at h0 s0 m0⊢
 have h1:=a7 w1 o1
 rw[s0] at h1
 have s1:(w1.alloc o1).heap.size=w.heap.size+2:=by simp[s0]
 have m1:ae w1 (w1.alloc o1):=(ae.refl _).alloc _
 generalize w1.alloc o1=w2 at h1 s1 m1⊢
 have h2:=a7 w2 o2
 rw[s1] at h2
 have m2:ae w2 (w2.alloc o2):=(ae.refl _).alloc _
 exact⟨_,rfl,m2.block (m1.block h0),m2.block h1,h2,(m0.trans m1).trans m2,by simp[s1]⟩
theorem ji {α:Type}{w w1 w2:World}{F S:Nat→Prop}{p:Nat}{kn:Int→Option Int}{val:α→Value}{R:Res α}{a:Int}(m:ae w w1)(hS:∀b,S b→w.heap.size≤b)(hR:R=.need a)(hd:bB w2 p a)(ht:Turned (fun b=>F b∨S b) w1 w2):aG w F p kn val R (.panicked (bg p)) w2 :=
 aG.need hR ⟨rfl,hd,am (Turned.mono m (fun _ _ q=>q.elim)) ht (fun k q=>q.imp id (hS k))⟩
theorem fB {α:Type}{w w1 w2:World}{F S F':Nat→Prop}{p n:Nat}{kn:Int→Option Int}{val:α→Value}{R:Res α}{x:α}{D:List KV}(m:ae w w1)(hS:∀b,S b→w.heap.size≤b)(h:MidV w1 w2 F S p kn n D F')(hR:R=.ok x D):aG w F p kn val R (.returned (val x)) w2 :=
 aG.did hR ⟨rfl,F',h.view,am (Turned.mono m (fun _ _ q=>q.elim)) h.turn (fun k q=>q.imp id (hS k)),fun k q=>(h.from' k q).imp id (fun r=>Nat.le_trans m.size r)⟩
theorem eT {w1 w2:World}{F S F':Nat→Prop}{p n:Nat}{kn:Int→Option Int}{D:List KV}(h:MidV w1 w2 F S p kn n D F'){b:Nat}{o:Obj}(hb:w1.heap[b]?=some o)(nF:¬F b)(nS:¬S b):w2.heap[b]?=some o :=
 (h.turn.block b (ac hb) (by rintro(q|q);exact nF q;exact nS q)).trans hb
theorem jj (F:Nat→Prop)(p:Nat)(kn:Int→Option Int)(D:List KV)(a:Int)(w:World)(h:aD w F p kn D)(hw:W64 a):
 Calls Tryz.prog 27 #[.pointer (some ⟨p,0,none⟩),.int .i64 a] w (aG w F p kn (fun x=> .int .i64 x) (cS a kn D)):=by
 cases e:dM kn D a with
 |none=>exact(iX F p kn D a w h hw e).mono (fun _ _ he=>aG.need (jh e) he)
 |some y =>
  refine(mT F p kn D a y w h hw e).mono ?_
  rintro _ _ ⟨rfl,n,rfl⟩
  exact aG.same (eS e) h ((ae.refl w).drewN n)
theorem dk (F:Nat→Prop)(p:Nat)(kn:Int→Option Int)(D:List KV)(a x:Int)(w:World)(h:aD w F p kn D)(hs:D.length<100000):
 Calls Tryz.prog 116 #[.pointer (some ⟨p,0,none⟩),.int .i64 a,.int .i64 x] w (aG w F p kn (fun _:Unit=> .tuple #[]) (cM a x kn D)):=
 (yN F p kn D a x w h hs).mono (fun _ _ he=>aG.did rfl he)
theorem klZ {W:World}{F:Nat→Prop}{p n:Nat}{kn:Int→Option Int}{b:Nat}{o:Obj}(hb:W.heap[b]?=some o)(nF:¬F b):Hq (∀wr D' F',MidV W wr F (fun _=>False) p kn n D' F'→wr.heap[b]?=some o):=hQQ fun wr D' F' h=>eT h hb nF (fun q=>q)
theorem m0Z {W:World}{F:Nat→Prop}{p n:Nat}{kn:Int→Option Int}{D:List KV}(hv:aD W F p kn D)(hD:cC n D):Hq (MidV W W F (fun _=>False) p kn n D F):=hQQ (MidV.begin hv hD)
theorem ndZ {α:Type}{w w1:World}{F:Nat→Prop}{p:Nat}{kn:Int→Option Int}{R:Res α}(val:α→Value)(m:ae w w1):Hq (∀a w2,R=.need a→bB w2 p a→Turned (fun b=>F b∨False) w1 w2→aG w F p kn val R (.panicked (bg p)) w2):=hQQ fun a w2 e hd ht=>ji m (fun _ q=>q.elim) e hd ht
theorem dnZ {α:Type}{w w1:World}{F:Nat→Prop}{p n:Nat}{kn:Int→Option Int}{R:Res α}(val:α→Value)(m:ae w w1):Hq (∀x w2 D' F',R=.ok x D'→MidV w1 w2 F (fun _=>False) p kn n D' F'→aG w F p kn val R (.returned (val x)) w2):=hQQ fun x w2 D' F' e h=>fB m (fun _ q=>q.elim) h e
end Go.Proofs.YtddmeghbmdfgeaaGreatDoor
