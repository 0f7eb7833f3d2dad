/-
  Rows of values of one cell each, in memory of the call's own: what a store, a run of stores, and the library's Insert and Delete make of them.
-/
import Derived.Test.YtddmeghbmdfgeaaGreatDoorFeAa
import Derived.Sort.Row
import Derived.Laws.IdiomCopy
import Derived.Laws.AppendOwn
import Derived.Lib.Hide
import Derived.Test.YtddmeghbmdfgeaaGreatDoorFeAb
import Derived.Test.YtddmeghbmdfgeaaGreatDoorChecked
import Derived.WalkKit
import Derived.Outline
import Derived.Handy
import Derived.Deep.RegionHeld3
import Derived.Maps.OwnSet
import Derived.WalkArith
import Derived.LaidEqlPtr
import Derived.WalkSmall
import Derived.WalkLawsBesides
import Derived.StillTailTactics
import Derived.Deep.AppendLies
import Derived.WalkSpells
import Derived.Deep.DeepMust
import Derived.Recover
import Derived.RangeFuncBox
import Derived.RangeFuncLeaves
import Derived.RangeFuncCalls
import Derived.Shelf.Abstract
import Derived.OwnWalkIn
import Derived.TacticsInMore
import Derived.LoopNIn
import Derived.LoopIn
import Derived.Carry
import Derived.RangeFuncNested
import Derived.Maps.OwnIn
import Derived.Test.YtddmeghbmdfgeaaGreatDoorRows
import Derived.Shelf.SlicesG.Clone
set_option maxRecDepth 100000
set_option maxHeartbeats 8000000
set_option linter.all false
namespace Go.Proofs.YtddmeghbmdfgeaaGreatDoor
open Go.RowKit Go.Sort
theorem fg {w:World}{b:Nat}{c:Array Value}{e:TypeId}{fr:Nat×Nat}(f:Array Value→Array Value)(h:w.heap[b]?=some (.cells c e fr)):(mapBlock w b f).heap[b]?=some (.cells (f c) e fr):=by
 simp[mapBlock,Array.getElem?_modify,h,onCells]
theorem fW {S:Nat→Prop}{w w':World}(ht:Turned S w w'){b:Nat}(hb:b<w.heap.size→S b)(f:Array Value→Array Value):Turned S w (mapBlock w' b f):=
 ⟨ht.os,ht.tape,ht.output,by have:=ht.size;simpa [mapBlock] using this,fun k hk hs=>by
  rw[←Turned.block ht k hk hs]
  have:k≠b:=by rintro rfl;exact hs (hb hk)
  simp[mapBlock,Array.getElem?_modify,Ne.symm this]⟩
def fR (c:Array Value):Nat→List Value→Array Value
 | _,[]=>c
 |o,v::r=>fR (c.setIfInBounds o v) (o+1) r
theorem gn (b:Nat):∀(vs:List Value) (o:Nat) (w:World),w.setCells b o vs=mapBlock w b (fun c=>fR c o vs)
 | [],o,w=>(mapBlock_id w b _ (fun _ _ _ _=>rfl)).symm
 |v::r,o,w=>by
  rw[World.setCells,gn b r,setCell_eq,mapBlock_mapBlock];rfl
theorem eQ:∀(vs:List Value) (c:Array Value) (o:Nat),(fR c o vs).size=c.size
 | [],_,_=>rfl
 |v::r,c,o=>by rw[fR,eQ r];simp
theorem jc {α:Type}(A B:List α){n:Nat}(h:A.length=n):(A++B).take n=A:=by rw[←h];simp
theorem Hh {α:Type}(A B:List α){n m:Nat}(h:A.length=n):(A++B).drop (n+m)=B.drop m:=by
 rw[List.drop_append,List.drop_eq_nil_of_le (by omega),List.nil_append,h,Nat.add_sub_cancel_left]
theorem fh:∀(vs:List Value) (c:Array Value) (o:Nat),o+vs.length≤c.size→(fR c o vs).toList=c.toList.take o++vs++c.toList.drop (o+vs.length)
 | [],c,o,_=>by simp[fR]
 |v::r,c,o,h=>by
  simp only[List.length_cons] at h
  have hl:o<c.toList.length:=by simp;omega
  rw[fR,fh r _ _ (by simp;omega),Array.toList_setIfInBounds,List.set_eq_take_append_cons_drop,if_pos hl]
  have h1:(c.toList.take o++ [v]).length=o+1:=by simp;omega
  rw[show c.toList.take o++v::c.toList.drop (o+1)=(c.toList.take o++ [v])++c.toList.drop (o+1) by simp]
  rw[jc _ _ h1,Hh _ _ h1,List.drop_drop]
  simp
  congr 1
  omega
def RowAt (w:World)(e:TypeId)(xs:List Value)(a:Option Addr)(cap:Nat):Prop :=
 (a=none∧cap=0∧xs= [])∨∃g cur,a=some ⟨g,0,none⟩∧w.heap[g]?=some (.cells cur e (0,0))∧xs.length≤cap∧cap≤maxLen∧cur.size=cap∧cur.toList.take xs.length=xs
def cZ (a:Option Addr)(k:Nat):Prop:=a.map (·.block)=some k
namespace RowAt
variable {w w':World}{e:TypeId}{xs:List Value}{a:Option Addr}{cap:Nat}
theorem nil (w:World)(e:TypeId):RowAt w e [] none 0:= .inl ⟨rfl,rfl,rfl⟩
theorem keep (h:RowAt w e xs a cap){S:Nat→Prop}(ht:Turned S w w')(hs:∀k,cZ a k→¬S k):RowAt w' e xs a cap:=by
 rcases h with h|⟨g,cur,rfl,hg,rest⟩
 ·exact .inl h
 ·refine .inr ⟨g,cur,rfl,?_,rest⟩
  rw[Turned.block ht g (ac hg) (hs g rfl)];exact hg
theorem lt (h:RowAt w e xs a cap):∀k,cZ a k→k<w.heap.size:=by
 rcases h with⟨rfl,_⟩|⟨g,cur,rfl,hg,_⟩
 ·intro k hk;cases hk
 ·intro k hk;cases hk;exact ac hg
theorem of_own {base n:Nat}{v:Value}(h:w.ownsRow base e 1 v n xs):∃a cap,v=.slice a n cap∧RowAt w e xs a cap∧(∀k,cZ a k→base≤k)∧xs.length=n:=by
 have hl:xs.length=n:=by have:=h.1;omega
 rcases h.2 with⟨rfl,rfl⟩|⟨g,cap,cur,rfl,hb,hg,hn,hm,hs,ht⟩
 ·exact⟨none,0,rfl,.inl ⟨rfl,rfl,List.length_eq_zero_iff.1 hl⟩,(fun k hk=>by cases hk),hl⟩
 ·exact⟨_,cap,rfl,.inr ⟨g,cur,rfl,hg,by omega,hm,by omega,by rw[hl];simpa using ht⟩,fun k hk=>by cases hk;exact hb,hl⟩
theorem own (h:RowAt w e xs a cap){base:Nat}(hb:∀k,cZ a k→base≤k):w.ownsRow base e 1 (.slice a xs.length cap) xs.length xs:=by
 refine⟨by omega,?_⟩
 rcases h with⟨rfl,rfl,rfl⟩|⟨g,cur,rfl,hg,hn,hm,hs,ht⟩
 ·exact .inl ⟨rfl,rfl⟩
 ·exact .inr ⟨g,cap,cur,rfl,hb g rfl,hg,hn,hm,by omega,by simpa using ht⟩
theorem reads (h:RowAt w e xs a cap)(h0:0<xs.length):∃g,a=some ⟨g,0,none⟩∧g<w.heap.size∧(∀j v,xs[j]?=some v→w.cell? ⟨g,j,none⟩=some v)∧∀j,w.frozen? ⟨g,j,none⟩=false:=by
 rcases h with⟨rfl,_,rfl⟩|⟨g,cur,rfl,hg,hn,hm,hs,ht⟩
 ·simp at h0
 ·refine⟨g,rfl,ac hg,fun j v hj=>?_,fun j=>by simp[World.frozen?,hg]⟩
  have hj':j<xs.length:=(List.getElem?_eq_some_iff.1 hj).1
  have e1:cur.toList[j]?=some v:=by
   have:(cur.toList.take xs.length)[j]?=some v:=by rw[ht];exact hj
   rw[List.getElem?_take,if_pos hj'] at this;exact this
  simp[World.cell?,hg]
  simpa using e1
end RowAt
structure jG (w w':World)(e:TypeId)(ys:List Value)(a a':Option Addr)(cap':Nat):Prop where
 row:RowAt w' e ys a' cap'
 turn:Turned (cZ a) w w'
 from':∀k,cZ a' k→cZ a k∨w.heap.size≤k
theorem yH {w:World}{e:TypeId}{xs:List Value}{g i cap:Nat}{cur:Array Value}(x:Value)(hg:w.heap[g]?=some (.cells cur e (0,0)))(hn:xs.length+1≤cap)(hm:cap≤maxLen)(hs:cur.size=cap)(ht:cur.toList.take xs.length=xs)(hi:i≤xs.length):
 jG w ((w.drew.setCells g (0+(i+1)) (xs.drop i)).setCells g (0+i) [x]) e (xs.take i++x::xs.drop i) (some ⟨g,0,none⟩) (some ⟨g,0,none⟩) cap:=by
 rw[Nat.zero_add,Nat.zero_add,gn,gn,mapBlock_mapBlock]
 refine⟨.inr ⟨g,_,rfl,fg _ hg,by simp;omega,hm,by rw[eQ,eQ];exact hs,?_⟩,fW (S:=cZ (some ⟨g,0,none⟩)) ((Turned.refl _ w).drew) (fun _=>rfl) _,fun k hk=> .inl hk⟩
 have hd:(xs.drop i).length=xs.length-i:=by simp
 rw[fh _ _ _ (by rw[eQ];simp;omega),fh _ _ _ (by rw[hd];omega)]
 have h1:(cur.toList.take (i+1)).take i=xs.take i:=by
  rw[List.take_take,show min i (i+1)=min i xs.length by omega,←List.take_take,ht]
 have h2:((cur.toList.take (i+1))++xs.drop i++cur.toList.drop (i+1+(xs.drop i).length)).take i=xs.take i:=by
  rw[List.append_assoc,List.take_append_of_le_length (by simp;omega),h1]
 have h3:((cur.toList.take (i+1))++xs.drop i++cur.toList.drop (i+1+(xs.drop i).length)).drop (i+1)=xs.drop i++cur.toList.drop (i+1+(xs.drop i).length):=by
  rw[List.append_assoc,List.drop_append,List.drop_eq_nil_of_le (by simp;omega)]
  have:(cur.toList.take (i+1)).length=i+1:=by simp;omega
  rw[this,Nat.sub_self];simp
 rw[h2,show i+ [x].length=i+1 from rfl,h3]
 rw[←List.append_assoc,show xs.take i++ [x]++xs.drop i=xs.take i++x::xs.drop i by simp]
 exact jc _ _ rfl
theorem EG {w:World}{e:TypeId}{xs:List Value}{g cap:Nat}{cur:Array Value}(x:Value)(hg:w.heap[g]?=some (.cells cur e (0,0)))(hn:xs.length+1≤cap)(hm:cap≤maxLen)(hs:cur.size=cap)(ht:cur.toList.take xs.length=xs):
 jG w (w.setCells g (0+xs.length) [x]) e (xs.take xs.length++x::xs.drop xs.length) (some ⟨g,0,none⟩) (some ⟨g,0,none⟩) cap:=by
 rw[Nat.zero_add,gn]
 refine⟨.inr ⟨g,_,rfl,fg _ hg,by simp;omega,hm,by rw[eQ];exact hs,?_⟩,fW (S:=cZ (some ⟨g,0,none⟩)) (Turned.refl _ w) (fun _=>rfl) _,fun k hk=> .inl hk⟩
 rw[fh _ _ _ (by simp;omega),ht,List.take_length,List.drop_length,List.length_append]
 exact jc (xs++ [x]) _ (by simp)
theorem lQ (z:Array Value)(n:Nat):(Builtin.zeroCells z n).size=n * z.size:=by simp[Builtin.zeroCells]
theorem uU {w:World}{e:TypeId}{xs:List Value}{a:Option Addr}{G:Nat}(x z:Value)(hz:z.cells.size=1)(hG:xs.length+1≤G)(hm:G≤maxLen):
 jG w (w.drew.alloc (.cells ((xs++ [x]).toArray++Builtin.zeroCells z.cells (G-(xs.length+1))) e)) e (xs.take xs.length++x::xs.drop xs.length) a (some ⟨w.heap.size,0,none⟩) G:=by
 refine⟨.inr ⟨_,_,rfl,bh w.drew _,by simp;omega,hm,by simp[lQ,hz];omega,?_⟩,((Turned.refl _ w).drew).alloc _,fun k hk=>by cases hk;exact .inr (Nat.le_refl _)⟩
 rw[List.take_length,List.drop_length,List.length_append,Array.toList_append]
 exact jc (xs++ [x]) _ (by simp)
theorem EH {w:World}{e:TypeId}{xs:List Value}{a:Option Addr}{G i:Nat}(x z:Value)(hz:z.cells.size=1)(hG:xs.length+1≤G)(hm:G≤maxLen)(hi:i≤xs.length):
 jG w (((w.alloc (.cells ((xs.take i).toArray++Builtin.zeroCells z.cells (xs.length+1-i)++Builtin.zeroCells z.cells (G-(xs.length+1))) e)).drew.setCells w.heap.size i [x]).drew.setCells w.heap.size (i+1) (xs.drop i)) e (xs.take i++x::xs.drop i) a (some ⟨w.heap.size,0,none⟩) G:=by
 have hd:(xs.drop i).length=xs.length-i:=by simp
 generalize hc:(xs.take i).toArray++Builtin.zeroCells z.cells (xs.length+1-i)++Builtin.zeroCells z.cells (G-(xs.length+1))=cur
 have hs:cur.size=G:=by rw[←hc];simp[lQ,hz];omega
 have ht:cur.toList.take i=xs.take i:=by
  rw[←hc];simp only[Array.toList_append,List.append_assoc]
  have q:(xs.take i).length=i:=by simp;omega
  exact jc _ _ q
 have e1:∀W:World,(W.drew).heap=W.heap:=fun _=>rfl
 rw[gn,gn]
 have hA:((w.alloc (.cells cur e)).drew).heap[w.heap.size]?=some (.cells cur e (0,0)):=bh w _
 have hB:=fg (fun c=>fR c i [x]) hA
 have hC:((mapBlock (w.alloc (.cells cur e)).drew w.heap.size fun c=>fR c i [x]).drew).heap[w.heap.size]?=some (.cells (fR cur i [x]) e (0,0)):=hB
 refine⟨.inr ⟨_,_,rfl,fg _ hC,by simp;omega,hm,by rw[eQ,eQ];exact hs,?_⟩,?_,fun k hk=>by cases hk;exact .inr (Nat.le_refl _)⟩
 ·rw[fh _ _ _ (by rw[eQ,hd];omega),fh _ _ _ (by simp;omega),ht]
  rw[show i+ [x].length=i+1 from rfl]
  have h1:(xs.take i++ [x]++cur.toList.drop (i+1)).take (i+1)=xs.take i++ [x]:=jc _ _ (by simp;omega)
  rw[h1]
  rw[show xs.take i++ [x]++xs.drop i=xs.take i++x::xs.drop i by simp]
  exact jc _ _ rfl
 ·refine fW (Turned.drew (fW (((Turned.refl _ w).alloc _).drew) ?_ _)) ?_ _
  ·intro q;omega
  ·intro q;omega
theorem vr {w:World}{e:TypeId}{xs:List Value}{g cap i:Nat}(x:Value)(h:RowAt w e xs (some ⟨g,0,none⟩) cap)(hi:i<xs.length):RowAt (w.setCell ⟨g,i,none⟩ x) e (xs.set i x) (some ⟨g,0,none⟩) cap:=by
 rcases h with⟨h,_⟩|⟨g',cur,h,hg,hn,hm,hs,ht⟩
 ·cases h
 ·cases h
  rw[setCell_eq]
  refine .inr ⟨g,_,rfl,fg _ hg,by simpa using hn,hm,by simpa using hs,?_⟩
  rw[Array.toList_setIfInBounds,List.length_set,List.take_set,ht]
open Go.Shelf
theorem jG.low {W w w':World}{e:TypeId}{ys:List Value}{a a':Option Addr}{cap':Nat}(h:jG W w' e ys a a' cap')(hW:ae w W)(ha:∀k,cZ a k→k<w.heap.size):jG w w' e ys a a' cap' :=
 ⟨h.row,(Turned.mono hW (fun _ _ q=>q.elim)).trans h.turn,fun k hk=>(h.from' k hk).imp id (fun q=>Nat.le_trans hW.size q)⟩
theorem Kg {x v:Value}{j:Nat}(h:([x]:List Value)[j]?=some v):j=0∧v=x:=by
 cases j with
 |zero=>exact⟨rfl,by simpa using h.symm⟩
 |succ j=>simp at h
theorem MY (zs:List Int)(k:Int)(a:Option Addr)(cap:Nat)(w:World)(h:RowAt w 3 (zs.map (Value.int .i64)) a cap)(hs:zs.Pairwise (· ≤ ·))(hl:zs.length≤1000000):
 Calls Tryz.prog 121 #[.slice a zs.length cap,.int .i64 k] w fun e w'=>e=.returned (.tuple #[.int .i64 (zs.countP (· <k):Nat),.bool (zs.contains k)])∧∃q,w'=w.drewN q:=by
 by_cases h0:zs.length=0
 ·obtain rfl:zs= []:=List.length_eq_zero_iff.1 h0
  clear h h0 hs hl
  have E:∃q,w.drewN 1=w.drewN q:=⟨_,rfl⟩
  go_enter Tryz.func121,Tryz.ntmps121
  go_wp2_with fail
  go_loop [7,8] (fun i j=>i=.int .i64 0∧j=.int .i64 0) (fun _ _=>0)
  case atStart=>exact⟨rfl,rfl⟩
  case round =>
   obtain⟨rfl,rfl⟩:=hrel
   go_wp2_with fail
   all_goals first|(go_quiet (fail);go_wp2_with fail)|skip
   all_goals go_ret2
   all_goals exact⟨rfl,0,rfl⟩
 ·obtain⟨g,rfl,hg,hc,hf⟩:=h.reads (by simp;omega)
  have:=AnyG.slices_BinarySearch_int Tryz.lSearch g 0 zs.length cap zs k w (Nat.le_refl _) (by omega) (fun j hj=>by rw[Nat.zero_add];exact hc j _ (by rw[List.getElem?_map,List.getElem?_eq_getElem hj];simp[List.getD,hj])) (by rw[List.take_length];exact hs)
  rw[List.take_length] at this
  exact this
section
theorem Dx (xs:List Int):∀v∈xs.map (Value.int .i64),v.oneCell'=true:=by
 intro v hv
 obtain⟨x,_,rfl⟩:=List.mem_map.1 hv
 rfl
theorem Dy (xs:List Int)(i:Nat)(hi:i≤xs.length)(hl:xs.length≤1000000)(y:Int)(a:Option Addr)(cap:Nat)(w:World)(h:RowAt w 3 (xs.map (Value.int .i64)) a cap):
 Calls Tryz.prog 151 #[.slice a xs.length cap,.int .i64 i,.slice (some ⟨w.heap.size,0,none⟩) 1 1] (w.alloc (.cells #[Value.int .i64 y] 3))
  fun e w'=>∃a' cap',e=.returned (.slice a' (xs.length+1) cap')∧jG w w' 3 ((xs.map (Value.int .i64)).take i++Value.int .i64 y::(xs.map (Value.int .i64)).drop i) a a' cap':=by
 have hM:ae w (w.alloc (.cells #[Value.int .i64 y] 3)):=(ae.refl w).alloc _
 have hN:(w.alloc (.cells #[Value.int .i64 y] 3)).heap[w.heap.size]?=some (.cells #[Value.int .i64 y] 3 (0,0)):=bh w _
 have hlt:=h.lt
 have h:=h.keep hM (fun _ _ q=>q)
 have hsz:w.heap.size<(w.alloc (.cells #[Value.int .i64 y] 3)).heap.size:=by simp
 generalize w.alloc (.cells #[Value.int .i64 y] 3)=W at h hM hN hsz⊢
 have hlen:(xs.map (Value.int .i64)).length=xs.length:=by simp
 have hvs:∀j v,([Value.int .i64 y]:List Value)[j]?=some v→W.cell? ⟨w.heap.size,0+j,none⟩=some v:=fun j v hj=>by
  obtain⟨rfl,rfl⟩:=Kg hj
  simp[World.cell?,hN]
 have h1c:=Dx xs
 have h1v:∀v∈([Value.int .i64 y]:List Value),v.oneCell'=true:=by intro v hv;simp at hv;subst hv;rfl
 have hz:(Value.int .i64 0).cells.size=1:=rfl
 have hfa:W.frozen? ⟨w.heap.size,0,none⟩=false:=by simp[World.frozen?,hN]
 have hfe:W.frozen? ⟨w.heap.size,1,none⟩=false:=by simp[World.frozen?,hN]
 have hsa:W.shape? w.heap.size=some (3,1):=by simp[World.shape?,hN]
 have hG:∀c,xs.length+1≤grownCap W (xs.length+1) c 3:=fun c=>grownCap_ge W _ _ _
 have hGm:∀c,grownCap W (xs.length+1) c 3≤maxLen:=fun c=>grownCap_le_maxLen W _ c _ (by unfold maxLen;omega)
 by_cases hroom:xs.length+1≤cap
 ·rcases h with⟨rfl,rfl,hx⟩|⟨g,cur,rfl,hg,hn,hm,hs,ht⟩
  ·omega
  rw[hlen] at hn
  have hgw:=hlt g rfl
  have hgc:∀j,j<cap→W.cell? ⟨g,0+j,none⟩=cur[j]? :=fun j hj=>by simp[World.cell?,hg]
  have hgf:∀j,W.frozen? ⟨g,j,none⟩=false:=fun j=>by simp[World.frozen?,hg]
  have hcs:∀j v,(xs.map (Value.int .i64))[j]?=some v→W.cell? ⟨g,0+j,none⟩=some v:=fun j v hj=>by
   have hj':j<xs.length:=by have:=(List.getElem?_eq_some_iff.1 hj).1;omega
   rw[hgc j (by omega),←Array.getElem?_toList]
   rw[←ht,List.getElem?_take,if_pos (by omega)] at hj
   exact hj
  by_cases hin:i<xs.length
  ·refine(Any2.slices_Insert_int_shift Tryz.lInsI g 0 xs.length cap i w.heap.size 0 1 1 (xs.map (Value.int .i64)) [Value.int .i64 y] W hin (by omega) hroom (by unfold maxLen at hm;omega) (by omega) hlen rfl hcs
    (fun j hj=>by rw[hgc j (by omega),Array.getElem?_eq_getElem (by omega)];rfl) (fun j _=>hgf _) hvs h1c h1v _ 3 1 cap hsa (by simp[World.shape?,hg,hs]) (by omega) hfa hfe).mono ?_
   rintro e w' ⟨rfl,rfl⟩
   exact⟨_,_,rfl,(yH _ hg (by rw[hlen];exact hroom) hm hs ht (by omega)).low hM hlt⟩
  ·obtain rfl:i=xs.length:=by omega
   refine(Any2.slices_Insert_int_end_room Tryz.lInsI g 0 xs.length cap w.heap.size 0 1 1 [Value.int .i64 y] W (by omega) hroom (by unfold maxLen at hm;omega) rfl
    (fun j hj=>by rw[Nat.zero_add,←Nat.zero_add (xs.length+j),hgc _ (by omega),Array.getElem?_eq_getElem (by omega)];rfl) (fun j _=>hgf _) hvs h1v).mono ?_
   rintro e w' ⟨rfl,rfl⟩
   have:=EG (Value.int .i64 y) hg (by rw[hlen];exact hroom) hm hs ht
   rw[hlen] at this
   exact⟨_,_,rfl,this.low hM hlt⟩
 ·have hcap:xs.length≤cap:=by
   rcases h with⟨rfl,rfl,hx⟩|⟨g,cur,rfl,hg,hn,_⟩
   ·have:=congrArg List.length hx;simp at this;simp[this]
   ·omega
  have hbig:(xs.length+1) * 8≤140737488355328:=by omega
  by_cases hin:i<xs.length
  ·rcases h with⟨rfl,rfl,hx⟩|⟨g,cur,rfl,hg,hn,hm,hs,ht⟩
   ·have:=congrArg List.length hx;simp at this;subst this;simp at hin
   have hcs:∀j v,(xs.map (Value.int .i64))[j]?=some v→W.cell? ⟨g,0+j,none⟩=some v:=fun j v hj=>by
    have hj':j<xs.length:=by have:=(List.getElem?_eq_some_iff.1 hj).1;omega
    rw[←ht,List.getElem?_take,if_pos (by omega)] at hj
    simp[World.cell?,hg]
    simpa using hj
   refine(Any2.slices_Insert_int_grow Tryz.lInsI g 0 xs.length cap i w.heap.size 0 1 1 (xs.map (Value.int .i64)) [Value.int .i64 y] W hin (by omega) hcap (by omega) hbig hlen rfl hcs hvs h1c h1v).mono ?_
   rintro e w' ⟨rfl,rfl⟩
   have:=EH (w:=W) (e:=3) (xs:=xs.map (Value.int .i64)) (a:=some ⟨g,0,none⟩) (i:=i) (Value.int .i64 y) (Value.int .i64 0) hz (by rw[hlen];exact hG cap) (hGm cap) (by omega)
   rw[hlen] at this
   exact⟨_,_,rfl,this.low hM hlt⟩
  ·obtain rfl:i=xs.length:=by omega
   refine(Any2.slices_Insert_int_end_grow Tryz.lInsI a xs.length cap w.heap.size 0 1 1 (xs.map (Value.int .i64)) [Value.int .i64 y] W (by omega) hcap (by omega) hbig hlen rfl
    (fun ha=>by
     rcases h with⟨_,_,hx⟩|⟨g,cur,hh,_⟩
     ·have:=congrArg List.length hx;simpa using this
     ·rw[ha] at hh;cases hh)
    (fun b hb j v hj=>by
     have hj':j<xs.length:=by have:=(List.getElem?_eq_some_iff.1 hj).1;omega
     rcases h with⟨hh,_⟩|⟨g,cur,hh,hg,hn,hm,hs,ht⟩
     ·rw[hb] at hh;cases hh
     ·rw[hb] at hh;cases hh
      rw[←ht,List.getElem?_take,if_pos (by omega)] at hj
      rw[Addr.add_lit]
      simp[World.cell?,hg]
      simpa using hj) hvs h1v).mono ?_
   rintro e w' ⟨rfl,rfl⟩
   have:=uU (w:=W) (e:=3) (xs:=xs.map (Value.int .i64)) (a:=a) (Value.int .i64 y) (Value.int .i64 0) hz (by rw[hlen];exact hG cap) (hGm cap)
   rw[hlen] at this
   exact⟨_,_,rfl,this.low hM hlt⟩
theorem Hi:∃i:TypeInfo,Tryz.prog.info? 3=some i∧i.zero=some (Value.int .i64 0)∧i.size=1∧i.bytes=8:=by
 have h1:(Tryz.prog.info? 3).map (·.size)=some 1:=by kernel_rfl
 have h2:(Tryz.prog.info? 3).bind (·.zero)=some (Value.int .i64 0):=by kernel_rfl
 have h3:(Tryz.prog.info? 3).map (·.bytes)=some 8:=by kernel_rfl
 cases q:Tryz.prog.info? 3 with
 |none=>rw[q] at h1;simp at h1
 |some i=>rw[q] at h1 h2 h3;exact⟨i,rfl,by simpa using h2,by simpa using h1,by simpa using h3⟩
theorem vt (xs:List Int)(hl:xs.length≤1000000)(a:Option Addr)(cap:Nat)(w:World)(h:RowAt w 3 (xs.map (Value.int .i64)) a cap):
 Calls Tryz.prog 41 #[.slice a xs.length cap] w
  fun e w'=>∃a' cap',e=.returned (.slice a' xs.length cap')∧RowAt w' 3 (xs.map (Value.int .i64)) a' cap'∧ae w w'∧∀k,cZ a' k→w.heap.size≤k:=by
 have hlen:(xs.map (Value.int .i64)).length=xs.length:=by simp
 rcases h with⟨rfl,rfl,hx⟩|⟨g,cur,rfl,hg,hn,hm,hs,ht⟩
 ·have h0:xs= []:=by simpa using hx
  subst h0
  refine(AnyE.slices_Clone_nil { Tryz.lCloneI with } 0 0 w).mono ?_
  rintro e w' ⟨rfl,rfl⟩
  exact⟨_,_,rfl,RowAt.nil _ _,ae.refl _,fun k hk=>by cases hk⟩
 ·obtain⟨i0,hi0,hz0,hz1,hz2⟩:=Hi
  refine(AnyE.slices_Clone { Tryz.lCloneI with } i0 (Value.int .i64 0) 1 8 hi0 hz0 hz1 hz2 rfl (by omega) Tryz.sizeOf3 g 0 xs.length cap (xs.map (Value.int .i64)) w (by omega) (by unfold maxLen;omega) (by omega)
   (fun j v hj=>by
    have hj':j<xs.length:=by have:=(List.getElem?_eq_some_iff.1 hj).1;omega
    rw[←ht,List.getElem?_take,if_pos (by omega)] at hj
    simp[World.cell?,hg]
    simpa using hj) (Dx xs)).mono ?_
  rintro e w' ⟨v',rfl,hown,_,hB⟩
  obtain⟨a',cap',rfl,hr,hb,_⟩:=RowAt.of_own hown
  exact⟨_,_,rfl,hr,⟨hB.os,hB.tape,hB.output,hB.size,fun k hk _=>hB.block k hk⟩,hb⟩
end
abbrev KV:=Int×Int
def fS (D:List KV):List Int:=D.map (·.1)
def jd (D:List KV):List Int:=D.map (·.2)
def Asc (D:List KV):Prop:=D.Pairwise (fun a b=>a.1<b.1)
def look (D:List KV)(k:Int):Option Int:=(D.find? (fun p=>p.1==k)).map (·.2)
def pos (D:List KV)(k:Int):Nat:=D.countP (fun p=>decide (p.1<k))
def less (D:List KV)(k:Int):List KV:=D.filter (fun p=>decide (p.1<k))
def more (D:List KV)(k:Int):List KV:=D.filter (fun p=>decide (k<p.1))
def iE (D:List KV)(k:Int)(v:Int):List KV:=less D k++(k,v)::more D k
def O0 (D:List KV)(k:Int):List KV:=D.filter (fun p=>decide (p.1≠k))
theorem Dz:Asc []:=List.Pairwise.nil
@[simp] theorem Hj (k:Int):look [] k=none:=rfl
theorem gp (p:KV)(D:List KV)(k:Int):look (p::D) k=if p.1=k then some p.2 else look D k:=by
 unfold look
 rw[List.find?_cons]
 by_cases h:p.1=k
 ·simp[h]
 ·have:(p.1==k)=false:=by simpa using h
  simp[this,h]
theorem lR (A B:List KV)(k:Int):look (A++B) k=(look A k).or (look B k):=by
 induction A with
 |nil=>simp
 |cons p A ih=>rw[List.cons_append,gp,gp];split<;>simp[ih]
theorem vu {D:List KV}{k:Int}(h:∀p∈D,p.1≠k):look D k=none:=by
 induction D with
 |nil=>rfl
 |cons p D ih=>rw[gp,if_neg (h p (by simp))];exact ih fun q hq=>h q (by simp[hq])
theorem ig {D:List KV}{k:Int} :look D k=none↔∀p∈D,p.1≠k:=by
 refine⟨fun h=>?_,vu⟩
 induction D with
 |nil=>simp
 |cons p D ih =>
  rw[gp] at h
  split at h
  ·cases h
  ·intro q hq
   rcases List.mem_cons.1 hq with rfl|hq
   ·assumption
   ·exact ih h q hq
theorem oZ {D:List KV}{k:Int}{v:Int}(h:look D k=some v):(k,v)∈D:=by
 induction D with
 |nil=>cases h
 |cons p D ih =>
  rw[gp] at h
  split at h
  ·rename_i e
   subst e;cases h;simp
  ·exact List.mem_cons_of_mem _ (ih h)
theorem Asc.part {D:List KV}(h:Asc D)(k:Int):∃A B,D=A++B∧A.length=pos D k∧(∀p∈A,p.1<k)∧(∀p∈B,k≤p.1):=by
 induction D with
 |nil=>exact⟨[],[],rfl,rfl,by simp,by simp⟩
 |cons p D ih =>
  have hc:=List.pairwise_cons.1 h
  by_cases hp:p.1<k
  ·obtain⟨A,B,e,hl,ha,hb⟩:=ih hc.2
   refine⟨p::A,B,by rw[e];rfl,?_,?_,hb⟩
   ·simp[pos,List.countP_cons,hp] at hl⊢;exact hl
   ·intro q hq
    rcases List.mem_cons.1 hq with rfl|hq
    ·exact hp
    ·exact ha q hq
  ·refine⟨[],p::D,rfl,?_,by simp,?_⟩
   ·unfold pos
    rw[List.length_nil,eq_comm,List.countP_eq_zero]
    intro q hq
    rcases List.mem_cons.1 hq with rfl|hq
    ·simpa using hp
    ·have:=hc.1 q hq;simp;omega
   ·intro q hq
    rcases List.mem_cons.1 hq with rfl|hq
    ·omega
    ·have:=hc.1 q hq;omega
theorem Asc.without {D:List KV}(h:Asc D){k:Int}(hk:look D k=none):∃A B,D=A++B∧A.length=pos D k∧(∀p∈A,p.1<k)∧(∀p∈B,k<p.1):=by
 obtain⟨A,B,e,hl,ha,hb⟩:=h.part k
 refine⟨A,B,e,hl,ha,fun p hp=>?_⟩
 have h1:=hb p hp
 have h2:=ig.1 hk p (by rw[e];simp[hp])
 omega
theorem Asc.with {D:List KV}(h:Asc D){k:Int}{v:Int}(hk:look D k=some v):∃A B,D=A++(k,v)::B∧A.length=pos D k∧(∀p∈A,p.1<k)∧(∀p∈B,k<p.1):=by
 obtain⟨A,B,e,hl,ha,hb⟩:=h.part k
 have hm:(k,v)∈B:=by
  have:=oZ hk
  rw[e,List.mem_append] at this
  rcases this with q|q
  ·have:=ha _ q;simp at this
  ·exact q
 have hB:Asc B:=by unfold Asc at h;rw[e,List.pairwise_append] at h;exact h.2.1
 match B,hB,hm,hb,e with
 |p::B,hB,hm,hb,e =>
  have hc:=List.pairwise_cons.1 hB
  have hp:p=(k,v):=by
   rcases List.mem_cons.1 hm with q|q
   ·exact q.symm
   ·have h1:=hc.1 _ q
    have h2:=hb p (by simp)
    simp at h1
    omega
  subst hp
  exact⟨A,B,e,hl,ha,fun q hq=>hc.1 q hq⟩
theorem kQ {D:List KV}{f:KV→Bool}(h:∀p∈D,f p=true):D.filter f=D:=List.filter_eq_self.2 h
theorem qR {D:List KV}{f:KV→Bool}(h:∀p∈D,f p=false):D.filter f= []:=List.filter_eq_nil_iff.2 fun p hp=>by rw[h p hp];simp
theorem sB {A B:List KV}{k:Int}(ha:∀p∈A,p.1<k)(hb:∀p∈B,k≤p.1):less (A++B) k=A:=by
 unfold less
 rw[List.filter_append,kQ (fun p hp=>by simpa using ha p hp),qR (fun p hp=>by have:=hb p hp;simp;omega),List.append_nil]
theorem sC {A B:List KV}{k:Int}(ha:∀p∈A,p.1≤k)(hb:∀p∈B,k<p.1):more (A++B) k=B:=by
 unfold more
 rw[List.filter_append,qR (D:=A) (fun p hp=>by have:=ha p hp;simp;omega),kQ (D:=B) (fun p hp=>by simpa using hb p hp),List.nil_append]
theorem sD {A B:List KV}{k:Int}(ha:∀p∈A,p.1<k)(hb:∀p∈B,k<p.1)(v:Int):iE (A++B) k v=A++(k,v)::B:=by
 unfold iE
 rw[sB ha (fun p hp=>by have:=hb p hp;omega),sC (fun p hp=>by have:=ha p hp;omega) hb]
theorem sE {A B:List KV}{k:Int}{u:Int}(ha:∀p∈A,p.1<k)(hb:∀p∈B,k<p.1)(v:Int):iE (A++(k,u)::B) k v=A++(k,v)::B:=by
 unfold iE
 rw[sB ha (fun p hp=>by rcases List.mem_cons.1 hp with rfl|q; · exact Int.le_refl _
                        ·have:=hb p q;omega)]
 rw[show A++(k,u)::B=(A++ [(k,u)])++B by simp,sC (fun p hp=>by
  rcases List.mem_append.1 hp with q|q
  ·have:=ha p q;omega
  ·simp at q;rw[q];exact Int.le_refl _) hb]
theorem O1 {A B:List KV}{k:Int}{u:Int}(ha:∀p∈A,p.1<k)(hb:∀p∈B,k<p.1):O0 (A++(k,u)::B) k=A++B:=by
 unfold O0
 rw[List.filter_append,List.filter_cons,if_neg (by simp),kQ (fun p hp=>by have:=ha p hp;simp;omega),kQ (fun p hp=>by have:=hb p hp;simp;omega)]
theorem Kh {A B:List KV}(hA:Asc A)(hB:Asc B){k:Int}(ha:∀p∈A,p.1<k)(hb:∀p∈B,k<p.1)(v:Int):Asc (A++(k,v)::B):=by
 unfold Asc at *
 rw[List.pairwise_append,List.pairwise_cons]
 refine⟨hA,⟨fun p hp=>hb p hp,hB⟩,fun p hp q hq=>?_⟩
 rcases List.mem_cons.1 hq with rfl|hq
 ·exact ha p hp
 ·have h1:=ha p hp;have h2:=hb q hq;omega
theorem sG {D:List KV}(h:Asc D)(f:KV→Bool):Asc (D.filter f):=List.Pairwise.filter f h
theorem sH {D:List KV}(h:Asc D)(k:Int)(v:Int):Asc (iE D k v):=
 Kh (sG h _) (sG h _) (fun p hp=>by simpa using (List.mem_filter.1 hp).2) (fun p hp=>by simpa using (List.mem_filter.1 hp).2) v
theorem yI {D:List KV}(h:Asc D)(k:Int)(v:Int):(iE D k v).length=if(look D k).isSome then D.length else D.length+1:=by
 cases hk:look D k with
 |none =>
  obtain⟨A,B,rfl,_,ha,hb⟩:=h.without hk
  rw[sD ha hb];simp;omega
 |some u =>
  obtain⟨A,B,rfl,_,ha,hb⟩:=h.with hk
  rw[sE ha hb];simp
theorem sI {A B:List KV}{k:Int}(ha:∀p∈A,p.1<k)(v:Int)(x:Int):look (A++(k,v)::B) x=if x=k then some v else(look A x).or (look B x):=by
 rw[lR,gp]
 by_cases hx:x=k
 ·subst hx
  rw[vu (fun p hp=>by have:=ha p hp;omega)];simp
 ·rw[if_neg (fun q=>hx q.symm),if_neg hx]
theorem pY {D:List KV}(h:Asc D)(k:Int)(v:Int)(x:Int):look (iE D k v) x=if x=k then some v else look D x:=by
 cases hk:look D k with
 |none =>
  obtain⟨A,B,rfl,_,ha,hb⟩:=h.without hk
  rw[sD ha hb,sI ha,lR]
 |some u =>
  obtain⟨A,B,rfl,_,ha,hb⟩:=h.with hk
  rw[sE ha hb,sI ha,sI ha];split<;>rfl
def cJ (D:List KV):List Value:=(fS D).map (Value.int .i64)
def cK (D:List KV):List Value:=(jd D).map (Value.int .i64)
theorem fY (D:List KV):(fS D).length=D.length:=by simp[fS]
theorem je (D:List KV):(jd D).length=D.length:=by simp[jd]
theorem xh (D:List KV):(cJ D).length=D.length:=by simp[cJ,fS]
theorem iU (D:List KV):(cK D).length=D.length:=by simp[cK,jd]
structure fx (w:World)(F:Nat→Prop)(p:Nat)(D:List KV):Prop where
 asc:Asc D
 small:D.length≤100000
 lt:∀k,F k→k<w.heap.size
 ex:∃ka kc va vc,w.heap[p]?=some (.cells #[.slice ka D.length kc,.slice va D.length vc] 142 (0,0))∧RowAt w 3 (cJ D) ka kc∧RowAt w 3 (cK D) va vc∧F p ∧
  (∀k,cZ ka k→F k∧k≠p)∧(∀k,cZ va k→F k∧k≠p∧¬cZ ka k)
theorem fx.keep {w w':World}{F S:Nat→Prop}{p:Nat}{D:List KV}(h:fx w F p D)(ht:Turned S w w')(hs:∀k,F k→¬S k):fx w' F p D:=by
 obtain⟨ka,kc,va,vc,hp,hk,hv,fp,fk,fv⟩:=h.ex
 exact⟨h.asc,h.small,fun k hk=>Nat.lt_of_lt_of_le (h.lt k hk) ht.size,ka,kc,va,vc,by rw[Turned.block ht p (ac hp) (hs p fp)];exact hp,
  hk.keep ht (fun k q=>hs k (fk k q).1),hv.keep ht (fun k q=>hs k (fv k q).1),fp,fk,fv⟩
theorem fx.more {w w':World}{F:Nat→Prop}{p:Nat}{D:List KV}(h:fx w F p D)(ht:ae w w'):fx w' F p D:=h.keep ht (fun _ _ q=>q)
theorem fZ (w:World)(q:Nat):ae w (w.drewN q):=(ae.refl w).drewN q
theorem yJ {D:List KV}(h:Asc D):(fS D).Pairwise (· ≤ ·):=by
 unfold fS Asc at *
 rw[List.pairwise_map]
 exact h.imp (fun {a b} q=>by omega)
theorem Be (D:List KV)(k:Int):(fS D).countP (· <k)=pos D k:=by
 unfold fS pos
 rw[List.countP_map];rfl
theorem Hk (D:List KV)(k:Int):(fS D).contains k=(look D k).isSome:=by
 rw[Bool.eq_iff_iff]
 rw[List.contains_iff_mem]
 unfold fS
 rw[List.mem_map]
 constructor
 ·rintro⟨p,hp,rfl⟩
  cases e:look D p.1 with
  |some v=>rfl
  |none=>exact absurd rfl (ig.1 e p hp)
 ·intro h
  cases e:look D k with
  |none=>rw[e] at h;cases h
  |some v=>exact⟨_,oZ e,rfl⟩
theorem ii {w:World}{p:Nat}{a b:Value}{T:TypeId}(h:w.heap[p]?=some (.cells #[a,b] T (0,0))):w.cell? ⟨p,0,none⟩=some a∧w.cell? ⟨p,1,none⟩=some b∧(∀j,w.frozen? ⟨p,j,none⟩=false)∧p<w.heap.size :=
 ⟨by simp[World.cell?,h],by simp[World.cell?,h],fun j=>by simp[World.frozen?,h],ac h⟩
theorem og {w:World}{D:List KV}(hD:Asc D)(hs:D.length≤100000)(k:Int){ka:Option Addr}{kc:Nat}(hk:RowAt w 3 (cJ D) ka kc):
 Calls Tryz.prog 121 #[.slice ka D.length kc,.int .i64 k] w fun e w'=>e=.returned (.tuple #[.int .i64 (pos D k:Nat),.bool (look D k).isSome])∧∃q,w'=w.drewN q:=by
 have S:=MY (fS D) k ka kc w hk (yJ hD) (by rw[fY];omega)
 rw[fY,Be,Hk] at S
 exact S
theorem Ki (F:Nat→Prop)(p:Nat)(D:List KV)(k:Int)(w:World)(h:fx w F p D):
 Calls Tryz.prog 95 #[.pointer (some ⟨p,0,none⟩),.int .i64 k] w fun e w'=>e=.returned (.tuple #[.int .i64 (pos D k:Nat),.bool (look D k).isSome])∧∃q,w'=w.drewN q:=by
 obtain⟨ka,kc,va,vc,hp,hk,hv,_⟩:=h.ex
 obtain⟨c0,c1,f0,hlt⟩:=ii hp
 have C:=hQQ (og h.asc h.small k hk)
 clear h hp hk hv
 generalize pos D k=i at C⊢
 generalize (look D k).isSome=b at C⊢
 generalize D.length=n at c0 c1 C
 go_enter Tryz.func95,Tryz.ntmps95
 go_wp2_with (go_at_call 121;refine C.o.mono ?_;rintro e w' ⟨rfl,q,rfl⟩)
 go_ret2
 exact⟨rfl,q,rfl⟩
theorem Hl (F:Nat→Prop)(p:Nat)(D:List KV)(w:World)(h:fx w F p D):
 Calls Tryz.prog 126 #[.pointer (some ⟨p,0,none⟩)] w fun e w'=>e=.returned (.int .i64 D.length)∧w'=w:=by
 obtain⟨ka,kc,va,vc,hp,hk,hv,_⟩:=h.ex
 obtain⟨c0,c1,f0,hlt⟩:=ii hp
 clear h hp hk hv
 generalize D.length=n at c0 c1⊢
 go_enter Tryz.func126,Tryz.ntmps126
 go_wp2_with fail
 go_ret
 exact⟨rfl,rfl⟩
theorem Bf (F:Nat→Prop)(p:Nat)(D:List KV)(k:Int)(w:World)(h:fx w F p D):
 Calls Tryz.prog 60 #[.pointer (some ⟨p,0,none⟩),.int .i64 k] w fun e w'=>e=.returned (.tuple #[.int .i64 ((look D k).getD 0),.bool (look D k).isSome])∧∃q,w'=w.drewN q:=by
 have C:=hQQ (Ki F p D k w h)
 have hasc:=h.asc
 obtain⟨ka,kc,va,vc,hp,hk,hv,_⟩:=h.ex
 obtain⟨c0,c1,f0,hlt⟩:=ii hp
 cases e:look D k with
 |none =>
  rw[e] at C
  clear h hp hk hv e hasc
  generalize D.length=n at c0 c1
  go_enter Tryz.func60,Tryz.ntmps60
  go_wp2_with (go_at_call 95;refine C.o.mono ?_;rintro e w' ⟨rfl,q,rfl⟩)
  go_ret2
  exact⟨rfl,q,rfl⟩
 |some v =>
  rw[e] at C
  obtain⟨A,B,hD,hl,_⟩:=hasc.with e
  have hi:pos D k<D.length:=by rw[←hl,hD];simp
  obtain⟨g,rfl,hg,hc,hf⟩:=hv.reads (by rw[iU];omega)
  have cv:w.cell? ⟨g,pos D k,none⟩=some (.int .i64 v):=hc _ _ (by rw[←hl];unfold cK jd;rw[hD];simp)
  clear h hp hk hv e hasc hc hD hl
  generalize pos D k=i at C cv hi
  generalize D.length=n at c0 c1 hi
  go_enter Tryz.func60,Tryz.ntmps60
  go_wp2_with (go_at_call 95;refine C.o.mono ?_;rintro e w' ⟨rfl,q,rfl⟩)
  go_ret2
  exact⟨rfl,q,rfl⟩
theorem O2 (F:Nat→Prop)(p:Nat)(D:List KV)(i:Nat)(q:KV)(w:World)(h:fx w F p D)(hq:D[i]?=some q):
 Calls Tryz.prog 127 #[.pointer (some ⟨p,0,none⟩),.int .i64 i] w fun e w'=>e=.returned (.tuple #[.int .i64 q.1,.int .i64 q.2,.bool true])∧∃n,w'=w.drewN n:=by
 have C:=hQQ (Hl F p D w h)
 have hi:i<D.length:=(List.getElem?_eq_some_iff.1 hq).1
 obtain⟨ka,kc,va,vc,hp,hk,hv,_⟩:=h.ex
 obtain⟨c0,c1,f0,hlt⟩:=ii hp
 obtain⟨g,rfl,hg,hc,hf⟩:=hv.reads (by rw[iU];omega)
 obtain⟨g2,rfl,hg2,hc2,hf2⟩:=hk.reads (by rw[xh];omega)
 have cv:w.cell? ⟨g,i,none⟩=some (.int .i64 q.2):=hc _ _ (by unfold cK jd;simp[hq])
 have ck:w.cell? ⟨g2,i,none⟩=some (.int .i64 q.1):=hc2 _ _ (by unfold cJ fS;simp[hq])
 have hs:=h.small
 clear h hp hk hv hc hc2 hq
 have d1:decide ((i:Int)<0)=false:=by simp
 have d2:decide ((D.length:Int)≤(i:Int))=false:=by simp;omega
 generalize D.length=n at c0 c1 hi C hs d2
 obtain⟨qk,qv⟩:=q
 simp only at cv ck⊢
 go_enter Tryz.func127,Tryz.ntmps127
 go_wp2_with (go_at_call 126;refine C.o.mono ?_;rintro e w' ⟨rfl,rfl⟩)
 go_quiet (fail)
 go_wp2_with fail
 go_ret3
 exact⟨rfl,_,rfl⟩
def rQ (w:World)(D:List KV)(e:Ending)(w':World):Prop:=∃F p,e=.returned (.pointer (some ⟨p,0,none⟩))∧fx w' F p D∧ae w w'∧∀k,F k→w.heap.size≤k
def sJ (w:World)(F:Nat→Prop)(p:Nat)(D:List KV)(v:Value)(e:Ending)(w':World):Prop :=
 e=.returned v∧∃F',fx w' F' p D∧Turned F w w'∧∀k,F' k→F k∨w.heap.size≤k
theorem bu {w:World}{b o:Nat}{c:Array Value}{e:TypeId}{fr:Nat×Nat}(x:Value)(h:w.heap[b]?=some (.cells c e fr)):(w.setCell ⟨b,o,none⟩ x).heap[b]?=some (.cells (c.setIfInBounds o x) e fr):=by
 rw[setCell_eq];exact fg _ h
theorem bB {S:Nat→Prop}{w w':World}(ht:Turned S w w'){b o:Nat}(hb:b<w.heap.size→S b)(x:Value):Turned S w (w'.setCell ⟨b,o,none⟩ x):=ht.setCell _ _ hb
theorem Hm (w:World):Calls Tryz.prog 76 #[] w (rQ w []):=by
 have hh:=bh w (.cells #[.slice none 0 0,.slice none 0 0] 142)
 have fin:rQ w [] (.returned (.pointer (some ⟨w.heap.size,0,none⟩))) (w.alloc (.cells #[.slice none 0 0,.slice none 0 0] 142)):=by
  refine⟨fun k=>k=w.heap.size,w.heap.size,rfl,⟨Dz,by simp,fun k hk=>by subst hk;simp,none,0,none,0,hh,RowAt.nil _ _,RowAt.nil _ _,rfl,(fun k hk=>by cases hk),(fun k hk=>by cases hk)⟩,(ae.refl w).alloc _,fun k hk=>by omega⟩
 go_enter Tryz.func76,Tryz.ntmps76
 go_wp2_with fail
 go_ret
 exact fin
theorem Hn {w:World}{D:List KV}(hs:D.length≤100000){i:Nat}(hi:i≤D.length)(k:Int){a:Option Addr}{cap:Nat}(h:RowAt w 3 (cJ D) a cap):
 Calls Tryz.prog 151 #[.slice a D.length cap,.int .i64 i,.slice (some ⟨w.heap.size,0,none⟩) 1 1] (w.alloc (.cells #[.int .i64 k] 3))
  fun e w'=>∃a' cap',e=.returned (.slice a' (D.length+1) cap')∧jG w w' 3 ((cJ D).take i++ .int .i64 k::(cJ D).drop i) a a' cap':=by
 have:=Dy (fS D) i (by rw[fY];exact hi) (by rw[fY];omega) k a cap w h
 rw[fY] at this
 exact this
theorem Ho {w:World}{g:Nat}(hg:g=w.heap.size){D:List KV}(hs:D.length≤100000){i:Nat}(hi:i≤D.length)(v:Int){a:Option Addr}{cap:Nat}(h:RowAt w 3 (cK D) a cap):
 Calls Tryz.prog 151 #[.slice a D.length cap,.int .i64 i,.slice (some ⟨g,0,none⟩) 1 1] (w.alloc (.cells #[.int .i64 v] 3))
  fun e w'=>∃a' cap',e=.returned (.slice a' (D.length+1) cap')∧jG w w' 3 ((cK D).take i++ .int .i64 v::(cK D).drop i) a a' cap':=by
 subst hg
 have:=Dy (jd D) i (by rw[je];exact hi) (by rw[je];omega) v a cap w h
 rw[je] at this
 exact this
theorem vv (A B:List KV)(k:Int)(v:Int):cJ (A++(k,v)::B)=(cJ (A++B)).take A.length++ .int .i64 k::(cJ (A++B)).drop A.length∧cK (A++(k,v)::B)=(cK (A++B)).take A.length++ .int .i64 v::(cK (A++B)).drop A.length:=by
 constructor<;>simp[cJ,cK,fS,jd,List.take_append,List.drop_append]
theorem EJ {w w2 w4:World}{F:Nat→Prop}{p:Nat}{D D':List KV}{ka va ka' va':Option Addr}{kc vc kc' vc':Nat}{ks vs:List Value}{n':Nat}(h:fx w F p D)
 (hp:w.heap[p]?=some (.cells #[.slice ka D.length kc,.slice va D.length vc] 142 (0,0))) (hv:RowAt w 3 (cK D) va vc) (hk0:RowAt w 3 (cJ D) ka kc) (fp:F p) (fk:∀k,cZ ka k→F k∧k≠p) (fv:∀k,cZ va k→F k∧k≠p∧¬cZ ka k)
 (m1:jG w w2 3 ks ka ka' kc') (m2:jG (w2.setCell ⟨p,0,none⟩ (.slice ka' n' kc')) w4 3 vs va va' vc')
 (ha:Asc D') (hs:D'.length≤100000) (e1:ks=cJ D') (e2:vs=cK D') (e3:n'=D'.length):
 ∃F',fx (w4.setCell ⟨p,1,none⟩ (.slice va' n' vc')) F' p D'∧Turned F w (w4.setCell ⟨p,1,none⟩ (.slice va' n' vc'))∧∀k,F' k→F k∨w.heap.size≤k:=by
 subst e1 e2 e3
 have hpw:=ac hp
 have hp2:w2.heap[p]?=_:=(Turned.block m1.turn p hpw (fun q=>(fk p q).2 rfl)).trans hp
 have hp3:=bu (o:=0) (.slice ka' D'.length kc') hp2
 have hp4:w4.heap[p]?=_:=(Turned.block m2.turn p (ac hp3) (fun q=>(fv p q).2.1 rfl)).trans hp3
 have hp5:=bu (o:=1) (.slice va' D'.length vc') hp4
 have t1:Turned F w w2:=m1.turn.mono fun k _ q=>(fk k q).1
 have t2:Turned F w (w2.setCell ⟨p,0,none⟩ (.slice ka' D'.length kc')):=bB t1 (fun _=>fp) _
 have t3:Turned F w w4:=t2.trans (m2.turn.mono fun k _ q=>(fv k q).1)
 have t4:Turned F w (w4.setCell ⟨p,1,none⟩ (.slice va' D'.length vc')):=bB t3 (fun _=>fp) _
 have hs23:(w2.setCell ⟨p,0,none⟩ (.slice ka' D'.length kc')).heap.size=w2.heap.size:=by simp
 have hs45:(w4.setCell ⟨p,1,none⟩ (.slice va' D'.length vc')).heap.size=w4.heap.size:=by simp
 have s12:=m1.turn.size
 have s24:w2.heap.size≤w4.heap.size:=by have:=m2.turn.size;omega
 have hva:=hv.lt
 -- where the new rows are
 have fk':∀k,cZ ka' k→(cZ ka k∨w.heap.size≤k)∧k<w2.heap.size:=fun k q=>⟨m1.from' k q,m1.row.lt k q⟩
 have fv':∀k,cZ va' k→(cZ va k∨w2.heap.size≤k)∧k<w4.heap.size:=fun k q=>⟨by have:=m2.from' k q;rwa [hs23] at this,m2.row.lt k q⟩
 have kp:∀k,cZ ka' k→k≠p:=fun k q e=>by
  subst e
  rcases (fk' k q).1 with q|q
  ·exact(fk k q).2 rfl
  ·omega
 have vp:∀k,cZ va' k→k≠p:=fun k q e=>by
  subst e
  rcases (fv' k q).1 with q|q
  ·exact(fv k q).2.1 rfl
  ·omega
 have kv:∀k,cZ ka' k→¬cZ va k:=fun k q r=>by
  rcases (fk' k q).1 with q|q
  ·exact(fv k r).2.2 q
  ·have:=hva k r;omega
 have vk:∀k,cZ va' k→¬cZ ka' k:=fun k q r=>by
  rcases (fv' k q).1 with q|q
  ·exact kv k r q
  ·have:=(fk' k r).2;omega
 refine⟨fun k=>(F k∨w.heap.size≤k)∧k<w4.heap.size,⟨ha,hs,fun k hk=>by rw[hs45];exact hk.2,ka',kc',va',vc',?_,?_,?_,⟨.inl fp,by omega⟩,?_,?_⟩,t4,fun k hk=>hk.1⟩
 ·rw[hp5];simp
 ·have r3:RowAt (w2.setCell ⟨p,0,none⟩ (.slice ka' D'.length kc')) 3 (cJ D') ka' kc':=m1.row.keep (bB (S:=fun k=>k=p) (Turned.refl _ w2) (fun _=>rfl) _) kp
  have r4:RowAt w4 3 (cJ D') ka' kc':=r3.keep m2.turn kv
  exact r4.keep (bB (S:=fun k=>k=p) (Turned.refl _ w4) (fun _=>rfl) _) kp
 ·exact m2.row.keep (bB (S:=fun k=>k=p) (Turned.refl _ w4) (fun _=>rfl) _) vp
 ·intro k q
  refine⟨⟨?_,by have:=(fk' k q).2;omega⟩,kp k q⟩
  rcases (fk' k q).1 with q|q
  ·exact .inl (fk k q).1
  ·exact .inr q
 ·intro k q
  refine⟨⟨?_,(fv' k q).2⟩,vp k q,vk k q⟩
  rcases (fv' k q).1 with q|q
  ·exact .inl (fv k q).1
  ·exact .inr (by omega)
theorem Kj (F:Nat→Prop)(p:Nat)(D:List KV)(k:Int)(v:Int)(w:World)(h0:fx w F p D)(hs:D.length<100000)(hk:look D k=none):
 Calls Tryz.prog 135 #[.pointer (some ⟨p,0,none⟩),.int .i64 k,.int .i64 v] w (sJ w F p (iE D k v) (.bool true)):=by
 obtain⟨ka,kc,va,vc,hp0,hk0,hv0,fp,fk,fv⟩:=h0.ex
 have C0:=og h0.asc h0.small k hk0
 rw[hk] at C0
 obtain⟨A,B,hD,hl,ha,hb⟩:=h0.asc.without hk
 have hi:A.length≤D.length:=by rw[hD];simp
 have FIN0:∀q w2 w4 ka' kc' va' vc' ks vs,jG (w.drewN q) w2 3 ks ka ka' kc'→jG (w2.setCell ⟨p,0,none⟩ (.slice ka' (D.length+1) kc')) w4 3 vs va va' vc' →
  ks=(cJ D).take A.length++ .int .i64 k::(cJ D).drop A.length→vs=(cK D).take A.length++ .int .i64 v::(cK D).drop A.length →
  sJ w F p (iE D k v) (.bool true) (.returned (.bool true)) (w4.setCell ⟨p,1,none⟩ (.slice va' (D.length+1) vc')):=by
  intro q w2 w4 ka' kc' va' vc' ks vs m1 m2 e1 e2
  have hq:=fZ w q
  have hlen:(iE D k v).length=D.length+1:=by rw[yI h0.asc,hk];rfl
  have hD':iE D k v=A++(k,v)::B:=by rw[hD,sD ha hb]
  obtain⟨F',hm,ht,hf⟩:=EJ (D':=iE D k v) (h0.more hq) hp0 (hv0.keep hq (fun _ _ q=>q)) (hk0.keep hq (fun _ _ q=>q)) fp fk fv m1 m2 (sH h0.asc k v) (by omega)
   (by rw[e1,hD',(vv A B k v).1,hD]) (by rw[e2,hD',(vv A B k v).2,hD]) hlen.symm
  exact⟨rfl,F',hm,(Turned.mono hq (fun _ _ q=>q.elim)).trans ht,hf⟩
 have FIN:=hQQ FIN0
 clear FIN0
 have FK:=hQQ fk
 have FV:=hQQ fv
 have HD:=h0.small
 rw[←hl] at C0
 have C:=hQQ C0
 clear C0
 obtain⟨c0,c1,f0,hlt⟩:=ii hp0
 have HP:=hQQ hp0
 have HK:=hQQ hk0
 have HV:=hQQ hv0
 clear hp0 fk fv hD hl ha hb h0 hs hk hk0 hv0 fp B
 go_enter Tryz.func135,Tryz.ntmps135
 go_wp2_with fail
 refine C.o.mono ?_
 rintro e w1 ⟨rfl,q,rfl⟩
 have hq:=fZ w q
 go_wp2_with fail
 refine(Hn HD hi k (HK.o.keep hq (fun _ _ q=>q))).mono ?_
 rintro e w2 ⟨ka',kc',rfl,m1⟩
 have hp2:w2.heap[p]?=_:=(Turned.block m1.turn p (ac HP.o) (fun q=>(FK.o p q).2 rfl)).trans HP.o
 obtain⟨d0,d1,g0,hlt2⟩:=ii hp2
 have hp3:=bu (o:=0) (.slice ka' (D.length+1) kc') hp2
 obtain⟨x0,x1,z0,hlt3⟩:=ii (by simpa using hp3)
 have hv3:RowAt (w2.setCell ⟨p,0,none⟩ (.slice ka' (D.length+1) kc')) 3 (cK D) va vc :=
  ((HV.o.keep hq (fun _ _ q=>q)).keep m1.turn (fun k q=>(FV.o k q).2.2)).keep (bB (S:=fun k=>k=p) (Turned.refl _ w2) (fun _=>rfl) _) (fun k q=>(FV.o k q).2.1)
 have HV3:=hQQ hv3
 have M1:=hQQ m1
 clear hp2 hp3 hv3 m1
 go_wp2_with fail
 refine(Ho (w:=w2.setCell ⟨p,0,none⟩ (.slice ka' (D.length+1) kc')) (by simp) HD hi v HV3.o).mono ?_
 rintro e w4 ⟨va',vc',rfl,m2⟩
 have hp3:=bu (o:=0) (.slice ka' (D.length+1) kc') ((Turned.block M1.o.turn p (ac HP.o) (fun q=>(FK.o p q).2 rfl)).trans HP.o)
 have hp4:w4.heap[p]?=_:=(Turned.block m2.turn p (ac hp3) (fun q=>(FV.o p q).2.1 rfl)).trans hp3
 obtain⟨y0,y1,k0,hlt4⟩:=ii (by simpa using hp4)
 have M2:=hQQ m2
 clear hp3 hp4 m2
 go_wp2_with fail
 go_ret
 exact FIN.o _ _ _ _ _ _ _ _ _ M1.o M2.o rfl rfl
theorem Kk (F:Nat→Prop)(p:Nat)(D:List KV)(k:Int)(v u:Int)(w:World)(h0:fx w F p D)(hk:look D k=some u):
 Calls Tryz.prog 135 #[.pointer (some ⟨p,0,none⟩),.int .i64 k,.int .i64 v] w (sJ w F p (iE D k v) (.bool false)):=by
 obtain⟨ka,kc,va,vc,hp0,hk0,hv0,fp,fk,fv⟩:=h0.ex
 have C0:=og h0.asc h0.small k hk0
 rw[hk] at C0
 obtain⟨A,B,hD,hl,ha,hb⟩:=h0.asc.with hk
 have hi:A.length<D.length:=by rw[hD];simp
 obtain⟨g,rfl,hg,hc,hf⟩:=hv0.reads (by rw[iU];omega)
 have cg:w.cell? ⟨g,A.length,none⟩=some (.int .i64 u):=hc _ _ (by unfold cK jd;rw[hD];simp)
 have hfg:=hf A.length
 have FIN0:∀q,sJ w F p (iE D k v) (.bool false) (.returned (.bool false)) ((w.drewN q).setCell ⟨g,A.length,none⟩ (.int .i64 v)):=by
  intro q
  have hq:=fZ w q
  have hlen:(iE D k v).length=D.length:=by rw[yI h0.asc,hk];rfl
  have hD':iE D k v=A++(k,v)::B:=by rw[hD,sE ha hb]
  have hgp:=(fv g rfl).2.1
  have hh:((w.drewN q).setCell ⟨g,A.length,none⟩ (.int .i64 v)).heap.size=w.heap.size:=by simp
  have tg:Turned (fun k=>k=g) w ((w.drewN q).setCell ⟨g,A.length,none⟩ (.int .i64 v)):=bB (S:=fun k=>k=g) ((Turned.refl _ w).drewN q) (fun _=>rfl) _
  refine⟨rfl,F,⟨sH h0.asc k v,by rw[hlen];exact h0.small,fun k hk=>by rw[hh];exact h0.lt k hk,ka,kc,_,vc,?_,?_,?_,fp,fk,fv⟩,tg.mono fun k _ e=>by subst e;exact(fv k rfl).1,fun k hk=> .inl hk⟩
  ·rw[hlen,Turned.block tg p (ac hp0) (fun e=>hgp e.symm)];exact hp0
  ·have:cJ (iE D k v)=cJ D:=by rw[hD',hD];simp[cJ,fS]
   rw[this]
   exact hk0.keep tg fun x hx e=>(fv g rfl).2.2 (e▸hx)
  ·have:cK (iE D k v)=(cK D).set A.length (.int .i64 v):=by rw[hD',hD];simp[cK,jd,List.set_append]
   rw[this]
   exact vr _ (hv0.keep hq (fun _ _ q=>q)) (by rw[iU];exact hi)
 have FIN:=hQQ FIN0
 rw[←hl] at C0
 have C:=hQQ C0
 have HD:=h0.small
 obtain⟨c0,c1,f0,hlt⟩:=ii hp0
 clear FIN0 C0 hp0 fk fv hD hl ha hb h0 hk hk0 hv0 fp B hc hf
 generalize A.length=i at *
 generalize D.length=n at *
 go_enter Tryz.func135,Tryz.ntmps135
 go_wp2_with fail
 refine C.o.mono ?_
 rintro e w1 ⟨rfl,q,rfl⟩
 go_wp2_with fail
 go_ret
 exact FIN.o q
theorem Nd (F:Nat→Prop)(p:Nat)(D:List KV)(k:Int)(v:Int)(w:World)(h:fx w F p D)(hs:D.length<100000):
 Calls Tryz.prog 135 #[.pointer (some ⟨p,0,none⟩),.int .i64 k,.int .i64 v] w (sJ w F p (iE D k v) (.bool (look D k).isNone)):=by
 cases e:look D k with
 |none=>exact Kj F p D k v w h hs e
 |some u=>exact Kk F p D k v u w h e
structure xi (w W W':World)(e:TypeId)(xs:List Value)(a:Option Addr)(cap:Nat):Prop where
 row:RowAt W' e xs a cap
 step:ae W W'
 all:ae w W'
 new:∀k,cZ a k→W.heap.size≤k
theorem Bg {w:World}{D:List KV}(hs:D.length≤100000){a:Option Addr}{cap:Nat}(h:RowAt w 3 (cJ D) a cap)(W:World)(hW:ae w W):
 Calls Tryz.prog 41 #[.slice a D.length cap] W fun e W'=>∃a' cap',e=.returned (.slice a' D.length cap')∧xi w W W' 3 (cJ D) a' cap':=by
 have:=vt (fS D) (by rw[fY];omega) a cap W (h.keep hW (fun _ _ q=>q))
 rw[fY] at this
 refine this.mono ?_
 rintro e W' ⟨a',cap',rfl,hr,hm,hn⟩
 exact⟨a',cap',rfl,hr,hm,hW.trans hm,hn⟩
theorem Bh {w:World}{D:List KV}(hs:D.length≤100000){a:Option Addr}{cap:Nat}(h:RowAt w 3 (cK D) a cap)(W:World)(hW:ae w W):
 Calls Tryz.prog 41 #[.slice a D.length cap] W fun e W'=>∃a' cap',e=.returned (.slice a' D.length cap')∧xi w W W' 3 (cK D) a' cap':=by
 have:=vt (jd D) (by rw[je];omega) a cap W (h.keep hW (fun _ _ q=>q))
 rw[je] at this
 refine this.mono ?_
 rintro e W' ⟨a',cap',rfl,hr,hm,hn⟩
 exact⟨a',cap',rfl,hr,hm,hW.trans hm,hn⟩
theorem yK {w Wk Wk' Wv Wv' W:World}{D:List KV}(ha:Asc D)(hs:D.length≤100000){ka va:Option Addr}{kc vc:Nat}(hk:xi w Wk Wk' 3 (cJ D) ka kc)(hv:xi w Wv Wv' 3 (cK D) va vc)
 (mk:ae Wk' W) (mv:ae Wv' W) (hw1:w.heap.size≤Wk.heap.size) (hw2:w.heap.size≤Wv.heap.size) (hd:Wk'.heap.size≤Wv.heap.size∨Wv'.heap.size≤Wk.heap.size):
 rQ w D (.returned (.pointer (some ⟨W.heap.size,0,none⟩))) (W.alloc (.cells #[.slice ka D.length kc,.slice va D.length vc] 142)):=by
 have m:=(ae.refl W).alloc (.cells #[.slice ka D.length kc,.slice va D.length vc] 142)
 have hk':=hk.row.keep mk (fun _ _ q=>q)
 have hv':=hv.row.keep mv (fun _ _ q=>q)
 have lk:=hk.row.lt
 have lv:=hv.row.lt
 have sk:=mk.size
 have sv:=mv.size
 refine⟨fun k=>w.heap.size≤k∧k<W.heap.size+1,W.heap.size,rfl,⟨ha,hs,fun k q=>by simp;omega,ka,kc,va,vc,bh W _,hk'.keep m (fun _ _ q=>q),hv'.keep m (fun _ _ q=>q),⟨by have:=hk.all.size;omega,by omega⟩,?_,?_⟩,(hk.all.trans mk).trans m,fun k q=>q.1⟩
 ·intro k q
  have:=hk.new k q;have:=lk k q
  exact⟨⟨by omega,by omega⟩,by omega⟩
 ·intro k q
  have:=hv.new k q;have:=lv k q
  refine⟨⟨by omega,by omega⟩,by omega,fun r=>?_⟩
  have:=hk.new k r;have:=lk k r
  omega
theorem Kl (F:Nat→Prop)(p:Nat)(D:List KV)(w:World)(h:fx w F p D):
 Calls Tryz.prog 125 #[.pointer (some ⟨p,0,none⟩)] w (rQ w D):=by
 obtain⟨ka,kc,va,vc,hp,hk,hv,_⟩:=h.ex
 obtain⟨c0,c1,f0,hlt⟩:=ii hp
 have CK:=hQQ (Bg h.small hk)
 have CV:=hQQ (Bh h.small hv)
 have HA:=hQQ h.asc
 have HS:=hQQ h.small
 have C0:=hQQ c0
 have C1:=hQQ c1
 clear h hp hk hv
 go_enter Tryz.func125,Tryz.ntmps125
 go_wp2_with fail
 go_region_held3 (fun w'=>w'.cell? ⟨p,0,none⟩=some (.slice ka D.length kc)∧w'.cell? ⟨p,1,none⟩=some (.slice va D.length vc))
  (first|exact⟨M40.o.cell C0.o,M40.o.cell C1.o⟩|exact⟨M41.o.cell C0.o,M41.o.cell C1.o⟩|go_keep)
  (first
   |(go_at_call 41;refine(CK.o _ (by first|exact M41.o|exact M41.o.drew|exact(ae.refl w).drew|exact ae.refl w)).mono ?_;rintro e w40 ⟨a40,c40,rfl,h40⟩;have H40:=hQQ h40;have M40:=hQQ h40.all;clear h40)
   |(go_at_call 41;refine(CV.o _ (by first|exact M40.o|exact M40.o.drew|exact(ae.refl w).drew|exact ae.refl w)).mono ?_;rintro e w41 ⟨a41,c41,rfl,h41⟩;have H41:=hQQ h41;have M41:=hQQ h41.all;clear h41))
 all_goals go_wp2_with fail
 all_goals go_ret
 all_goals first
  |exact yK HA.o HS.o H40.o H41.o H41.o.step (ae.refl _) (by simp) M40.o.size (.inl (Nat.le_refl _))
  |exact yK HA.o HS.o H40.o H41.o (ae.refl _) H40.o.step M41.o.size (by simp) (.inr (Nat.le_refl _))
def W64 (x:Int):Prop:= -9223372036854775808≤x∧x≤9223372036854775807
abbrev Nf:=Int×Int×Int
inductive Ran where
 |need (a:Int)
 |done (D:List KV)
def dM (kn:Int→Option Int)(D:List KV)(a:Int):Option Int :=
 if a<0 then some 0 else(look D a).or (kn a)
def eC (D:List KV)(a x:Int):List KV:=if a<0 then D else iE D a x
def yL (kn:Int→Option Int):List Nf→Bool→Int→List KV→Ran
 | [],_,_,D=> .done D
 | _::r,true,x,D=>yL kn r false x D
 |(k,a,b)::r,false,x,D =>
  if k=0 then(match dM kn D a with|none=> .need a|some y=>yL kn r false y D)
  else if k=1 then yL kn r false x (eC D a b)
  else if k=2 then yL kn r false x (eC D a x)
  else if k=3 then(match dM kn D x with|none=> .need x|some y=>yL kn r false y D)
  else if k=4 then yL kn r (decide (x=b)) x D
  else yL kn r false x D
def OkK (kn:Int→Option Int):Prop:=∀a v,kn a=some v→W64 v
def OkD (D:List KV):Prop:=∀p∈D,0≤p.1∧W64 p.1∧W64 p.2
theorem Km:OkD []:=fun p h=>by cases h
theorem yM {D:List KV}{k v:Int}{p:KV}(h:p∈iE D k v):p=(k,v)∨p∈D:=by
 unfold iE less more at h
 rw[List.mem_append,List.mem_cons] at h
 rcases h with h|h|h
 ·exact .inr (List.mem_filter.1 h).1
 ·exact .inl h
 ·exact .inr (List.mem_filter.1 h).1
theorem EK {D:List KV}(h:OkD D){a x:Int}(ha:W64 a)(hx:W64 x):OkD (eC D a x):=by
 unfold eC
 split
 ·exact h
 ·intro p hp
  rcases yM hp with rfl|hp
  ·exact⟨by simp;omega,ha,hx⟩
  ·exact h p hp
theorem EM {D:List KV}(h:Asc D)(a x:Int):Asc (eC D a x):=by
 unfold eC
 split
 ·exact h
 ·exact sH h a x
theorem DA {kn:Int→Option Int}(hk:OkK kn){D:List KV}(hD:OkD D){a y:Int}(h:dM kn D a=some y):W64 y:=by
 unfold dM at h
 split at h
 ·cases h;unfold W64;omega
 ·cases e:look D a with
  |none=>rw[e] at h;exact hk a y (by simpa using h)
  |some v =>
   rw[e] at h
   have:v=y:=by simpa using h
   subst this
   exact(hD _ (oZ e)).2.2
theorem vw {kn:Int→Option Int}{D:List KV}{a:Int}(h:dM kn D a=none):0≤a∧look D a=none∧kn a=none:=by
 unfold dM at h
 split at h
 ·cases h
 ·cases e:look D a with
  |none=>rw[e] at h;exact⟨by omega,rfl,by simpa using h⟩
  |some v=>rw[e] at h;simp at h
def Ng (kn:Int→Option Int)(n:Nat):Ran→Prop
 | .need a=>0≤a∧W64 a∧kn a=none
 | .done D=>OkD D∧Asc D∧D.length≤n
section
variable {kn:Int→Option Int}{l:List Nf}{i:Nat}{k a b x y:Int}{D:List KV}{R:Ran}
end
open Go.Maps
theorem Mt {x:Int}(h:W64 x):(Lit.int .i64 x).wf=true:=WalkArith.wf_i64 h
theorem yN {x:Int}(h:(Lit.int .i64 x).wf=true):W64 x:=by
 simp only[Lit.wf,Bool.and_eq_true,decide_eq_true_eq] at h
 exact⟨h.1,h.2⟩
theorem xj:Keyed Tryz.prog 3:=int_keyed Tryz.underlying3
theorem Hp (w:World):(zeroValue 3).run Tryz.prog w=.ok (.int .i64 0) w:=by kernel_rfl
theorem xm {x:Int}(h:W64 x):keyOf Tryz.prog 3 (.int .i64 x)=some (.int .i64 x):=keyOf_int_mk Tryz.underlying3 (Mt h)
def KnownAt (w:World)(M n:Nat)(kn:Int→Option Int):Prop :=
 ∃D:DataW Unit,w.ownsMap Tryz.prog 3 (plainElem Tryz.prog 3) M n D∧∀x,W64 x→Maps.has D (.int .i64 x)=(kn x).isSome∧D.atKey (.int .i64 x) (.lit (.int .i64 0))=.lit (.int .i64 ((kn x).getD 0))
namespace KnownAt
variable {w w':World}{M n:Nat}{kn:Int→Option Int}
theorem lt (h:KnownAt w M n kn):M<w.heap.size:=by obtain⟨D,hD,_⟩:=h;exact hD.lt
theorem keep (h:KnownAt w M n kn){S:Nat→Prop}(t:Turned S w w')(hs:¬S M):KnownAt w' M n kn:=by
 obtain⟨D,⟨es,clock,hb,F⟩,hk⟩:=h
 exact⟨D,⟨es,clock,(Turned.block t M (ac hb) hs).trans hb,F⟩,hk⟩
theorem more (h:KnownAt w M n kn)(t:ae w w'):KnownAt w' M n kn:=h.keep t (fun q=>q)
theorem look (h:KnownAt w M n kn){a:Int}(ha:W64 a):(Instr.lookup 83 (.map (some M)) (.int .i64 a) true).run Tryz.prog w=.ok (.tuple #[.int .i64 ((kn a).getD 0),.bool (kn a).isSome]) w:=by
 obtain⟨D,hD,hk⟩:=h
 obtain⟨v,ps,hr,hv⟩:=hD.look_ok xj Tryz.underlying83 (Hp w) (plainElem_int Tryz.underlying3 (by decide)) (xm ha)
 obtain⟨c,rfl,hc,_⟩:=plainElem_int_inv Tryz.underlying3 hv
 obtain⟨h1,h2⟩:=hk a ha
 rw[h1] at hr
 rw[h2] at hc
 simp only[Prod.mk.injEq,DataW.lit.injEq,Lit.int.injEq,true_and] at hc
 rw[hr,←hc.1]
theorem made (w:World):KnownAt (w.alloc (.map #[] 0)) w.heap.size 0 (fun _=>none):=
 ⟨.map [],World.ownsMap_made _ _ _ _,fun x _=>⟨rfl,rfl⟩⟩
theorem store (h:KnownAt w M n kn){a x:Int}(ha:W64 a)(hx:W64 x)(hn:n<maxLen):
 ∃w',(Instr.mapUpdate 83 (.map (some M)) (.int .i64 a) (.int .i64 x)).run Tryz.prog w=.ok () w'∧KnownAt w' M (n+1) (fun y=>if y=a then some x else kn y)∧Turned (fun k=>k=M) w w':=by
 obtain⟨D,hD,hk⟩:=h
 obtain⟨w',hr,h1,h2⟩:=hD.update xj Tryz.underlying83 hn (xm ha) (plainElem_int Tryz.underlying3 (Mt hx))
 refine⟨w',hr,⟨_,h1,fun y hy=>?_⟩,⟨h2.os,h2.tape,h2.output,h2.size,fun k hk hne=>h2.block k hk (fun e=>hne (Option.some.inj e))⟩⟩
 by_cases e:y=a
 ·subst e
  dsimp only
  rw[if_pos rfl]
  refine⟨has_put_same hD.isMap ?_ _,atKey_put_same hD.isMap ?_ _ _⟩<;>exact xj.key (xm ha)
 ·have hne:(Lit.int .i64 y)≠Lit.int .i64 a:=fun q=>e (by simpa using q)
  dsimp only
  rw[if_neg e,has_put_other hne,atKey_put_other hne]
  exact hk y hy
end KnownAt
def cy (self:Option Addr)(M q:Nat)(need:Int):Array Value:= #[.pointer self,.map (some M),.pointer (some ⟨q,0,none⟩),.int .i64 need]
structure aE (w:World)(F:Nat→Prop)(p:Nat)(kn:Int→Option Int)(D:List KV):Prop where
 ex:∃M q n F0,w.heap[p]?=some (.cells (cy (some ⟨p,0,none⟩) M q (-1)) 110 (0,0))∧KnownAt w M n kn∧fx w F0 q D∧F p∧(∀k,F0 k→F k∧k≠p)∧¬F M
 lt:∀k,F k→k<w.heap.size
def aN (w:World)(p:Nat)(need:Int):Prop:=∃M q,w.heap[p]?=some (.cells (cy none M q need) 110 (0,0))
theorem aE.keep {w w':World}{F S:Nat→Prop}{p:Nat}{kn:Int→Option Int}{D:List KV}(h:aE w F p kn D)(ht:Turned S w w')(hs:∀k,F k→¬S k)(hM:∀k,S k→F k∨False):aE w' F p kn D:=by
 obtain⟨M,q,n,F0,hp,hk,hm,fp,f0,fM⟩:=h.ex
 refine⟨⟨M,q,n,F0,by rw[Turned.block ht p (ac hp) (hs p fp)];exact hp,hk.keep ht (fun q=>?_),hm.keep ht (fun k q=>hs k (f0 k q).1),fp,f0,fM⟩,fun k hk=>Nat.lt_of_lt_of_le (h.lt k hk) ht.size⟩
 rcases hM M q with r|r
 ·exact fM r
 ·exact r
theorem aE.more {w w':World}{F:Nat→Prop}{p:Nat}{kn:Int→Option Int}{D:List KV}(h:aE w F p kn D)(ht:ae w w'):aE w' F p kn D:=h.keep ht (fun _ _ q=>q) (fun _ q=> .inr q)
theorem aN.keep {w w':World}{S:Nat→Prop}{p:Nat}{a:Int}(h:aN w p a)(ht:Turned S w w')(hs:¬S p):aN w' p a:=by
 obtain⟨M,q,hp⟩:=h
 exact⟨M,q,by rw[Turned.block ht p (ac hp) hs];exact hp⟩
def aR (p:Nat):List PanicEntry:= [{ v:= .iface 113 (.agg #[.pointer (some ⟨p,0,none⟩)]),recovered:=false }]
theorem cR {w:World}{p M q:Nat}{self:Option Addr}{need:Int}(h:w.heap[p]?=some (.cells (cy self M q need) 110 (0,0))):
 w.cell? ⟨p,0,none⟩=some (.pointer self)∧w.cell? ⟨p,1,none⟩=some (.map (some M))∧w.cell? ⟨p,2,none⟩=some (.pointer (some ⟨q,0,none⟩))∧w.cell? ⟨p,3,none⟩=some (.int .i64 need)∧(∀j,w.frozen? ⟨p,j,none⟩=false)∧p<w.heap.size :=
 ⟨by simp[World.cell?,h,cy],by simp[World.cell?,h,cy],by simp[World.cell?,h,cy],by simp[World.cell?,h,cy],fun j=>by simp[World.frozen?,h],ac h⟩
theorem vx:∃j,Tryz.prog.info? 110=some j:=by
 have h:(Tryz.prog.info? 110).isSome=true:=by kernel_rfl
 exact Option.isSome_iff_exists.1 h
theorem Hr (p:Addr)(w:World):Sem.run Tryz.prog (binOp BinOp.eql 43 (.pointer (some p)) (.pointer (some p))) w=.ok (.bool true) w:=by
 obtain⟨j,hj⟩:=vx
 exact run_eql_ptr_same w p Tryz.underlying43 hj
theorem pZ {P:Program}(w:World)(d:Nat)(t:TypeId){e:TypeId}(h:P.underlying t=some (.pointer e))(p:Addr):(Op.equalIn (d+1) t (.pointer none) (.pointer (some p))).run P w=.ok false w:=by
 simp[Op.equalIn,run_underlying h]
theorem Hs (p:Addr)(w:World):Sem.run Tryz.prog (binOp BinOp.eql 43 (.pointer none) (.pointer (some p))) w=.ok (.bool false) w:=by
 have h:Sem.run Tryz.prog (Op.equal 43 (.pointer none) (.pointer (some p))) w=.ok false w:=pZ w 9999 _ Tryz.underlying43 p
 simp only[binOp]
 simp[h]
theorem Hu (p:Addr)(w:World):Sem.run Tryz.prog (binOp BinOp.neq 43 (.pointer (some p)) (.pointer (some p))) w=.ok (.bool false) w:=by
 obtain⟨j,hj⟩:=vx
 have h:Sem.run Tryz.prog (Op.equal 43 (.pointer (some p)) (.pointer (some p))) w=.ok true w:=by
  have:=run_eql_ptr_same (P:=Tryz.prog) w p Tryz.underlying43 hj
  simp only[binOp] at this
  cases e:Sem.run Tryz.prog (Op.equal 43 (.pointer (some p)) (.pointer (some p))) w<;>rw[Sem.run_bind,e] at this<;>simp[Result.andThen] at this
  obtain⟨rfl,rfl⟩:=this
  rfl
 simp only[binOp]
 simp[h]
theorem jf (p:Nat)(w:World)(h:w.cell? ⟨p,0,none⟩=some (.pointer (some ⟨p,0,none⟩))):Calls Tryz.prog 59 #[.pointer (some ⟨p,0,none⟩)] w fun e w'=>e=.returned (.bool true)∧w'=w:=by
 have hq:=fun w=>Hr ⟨p,0,none⟩ w
 go_enter Tryz.func59,Tryz.ntmps59
 go_wp2_with fail
 go_ret
 exact⟨rfl,rfl⟩
theorem vy (p:Nat)(w:World)(h:w.cell? ⟨p,0,none⟩=some (.pointer none)):Calls Tryz.prog 59 #[.pointer (some ⟨p,0,none⟩)] w fun e w'=>e=.returned (.bool false)∧w'=w:=by
 have hq:=fun w=>Hs ⟨p,0,none⟩ w
 go_enter Tryz.func59,Tryz.ntmps59
 go_wp2_with fail
 go_ret
 exact⟨rfl,rfl⟩
theorem Hv (F:Nat→Prop)(p:Nat)(kn:Int→Option Int)(D:List KV)(a:Int)(w:World)(h:aE w F p kn D)(ha:a<0):
 Calls Tryz.prog 27 #[.pointer (some ⟨p,0,none⟩),.int .i64 a] w fun e w'=>e=.returned (.int .i64 0)∧∃n,w'=w.drewN n:=by
 obtain⟨M,q,n,F0,hp,hk,hm,_⟩:=h.ex
 obtain⟨c0,_⟩:=cR hp
 have S:=hQQ (jf p w c0)
 have d:decide (a<0)=true:=by simp;omega
 have E:∃n,w=w.drewN n:=⟨0,rfl⟩
 clear h hp hk hm c0 ha
 go_enter Tryz.func27,Tryz.ntmps27
 go_wp2_with (go_at_call 59;refine S.o.mono ?_;rintro e w' ⟨rfl,rfl⟩)
 go_ret
 exact⟨rfl,0,rfl⟩
theorem Bi (F:Nat→Prop)(p:Nat)(kn:Int→Option Int)(D:List KV)(a y:Int)(w:World)(h:aE w F p kn D)(ha:0≤a)(hy:look D a=some y):
 Calls Tryz.prog 27 #[.pointer (some ⟨p,0,none⟩),.int .i64 a] w fun e w'=>e=.returned (.int .i64 y)∧∃n,w'=w.drewN n:=by
 obtain⟨M,q,n,F0,hp,hk,hm,_⟩:=h.ex
 obtain⟨c0,c1,c2,c3,_,hl⟩:=cR hp
 have S:=hQQ (jf p w c0)
 have G:=Bf F0 q D a w hm
 rw[hy] at G
 have G:=hQQ G
 have d:decide (a<0)=false:=by simp;omega
 clear h hp hk hm ha c0 c1 c3
 go_enter Tryz.func27,Tryz.ntmps27
 go_wp2_with (first|(go_at_call 59;refine S.o.mono ?_;rintro e w' ⟨rfl,rfl⟩)|(go_at_call 60;refine G.o.mono ?_;rintro e w' ⟨rfl,n,rfl⟩))
 go_ret
 exact⟨rfl,n,rfl⟩
theorem Bj (F:Nat→Prop)(p:Nat)(kn:Int→Option Int)(D:List KV)(a y:Int)(w:World)(h:aE w F p kn D)(ha:0≤a)(hw:W64 a)(hy:look D a=none)(hk':kn a=some y):
 Calls Tryz.prog 27 #[.pointer (some ⟨p,0,none⟩),.int .i64 a] w fun e w'=>e=.returned (.int .i64 y)∧∃n,w'=w.drewN n:=by
 obtain⟨M,q,n,F0,hp,hk,hm,_⟩:=h.ex
 have S:=hQQ (jf p w (cR hp).1)
 have G:=Bf F0 q D a w hm
 rw[hy] at G
 have G:=hQQ G
 have L:∀m,Sem.run Tryz.prog (Instr.lookup 83 (.map (some M)) (.int .i64 a) true) (w.drewN m)=.ok (.tuple #[.int .i64 y,.bool true]) (w.drewN m):=fun m=>by
  have:=(hk.more (fZ w m)).look hw
  rw[hk'] at this
  exact this
 have d:decide (a<0)=false:=by simp;omega
 obtain⟨c0,c1,c2,c3,_,hl⟩:=cR hp
 clear h hp hk hm ha c0 c3
 go_enter Tryz.func27,Tryz.ntmps27
 go_wp2_with (first|(go_at_call 59;refine S.o.mono ?_;rintro e w' ⟨rfl,rfl⟩)|(go_at_call 60;refine G.o.mono ?_;rintro e w' ⟨rfl,n,rfl⟩))
 go_ret
 exact⟨rfl,n,rfl⟩
theorem mY (F:Nat→Prop)(p:Nat)(kn:Int→Option Int)(D:List KV)(a y:Int)(w:World)(h:aE w F p kn D)(hw:W64 a)(hy:dM kn D a=some y):
 Calls Tryz.prog 27 #[.pointer (some ⟨p,0,none⟩),.int .i64 a] w fun e w'=>e=.returned (.int .i64 y)∧∃n,w'=w.drewN n:=by
 unfold dM at hy
 split at hy
 ·cases hy;exact Hv F p kn D a w h (by omega)
 ·cases e:look D a with
  |none=>rw[e] at hy;exact Bj F p kn D a y w h (by omega) hw e (by simpa using hy)
  |some v =>
   rw[e] at hy
   have:v=y:=by simpa using hy
   subst this
   exact Bi F p kn D a v w h (by omega) e
def vz (w:World)(F:Nat→Prop)(p:Nat)(a:Int)(e:Ending)(w':World):Prop:=e=.panicked (aR p)∧aN w' p a∧Turned F w w'
theorem Hw {w:World}{F:Nat→Prop}{p M q:Nat}{a:Int}{n:Nat}(hp:w.heap[p]?=some (.cells (cy (some ⟨p,0,none⟩) M q (-1)) 110 (0,0)))(fp:F p):
 aN (((w.drewN n).setCell ⟨p,0,none⟩ (.pointer none)).setCell ⟨p,3,none⟩ (.int .i64 a)) p a∧Turned F w (((w.drewN n).setCell ⟨p,0,none⟩ (.pointer none)).setCell ⟨p,3,none⟩ (.int .i64 a)):=by
 have h1:(w.drewN n).heap[p]?=_:=hp
 have h2:=bu (o:=0) (.pointer none) h1
 have h4:=bu (o:=3) (.int .i64 a) h2
 exact⟨⟨M,q,by rw[h4];simp[cy]⟩,bB (bB ((Turned.refl F w).drewN n) (fun _=>fp) _) (fun _=>fp) _⟩
theorem i5 (F:Nat→Prop)(p:Nat)(kn:Int→Option Int)(D:List KV)(a:Int)(w:World)(h:aE w F p kn D)(hw:W64 a)(hy:dM kn D a=none):
 Calls Tryz.prog 27 #[.pointer (some ⟨p,0,none⟩),.int .i64 a] w (vz w F p a):=by
 obtain⟨ha,hy,hk'⟩:=vw hy
 obtain⟨M,q,n,F0,hp,hk,hm,fp,_⟩:=h.ex
 have S:=hQQ (jf p w (cR hp).1)
 have G:=Bf F0 q D a w hm
 rw[hy] at G
 have G:=hQQ G
 have L:∀m,Sem.run Tryz.prog (Instr.lookup 83 (.map (some M)) (.int .i64 a) true) (w.drewN m)=.ok (.tuple #[.int .i64 0,.bool false]) (w.drewN m):=fun m=>by
  have:=(hk.more (fZ w m)).look hw
  rw[hk'] at this
  exact this
 have d:decide (a<0)=false:=by simp;omega
 obtain⟨c0,c1,c2,c3,hf,hl⟩:=cR hp
 have FIN:Hq (∀n,aN (((w.drewN n).setCell ⟨p,0,none⟩ (.pointer none)).setCell ⟨p,3,none⟩ (.int .i64 a)) p a∧Turned F w (((w.drewN n).setCell ⟨p,0,none⟩ (.pointer none)).setCell ⟨p,3,none⟩ (.int .i64 a))):=hQQ fun n=>Hw hp fp
 clear h hp hk hm ha
 go_enter Tryz.func27,Tryz.ntmps27
 go_wp2_with (first|(go_at_call 59;refine S.o.mono ?_;rintro e w' ⟨rfl,rfl⟩)|(go_at_call 60;refine G.o.mono ?_;rintro e w' ⟨rfl,n,rfl⟩))
 exact⟨rfl,rfl,FIN.o n⟩
def gx (w:World)(F:Nat→Prop)(p:Nat)(kn:Int→Option Int)(D:List KV)(v:Value)(e:Ending)(w':World):Prop :=
 e=.returned v∧∃F',aE w' F' p kn D∧Turned F w w'∧∀k,F' k→F k∨w.heap.size≤k
theorem gx.same {w w':World}{F:Nat→Prop}{p:Nat}{kn:Int→Option Int}{D:List KV}{v:Value}(h:aE w F p kn D)(t:ae w w'):gx w F p kn D v (.returned v) w' :=
 ⟨rfl,F,h.more t,Turned.mono t (fun _ _ q=>q.elim),fun k hk=> .inl hk⟩
theorem Kn {w w':World}{F F0 F1:Nat→Prop}{p M q n:Nat}{kn:Int→Option Int}{D':List KV}{v:Value}(hp:w.heap[p]?=some (.cells (cy (some ⟨p,0,none⟩) M q (-1)) 110 (0,0)))
 (hk:KnownAt w M n kn) (fp:F p) (f0:∀k,F0 k→F k∧k≠p) (fM:¬F M) (hl:∀k,F k→k<w.heap.size) (hm:fx w' F1 q D') (ht:Turned F0 w w') (h1:∀k,F1 k→F0 k∨w.heap.size≤k):gx w F p kn D' v (.returned v) w':=by
 have hlM:=hk.lt
 have hlp:=ac hp
 refine⟨rfl,fun k=>F k∨F1 k,⟨⟨M,q,n,F1,?_,hk.keep ht (fun r=>fM (f0 M r).1),hm,.inl fp,fun k r=>⟨.inr r,fun e=>?_⟩,fun r=>?_⟩,fun k r=>?_⟩,ht.mono (fun k _ r=>(f0 k r).1),fun k r=>?_⟩
 ·rw[Turned.block ht p hlp (fun r=>(f0 p r).2 rfl)];exact hp
 ·subst e
  rcases h1 k r with q|q
  ·exact(f0 k q).2 rfl
  ·omega
 ·rcases r with r|r
  ·exact fM r
  ·rcases h1 M r with q|q
   ·exact fM (f0 M q).1
   ·omega
 ·rcases r with r|r
  ·exact Nat.lt_of_lt_of_le (hl k r) ht.size
  ·exact hm.lt k r
 ·rcases r with r|r
  ·exact .inl r
  ·exact(h1 k r).imp (fun q=>(f0 k q).1) id
theorem yO (F:Nat→Prop)(p:Nat)(kn:Int→Option Int)(D:List KV)(a x:Int)(w:World)(h:aE w F p kn D)(hs:D.length<100000):
 Calls Tryz.prog 116 #[.pointer (some ⟨p,0,none⟩),.int .i64 a,.int .i64 x] w (gx w F p kn (eC D a x) (.tuple #[])):=by
 obtain⟨M,q,n,F0,hp,hk,hm,fp,f0,fM⟩:=h.ex
 have S:=hQQ (jf p w (cR hp).1)
 have P:=hQQ (Nd F0 q D a x w hm hs)
 by_cases ha:a<0
 ·have e:eC D a x=D:=by unfold eC;rw[if_pos ha]
  have FIN:=hQQ (gx.same (v:=.tuple #[]) h (ae.refl w))
  rw[e]
  have d:decide (0≤a)=false:=by simp;omega
  clear h hp hk hm e ha P
  go_enter Tryz.func116,Tryz.ntmps116
  go_wp2_with (go_at_call 59;refine S.o.mono ?_;rintro e w' ⟨rfl,rfl⟩)
  go_end0
  exact FIN.o
 ·have e:eC D a x=iE D a x:=by unfold eC;rw[if_neg ha]
  rw[e]
  have d:decide (0≤a)=true:=by simp;omega
  have hl:=h.lt
  have FIN:Hq (∀w' F1,fx w' F1 q (iE D a x)→Turned F0 w w'→(∀k,F1 k→F0 k∨w.heap.size≤k)→gx w F p kn (iE D a x) (.tuple #[]) (.returned (.tuple #[])) w'):=
   hQQ fun w' F1 m t f=>Kn hp hk fp f0 fM hl m t f
  obtain⟨c0,c1,c2,c3,hf,hlp⟩:=cR hp
  clear h hp hk hm e ha fp f0 fM hl
  go_enter Tryz.func116,Tryz.ntmps116
  go_wp2_with (first|(go_at_call 59;refine S.o.mono ?_;rintro e w' ⟨rfl,rfl⟩)|(go_at_call 135;refine P.o.mono ?_;rintro e w1 ⟨rfl,F1,m,t,f⟩;have M1:=hQQ m;have T1:=hQQ t;have N1:=hQQ f;clear m t f))
  go_end0
  exact FIN.o _ _ M1.o T1.o N1.o
theorem vB (p:Nat)(n a:Int)(w:World)(h:aN w p n):Calls Tryz.prog 27 #[.pointer (some ⟨p,0,none⟩),.int .i64 a] w fun e w'=>e=.returned (.int .i64 0)∧w'=w:=by
 obtain⟨M,q,hp⟩:=h
 have S:=hQQ (vy p w (cR hp).1)
 clear hp
 go_enter Tryz.func27,Tryz.ntmps27
 go_wp2_with (go_at_call 59;refine S.o.mono ?_;rintro e w' ⟨rfl,rfl⟩)
 go_ret
 exact⟨rfl,rfl⟩
theorem kR (p:Nat)(n a x:Int)(w:World)(h:aN w p n):Calls Tryz.prog 116 #[.pointer (some ⟨p,0,none⟩),.int .i64 a,.int .i64 x] w fun e w'=>e=.returned (.tuple #[])∧w'=w:=by
 obtain⟨M,q,hp⟩:=h
 have S:=hQQ (vy p w (cR hp).1)
 clear hp
 go_enter Tryz.func116,Tryz.ntmps116
 go_wp2_with (go_at_call 59;refine S.o.mono ?_;rintro e w' ⟨rfl,rfl⟩)
 go_end0
 exact⟨rfl,rfl⟩
def o6 (w:World)(a:Option Addr)(l:List KV):Prop :=
 l= []∨∃s o,a=some ⟨s,o,none⟩∧s<w.heap.size∧∀i t,l[i]?=some t→w.cell? ⟨s,o+i * 2,none⟩=some (.int .i64 t.1)∧w.cell? ⟨s,o+i * 2+1,none⟩=some (.int .i64 t.2)
def iq (a:Option Addr)(k:Nat):Prop:=a.map (·.block)=some k
theorem ee {S:Nat→Prop}{w w':World}(t:Turned S w w'){s o:Nat}{v:Value}(hs:¬S s)(h:w.cell? ⟨s,o,none⟩=some v):w'.cell? ⟨s,o,none⟩=some v:=by
 rw[World.cell?_of_block (w:=w) (Turned.block t s (eS h) hs)];exact h
theorem o6.keep {w w':World}{a:Option Addr}{l:List KV}(h:o6 w a l){S:Nat→Prop}(t:Turned S w w')(hs:∀k,iq a k→¬S k):o6 w' a l:=by
 rcases h with h|⟨s,o,rfl,hl,hc⟩
 ·exact .inl h
 ·exact .inr ⟨s,o,rfl,Nat.lt_of_lt_of_le hl t.size,fun i u hi=>by
   obtain⟨c0,c1⟩:=hc i u hi
   exact⟨ee t (hs s rfl) c0,ee t (hs s rfl) c1⟩⟩
theorem am {F F':Nat→Prop}{W w w':World}(h:Turned F W w)(t:Turned F' w w')(n:∀k,F' k→F k∨W.heap.size≤k):Turned F W w' :=
 ⟨t.os.trans h.os,t.tape.trans h.tape,t.output.trans h.output,Nat.le_trans h.size t.size,fun k hk hs=>by
  rw[Turned.block t k (Nat.lt_of_lt_of_le hk h.size) (fun q=>by rcases n k q with r|r;exact hs r;omega)]
  exact Turned.block h k hk hs⟩
structure On (W wr:World)(F:Nat→Prop)(p:Nat)(kn:Int→Option Int)(l:List Nf)(R:Ran)(i:Nat)(x:Int):Prop where
 ex:∃F' D,aE wr F' p kn D∧(∀k,F' k→F k∨W.heap.size≤k)∧yL kn (l.drop i) false x D=R∧OkD D∧D.length≤i
 turn:Turned F W wr
 x64:W64 x
theorem iG {S:Nat→Prop}{wa w w':World}{v:Value}{e:TypeId}{s n:Nat}{xs:List Value}(hW:Turned S wa w)(h:w.ownsRow wa.heap.size e s v n xs)(g:w.grownBy w' v.ownBlock):Turned S wa w' :=
 ⟨g.os.trans hW.os,g.tape.trans hW.tape,g.output.trans hW.output,Nat.le_trans hW.size g.size,fun k hk hs=>by
  rw[g.block k (Nat.lt_of_lt_of_le hk hW.size) (by
   rcases h.2 with⟨rfl,_⟩|⟨b,cap,cur,rfl,hb,_⟩
   ·simp[Value.ownBlock]
   ·simp only[Value.ownBlock,ne_eq,Option.some.injEq];omega)]
  exact Turned.block hW k hk hs⟩
theorem kS {w w':World}{base:Nat}{e:TypeId}{s n:Nat}{v:Value}{xs:List Value}(h:w.ownsRow base e s v n xs){S:Nat→Prop}(hW:Turned S w w')(hs:∀k,base≤k→¬S k):w'.ownsRow base e s v n xs:=by
 refine⟨h.1,?_⟩
 rcases h.2 with q|⟨g,cap,cur,h1,h2,h3,h4⟩
 ·exact .inl q
 ·exact .inr ⟨g,cap,cur,h1,h2,by rw[Turned.block hW g (ac h3) (hs g h2)];exact h3,h4⟩
theorem nQ {w:World}{base base':Nat}{e:TypeId}{s n:Nat}{v:Value}{xs:List Value}(h:w.ownsRow base e s v n xs)(hb:base'≤base):w.ownsRow base' e s v n xs:=by
 refine⟨h.1,?_⟩
 rcases h.2 with q|⟨g,cap,cur,h1,h2,h3,h4⟩
 ·exact .inl q
 ·exact .inr ⟨g,cap,cur,h1,by omega,h3,h4⟩
def dV (ps:List KV):List Value:=ps.flatMap fun p=> [.int .i64 p.1,.int .i64 p.2]
theorem jg (ps:List KV)(p:KV):dV (ps++ [p])=dV ps++ [.int .i64 p.1,.int .i64 p.2]:=by simp[dV]
theorem jh (p:KV)(ps:List KV):dV (p::ps)=.int .i64 p.1:: .int .i64 p.2::dV ps:=by simp[dV]
theorem jX:∀ps:List KV,(dV ps).length=ps.length * 2
 | []=>rfl
 |p::ps=>by rw[jh,List.length_cons,List.length_cons,jX ps,List.length_cons];omega
theorem jY:∀(ps:List KV) (i:Nat) (p:KV),ps[i]?=some p→(dV ps)[i * 2]?=some (.int .i64 p.1)∧(dV ps)[i * 2+1]?=some (.int .i64 p.2)
 | [],i,p,h=>by cases h
 |q::ps,0,p,h=>by
  simp at h;subst h
  rw[jh];exact⟨rfl,rfl⟩
 |q::ps,i+1,p,h=>by
  have:=jY ps i p (by simpa using h)
  rw[jh,show(i+1) * 2=i * 2+1+1 by omega]
  exact this
theorem vC:∃i:TypeInfo,Tryz.prog.info? 88=some i∧i.zero=some (.agg #[.int .i64 0,.int .i64 0])∧i.size=2∧i.bytes=16:=by
 have h1:(Tryz.prog.info? 88).map (·.size)=some 2:=by kernel_rfl
 have h2:(Tryz.prog.info? 88).bind (·.zero)=some (.agg #[.int .i64 0,.int .i64 0]):=by kernel_rfl
 have h3:(Tryz.prog.info? 88).map (·.bytes)=some 16:=by kernel_rfl
 cases q:Tryz.prog.info? 88 with
 |none=>rw[q] at h1;simp at h1
 |some i=>rw[q] at h1 h2 h3;exact⟨i,rfl,by simpa using h2,by simpa using h1,by simpa using h3⟩
def PRw (base:Nat)(w:World)(v:Value)(ps:List KV):Prop:=w.ownsRow base 88 2 v ps.length (dV ps)
theorem PRw.nil (base:Nat)(w:World):PRw base w (.slice none 0 0) []:=World.ownsRow_nil w base _ 2
theorem PRw.keep {base:Nat}{w w':World}{v:Value}{ps:List KV}(h:PRw base w v ps){S:Nat→Prop}(hW:Turned S w w')(hs:∀k,base≤k→¬S k):PRw base w' v ps:=kS h hW hs
theorem PRw.more {base:Nat}{w w':World}{v:Value}{ps:List KV}(h:PRw base w v ps)(hW:ae w w'):PRw base w' v ps:=kS h hW (fun _ _ q=>q)
theorem PRw.mono {base base':Nat}{w:World}{v:Value}{ps:List KV}(h:PRw base w v ps)(hb:base'≤base):PRw base' w v ps:=nQ h hb
theorem PRw.reads {base:Nat}{w:World}{v:Value}{ps:List KV}(h:PRw base w v ps):∃a cap,v=.slice a ps.length cap∧o6 w a ps∧∀k,iq a k→base≤k:=by
 rcases h.2 with⟨rfl,h0⟩|⟨g,cap,cur,rfl,hb,hg,_,_,hs,ht⟩
 ·have:ps= []:=List.length_eq_zero_iff.1 h0
  subst this
  exact⟨none,0,rfl,.inl rfl,fun k hk=>by cases hk⟩
 ·refine⟨_,cap,rfl,.inr ⟨g,0,rfl,ac hg,fun i t hi=>?_⟩,fun k hk=>by cases hk;exact hb⟩
  have hil:=(List.getElem?_eq_some_iff.1 hi).1
  have hcell:∀j u,(dV ps)[j]?=some u→w.cell? ⟨g,0+j,none⟩=some u:=fun j u hj=>by
   have hj':j<ps.length * 2:=by have:=(List.getElem?_eq_some_iff.1 hj).1;rw[jX] at this;exact this
   have e:cur.toList[j]?=some u:=by
    have h1:(cur.toList.take (ps.length * 2))[j]?=some u:=by rw[ht];exact hj
    rw[List.getElem?_take,if_pos (by omega)] at h1
    exact h1
   simp[World.cell?,hg]
   simpa using e
  obtain⟨p1,p2⟩:=jY ps i t hi
  exact⟨hcell _ _ p1,by have:=hcell _ _ p2;rwa [←Nat.add_assoc] at this⟩
theorem yP {ops:Array Oper}{rest:List Oper}{o:Oper}{a:Act}{Q:Exit→Act→World→Prop}{S:Nat→Prop}{w wa:World}{v:Value}{ps:List KV}(p q:Int)(hgd:o.guard=none)(s x:Operand)
 (ho:o.op=.call { callee:= .builtin .append,args:= #[s,x],argTypes:= #[39,39] })
 (hs:a.eval s=v) (hn:PRw wa.heap.size w v ps) (hW:Turned S wa w) (hl:ps.length≤1000000)
 (hx:a.eval x=.slice (some ⟨w.heap.size,0,none⟩) 1 1)
 (h:∀g cap w',PRw wa.heap.size w' (.slice (some ⟨g,0,none⟩) (ps.length+1) cap) (ps++ [(p,q)])→Turned S wa w'→(∀k ob,w.heap[k]?=some ob→v.ownBlock≠some k→w'.heap[k]?=some ob)→wpList Tryz.prog ops Q rest (a.put o.dst (.slice (some ⟨g,0,none⟩) (ps.length+1) cap)) w'):wpList Tryz.prog ops Q (o::rest) a (w.alloc (.cells #[.int .i64 p,.int .i64 q] 88)):=by
 obtain⟨i,i1,i2,i3,i4⟩:=vC
 have hn':=hn.more ((ae.refl w).alloc (.cells #[.int .i64 p,.int .i64 q] 88))
 have hB:=bh w (.cells #[.int .i64 p,.int .i64 q] 88)
 refine wpList_append_lies _ hgd s x 39 ho wa.heap.size 88 i _ 2 16 Tryz.underlying39 i1 i2 i3 i4 rfl (by omega) v ps.length _ hs hn' ⟨w.heap.size,0,none⟩ 1 1 [.int .i64 p,.int .i64 q] hx (by simp)
  (fun j u hu=>World.news_of_block hB j u (by simpa using hu)) (by intro u hu;simp at hu;rcases hu with rfl|rfl<;>rfl) (by omega) (by simp only[maxLen];omega) (by omega) (by have:=hW.size;simp;omega) _ rfl ?_
 intro g cap w1 hown hgrow _ _
 refine h g cap w1 ?_ (iG (hW.alloc _) hn' hgrow) (fun k ob hk hne=>?_)
 ·unfold PRw
  rw[List.length_append,jg]
  exact hown
 ·rw[hgrow.block k (by have:=ac hk;simp;omega) (Ne.symm hne),Below.heap_alloc _ _ _ (ac hk)];exact hk
theorem p7 {P:Program}(w:World)(d:Nat)(t:TypeId) {a b c}(h:P.underlying t=some (.func a b c))(f:Fn)(xs ys:Array Value):
 (Op.equalIn (d+1) t (.func f xs ys) .nilFunc).run P w=.ok false w:=by
 simp[Op.equalIn,run_underlying h]
theorem kT {P:Program}(w:World)(t:TypeId) {a b c}(h:P.underlying t=some (.func a b c))(f:Fn)(xs ys:Array Value):Sem.run P (binOp BinOp.eql t (Value.func f xs ys) Value.nilFunc) w=.ok (.bool false) w:=by
 have:Sem.run P (Op.equal t (Value.func f xs ys) Value.nilFunc) w=.ok false w:=p7 w 9999 t h f xs ys
 simp[binOp,this]
theorem aC {w:World}{b:Nat}{v:Value}{T:TypeId}(h:w.heap[b]?=some (.cells #[v] T (0,0))):w.cell? ⟨b,0,none⟩=some v∧w.frozen? ⟨b,0,none⟩=false∧b<w.heap.size :=
 ⟨by simp[World.cell?,h],by simp[World.frozen?,h],ac h⟩
theorem kU {w:World}{b:Nat}{v:Value}{T:TypeId}(x:Value)(h:w.heap[b]?=some (.cells #[v] T (0,0))):(w.setCell ⟨b,0,none⟩ x).heap[b]?=some (.cells #[x] T (0,0)):=by
 have:=bu (o:=0) x h
 simpa using this
structure xn (wa W:World)(b:Nat)(ps:List KV):Prop where
 ex:∃v,W.heap[b]?=some (.cells #[v] 39 (0,0))∧PRw wa.heap.size W v ps
 turn:Turned (fun k=>k=b) wa W
theorem xn.more {wa W W':World}{b:Nat}{ps:List KV}(h:xn wa W b ps)(t:ae W W'):xn wa W' b ps:=by
 obtain⟨v,hb,hv⟩:=h.ex
 exact⟨⟨v,t.block hb,hv.more t⟩,am (F':=fun _=>False) h.turn t (fun _ q=>q.elim)⟩
theorem Ko (wa W:World)(b:Nat)(ps:List KV)(x y:Int)(hlt:b<wa.heap.size)(h:xn wa W b ps)(hl:ps.length≤100000):
 Calls Tryz.prog 106 #[.int .i64 x,.int .i64 y,.pointer (some ⟨b,0,none⟩)] W fun e w'=>e=.returned (.bool true)∧xn wa w' b (ps++ [(x,y)]):=by
 obtain⟨v,hb,hv⟩:=h.ex
 obtain⟨c0,f0,l0⟩:=aC hb
 have HB:=hQQ hb
 have HV:=hQQ hv
 have HT:=hQQ h.turn
 have FIN:Hq (∀v' w',PRw wa.heap.size w' v' (ps++ [(x,y)])→Turned (fun k=>k=b) wa w'→w'.heap[b]?=some (.cells #[v] 39 (0,0))→xn wa (w'.setCell ⟨b,0,none⟩ v') b (ps++ [(x,y)])):=hQQ fun v' w' hp ht hbb =>
  ⟨⟨v',kU v' hbb,hp.keep (bB (S:=fun k=>k=b) (Turned.refl _ w') (fun _=>rfl) v') (fun k hk e=>by omega)⟩,bB ht (fun _=>rfl) v'⟩
 have NE:Hq (∀k,v.ownBlock=some k→k≠b):=hQQ fun k hk e=>by have:=hv.lt k hk;omega
 clear h hb hv
 go_enter Tryz.func106,Tryz.ntmps106
 go_wp2_with (at_builtin;refine yP (S:=fun k=>k=b) (wa:=wa) (v:=v) (ps:=ps) x y rfl _ _ rfl rfl HV.o HT.o (by omega) rfl ?_;intro g' c' w1 hp1 ht1 hk1;have H1:=hQQ hp1;have T1:=hQQ ht1;have B1:=hQQ (hk1 b _ HB.o (fun e=>NE.o b e rfl));have c1:=(aC B1.o).1;have f1:=(aC B1.o).2.1;clear hp1 ht1 hk1)
 go_ret
 exact⟨rfl,FIN.o _ _ H1.o T1.o B1.o⟩
theorem EN (F:Nat→Prop)(q:Nat)(D:List KV)(b:Nat)(W:World)(h:fx W F q D)(hb:W.heap[b]?=some (.cells #[.slice none 0 0] 39 (0,0)))(hF:¬F b):
 Calls Tryz.prog 105 #[.pointer (some ⟨q,0,none⟩),.func (.func 106) #[] #[.pointer (some ⟨b,0,none⟩)]] W fun e w'=>e=.returned (.tuple #[])∧Turned (fun k=>k=b) W w'∧∃v,w'.heap[b]?=some (.cells #[v] 39 (0,0))∧PRw W.heap.size w' v D:=by
 have hq:∀w,Sem.run Tryz.prog (binOp BinOp.eql 132 (Value.func (.func 106) #[] #[.pointer (some ⟨b,0,none⟩)]) Value.nilFunc) w=.ok (.bool false) w:=fun w=>kT w _ Tryz.underlying132 _ _ _
 have hlb:=ac hb
 have hsm:=h.small
 have CP:=hQQ (Kl F q D W h)
 have HB:=hQQ hb
 clear h hb hF
 go_enter Tryz.func105,Tryz.ntmps105
 go_wp2_with fail
 refine CP.o.mono ?_
 rintro e w1 ⟨Fc,c,rfl,mc,M1,nc⟩
 have MC:=hQQ mc
 have K1:=hQQ M1
 have T0:=hQQ (show xn w1 w1 b [] from⟨⟨_,M1.block HB.o,PRw.nil _ _⟩,Turned.refl _ _⟩)
 have hlb1:b<w1.heap.size:=Nat.lt_of_lt_of_le hlb M1.size
 have NC:Hq (∀x,Fc x→¬x=b):=hQQ (fun x hx q=>by have:=nc x hx;omega)
 have FIN:Hq (∀wr,xn w1 wr b D→Turned (fun k=>k=b) W wr∧∃v,wr.heap[b]?=some (.cells #[v] 39 (0,0))∧PRw W.heap.size wr v D):=hQQ fun wr ht=>by
  obtain⟨v,h1,h2⟩:=ht.ex
  exact⟨(Turned.mono K1.o (fun _ _ q=>q.elim)).trans ht.turn,v,h1,h2.mono K1.o.size⟩
 clear mc M1 nc
 go_wp2_with fail
 refine(Hl Fc c D w1 MC.o).mono ?_
 rintro e w2 ⟨rfl,h2⟩
 obtain rfl:w2=w1:=h2
 go_wp2_with fail
 go_loopw [15] (fun i wr=>∃t:Nat,t≤D.length∧i=.int .i64 (t:Nat)∧xn w2 wr b (D.take t)) (fun i _=>D.length-(intOf i).toNat)
 case atStart=>exact⟨0,Nat.zero_le _,rfl,T0.o⟩
 case round =>
  obtain⟨t,ht,rfl,htell⟩:=hrel
  have T3:=hQQ htell;have C3:=hQQ (MC.o.keep htell.turn NC.o)
  clear htell
  by_cases hlt3:t<D.length
  ·obtain⟨x,hx⟩:∃x,D[t]?=some x:=⟨_,List.getElem?_eq_getElem hlt3⟩
   have TK:Hq (D.take (t+1)=D.take t++ [x]):=hQQ (by rw[List.take_add_one,hx];rfl)
   have HX:=hQQ hx
   clear hx
   obtain⟨xk,xv⟩:=x
   go_wp2_with fail
   refine(O2 Fc c D t (xk,xv) wr C3.o HX.o).mono ?_
   rintro e w4 ⟨rfl,n4,rfl⟩
   have C4:=hQQ (C3.o.more (fZ wr n4));have T4:=hQQ (T3.o.more (fZ wr n4))
   clear C3 T3
   generalize wr.drewN n4=w4 at C4 T4⊢
   simp only
   go_wp2_with fail
   refine(Ko w2 w4 b (D.take t) xk xv hlb1 T4.o (by simp;omega)).mono ?_
   rintro e w5 ⟨rfl,htell⟩
   have T5:=hQQ htell
   clear htell C4 T4
   go_wp2_with fail
   go_roundw
   case rel=>exact⟨t+1,by omega,by go_num,by rw[TK.o];exact T5.o⟩
   case measure=>simp[intOf];omega
  ·obtain rfl:t=D.length:=by omega
   have FIN2:Hq (∀wr',wr'=wr→Turned (fun k=>k=b) W wr'∧∃v,wr'.heap[b]?=some (.cells #[v] 39 (0,0))∧PRw W.heap.size wr' v D):=hQQ (fun wr' e=>by subst e;exact FIN.o _ (by have:=T3.o;rwa [List.take_length] at this))
   go_wp2_with fail
   go_end0
   exact⟨rfl,FIN2.o _ rfl⟩
theorem DB (F:Nat→Prop)(p q:Nat)(D:List KV)(W:World)(hp:W.cell? ⟨p,2,none⟩=some (.pointer (some ⟨q,0,none⟩)))(hm:fx W F q D):
 Calls Tryz.prog 78 #[.pointer (some ⟨p,0,none⟩)] W fun e w'=>∃v,e=.returned v∧PRw W.heap.size w' v D∧ae W w':=by
 have M1:ae W (W.alloc (.cells #[.slice none 0 0] 39)):=(ae.refl W).alloc _
 have hb:=bh W (.cells #[.slice none 0 0] 39)
 have E:=hQQ (EN F q D W.heap.size _ (hm.more M1) hb (fun r=>by have:=hm.lt _ r;omega))
 have hp1:=M1.cell hp
 have hlp:=eS hp
 have HM:=hQQ M1
 clear hm hb M1
 go_enter Tryz.func78,Tryz.ntmps78
 go_wp2_with fail
 refine E.o.mono ?_
 rintro e w1 ⟨rfl,ht,v,hv,hr⟩
 have FIN:Hq (PRw W.heap.size w1 v D∧ae W w1):=hQQ ⟨hr.mono (by simp),Turned.mono (am (F:=fun _=>False) HM.o ht (fun k hk=> .inr (by omega))) (fun _ _ q=>q)⟩
 obtain⟨c0,f0,l0⟩:=aC hv
 clear ht hr hv
 go_wp2_with fail
 go_ret
 exact⟨_,rfl,FIN.o⟩
theorem Bn (v:Value)(w:World):(Instr.typeAssert (.iface 113 v) 20 113 true).run Tryz.prog w=.ok (.tuple #[v,.bool true]) w:=by kernel_rfl
theorem yQ (w:World):(Instr.typeAssert .nilIface 20 113 true).run Tryz.prog w=.ok (.tuple #[.agg #[.pointer none],.bool false]) w:=by kernel_rfl
def xo (w:World)(p bn:Nat)(a:Int)(w':World):Prop:=aN w' p a∧w'.heap[bn]?=some (.cells #[.int .i64 a] 3 (0,0))∧Turned (fun k=>k=p∨k=bn) w w'
theorem vD (p bv bn:Nat)(a n:Int)(w:World)(h:aN w p a)(hv:w.heap[bv]?=some (.cells #[.pointer (some ⟨p,0,none⟩)] 43 (0,0)))(hn:w.heap[bn]?=some (.cells #[.int .i64 n] 3 (0,0)))(h1:bv≠p)(h2:bn≠p)(h3:bv≠bn):
 CallsD Tryz.prog 77 #[.pointer (some ⟨bv,0,none⟩),.pointer (some ⟨bn,0,none⟩)] (.panicking (aR p)) w fun e u' w' =>
  e=.returned (.tuple #[])∧u'= .panicking [{ v:= .iface 113 (.agg #[.pointer (some ⟨p,0,none⟩)]),recovered:=true }]∧xo w p bn a w':=by
 have hq:=fun w=>Hu ⟨p,0,none⟩ w
 obtain⟨M,q,hp⟩:=h
 obtain⟨c0,c1,c2,c3,cf,cl⟩:=cR hp
 obtain⟨v0,vf,vl⟩:=aC hv
 obtain⟨n0,nf,nl⟩:=aC hn
 refine callsD_of_wpS Tryz.func77 rfl fun c₀ cs hu=>?_
 apply wpS_seq
 apply wpS_region
 simp[wpOpsS,go_sem,recoverD,hu,Tryz.ntmps77,Exit.thenS,v0,c0,cf,vf]
 apply wpS_seq
 apply wpS_seq
 apply wpS_region
 simp[wpOpsS,go_sem,recoverD,hu,aR,Exit.thenS,Array.replicate_succ,v0,c0,cf,vf,Bn]
 have t1:Turned (fun k=>k=p∨k=bn) w ((w.setCell ⟨p,0,none⟩ (.pointer none)).alloc (.cells #[.pointer (some ⟨p,0,none⟩)] 113)):=Turned.alloc (bB (Turned.refl _ w) (fun _=> .inl rfl) _) _
 have hp1:((w.setCell ⟨p,0,none⟩ (.pointer none)).alloc (.cells #[.pointer (some ⟨p,0,none⟩)] 113)).heap[p]?=some (.cells (cy none M q a) 110 (0,0)):=by
  rw[Below.heap_alloc _ _ _ (by simpa using cl)]
  have:=bu (o:=0) (.pointer none) hp
  simpa [cy] using this
 have hv1:((w.setCell ⟨p,0,none⟩ (.pointer none)).alloc (.cells #[.pointer (some ⟨p,0,none⟩)] 113)).heap[bv]?=some (.cells #[.pointer (some ⟨p,0,none⟩)] 43 (0,0)):=by
  rw[Turned.block t1 bv vl (by omega)];exact hv
 have hs1:=bh (w.setCell ⟨p,0,none⟩ (.pointer none)) (.cells #[.pointer (some ⟨p,0,none⟩)] 113)
 rw[show(w.setCell ⟨p,0,none⟩ (.pointer none)).heap.size=w.heap.size by simp] at hs1
 have hn1:((w.setCell ⟨p,0,none⟩ (.pointer none)).alloc (.cells #[.pointer (some ⟨p,0,none⟩)] 113)).heap[bn]?=some (.cells #[.int .i64 n] 3 (0,0)):=by
  rw[Below.heap_alloc _ _ _ (by simpa using nl),Below.heap_setCell _ _ _ _ h2];exact hn
 generalize (w.setCell ⟨p,0,none⟩ (.pointer none)).alloc (.cells #[.pointer (some ⟨p,0,none⟩)] 113)=W1 at t1 hp1 hv1 hs1 hn1⊢
 generalize w.heap.size=bs at hs1⊢
 obtain⟨_,_,_,x3,_,xl⟩:=cR hp1
 obtain⟨y0,yf,yl⟩:=aC hv1
 obtain⟨z0,zf,zl⟩:=aC hs1
 obtain⟨n1,nf1,nl1⟩:=aC hn1
 have FIN:Hq (xo w p bn a (W1.setCell ⟨bn,0,none⟩ (.int .i64 a))):=hQQ ⟨⟨M,q,by rw[Below.heap_setCell _ _ _ _ (Ne.symm h2)];exact hp1⟩,kU _ hn1,bB t1 (fun _=> .inr rfl) _⟩
 clear c0 c1 c2 c3 cf cl v0 vf vl n0 nf nl hp hv hn hp1 hv1 hs1 hn1 t1
 refine wpS_of_wp ?_
 go_wp2_with fail
 refine wpS_of_wp ?_
 go_wp2_with fail
 exact⟨rfl,_,rfl,_,results_none rfl _ _ _,rfl,rfl,FIN.o⟩
theorem sK (p bv bn M q:Nat)(n:Int)(w:World)(hp:w.heap[p]?=some (.cells (cy (some ⟨p,0,none⟩) M q (-1)) 110 (0,0)))(hv:w.heap[bv]?=some (.cells #[.pointer (some ⟨p,0,none⟩)] 43 (0,0)))(hn:w.heap[bn]?=some (.cells #[.int .i64 n] 3 (0,0)))(h1:bv≠p)(h2:bn≠p)(h3:bv≠bn):
 CallsD Tryz.prog 77 #[.pointer (some ⟨bv,0,none⟩),.pointer (some ⟨bn,0,none⟩)] .returning w fun e u' w' =>
  e=.returned (.tuple #[])∧u'= .returning∧xo w p bn (-1) w':=by
 obtain⟨c0,c1,c2,c3,cf,cl⟩:=cR hp
 obtain⟨v0,vf,vl⟩:=aC hv
 obtain⟨n0,nf,nl⟩:=aC hn
 refine callsD_of_wpS Tryz.func77 rfl fun c₀ cs hu=>?_
 apply wpS_seq
 apply wpS_region
 simp[wpOpsS,go_sem,recoverD,hu,Tryz.ntmps77,Exit.thenS,v0,c0,cf,vf]
 apply wpS_seq
 apply wpS_seq
 apply wpS_region
 simp[wpOpsS,go_sem,recoverD,hu,aR,Exit.thenS,Array.replicate_succ,v0,c0,cf,vf,yQ]
 have t1:Turned (fun k=>k=p∨k=bn) w ((w.setCell ⟨p,0,none⟩ (.pointer none)).alloc (.cells #[.pointer none] 113)):=Turned.alloc (bB (Turned.refl _ w) (fun _=> .inl rfl) _) _
 have hp1:((w.setCell ⟨p,0,none⟩ (.pointer none)).alloc (.cells #[.pointer none] 113)).heap[p]?=some (.cells (cy none M q (-1)) 110 (0,0)):=by
  rw[Below.heap_alloc _ _ _ (by simpa using cl)]
  have:=bu (o:=0) (.pointer none) hp
  simpa [cy] using this
 have hv1:((w.setCell ⟨p,0,none⟩ (.pointer none)).alloc (.cells #[.pointer none] 113)).heap[bv]?=some (.cells #[.pointer (some ⟨p,0,none⟩)] 43 (0,0)):=by
  rw[Turned.block t1 bv vl (by omega)];exact hv
 have hn1:((w.setCell ⟨p,0,none⟩ (.pointer none)).alloc (.cells #[.pointer none] 113)).heap[bn]?=some (.cells #[.int .i64 n] 3 (0,0)):=by
  rw[Below.heap_alloc _ _ _ (by simpa using nl),Below.heap_setCell _ _ _ _ h2];exact hn
 generalize (w.setCell ⟨p,0,none⟩ (.pointer none)).alloc (.cells #[.pointer none] 113)=W1 at t1 hp1 hv1 hn1⊢
 obtain⟨_,_,_,x3,_,xl⟩:=cR hp1
 obtain⟨y0,yf,yl⟩:=aC hv1
 obtain⟨n1,nf1,nl1⟩:=aC hn1
 have FIN:Hq (xo w p bn (-1) (W1.setCell ⟨bn,0,none⟩ (.int .i64 (-1)))):=hQQ ⟨⟨M,q,by rw[Below.heap_setCell _ _ _ _ (Ne.symm h2)];exact hp1⟩,kU _ hn1,bB t1 (fun _=> .inr rfl) _⟩
 clear c0 c1 c2 c3 cf cl v0 vf vl n0 nf nl hp hv hn hp1 hv1 hn1 t1
 refine wpS_of_wp ?_
 go_wp2_with fail
 refine wpS_of_wp ?_
 go_wp2_with fail
 refine⟨rfl,.returning,?_,_,results_none rfl _ _ _,rfl,rfl,FIN.o⟩
 cases c₀
 simp_all
structure Hx (w W:World)(F:Nat→Prop)(p bv bn:Nat)(kn:Int→Option Int):Prop where
 view:aE W F p kn []
 v:W.heap[bv]?=some (.cells #[.pointer (some ⟨p,0,none⟩)] 43 (0,0))
 n:W.heap[bn]?=some (.cells #[.int .i64 0] 3 (0,0))
 more:ae w W
 new:∀k,F k→w.heap.size≤k
 fv:¬F bv
 fn:¬F bn
 vn:bv≠bn
 lv:w.heap.size≤bv
 ln:w.heap.size≤bn
 lp:w.heap.size≤p
theorem yR {w w1:World}{M q n:Nat}{F0:Nat→Prop}{kn:Int→Option Int}(hk:KnownAt w M n kn)(hm:fx w1 F0 q [])(hM:ae (w.alloc (.cells #[.int .i64 0] 3)) w1)(hn:∀k,F0 k→(w.alloc (.cells #[.int .i64 0] 3)).heap.size≤k):
 ∃F,Hx w ((w1.alloc (.cells (cy (some ⟨w1.heap.size,0,none⟩) M q (-1)) 110)).alloc (.cells #[.pointer (some ⟨w1.heap.size,0,none⟩)] 43)) F w1.heap.size (w1.heap.size+1) w.heap.size kn:=by
 have m0:ae w (w.alloc (.cells #[.int .i64 0] 3)):=(ae.refl w).alloc _
 have hb:=bh w (.cells #[.int .i64 0] 3)
 have hs0:(w.alloc (.cells #[.int .i64 0] 3)).heap.size=w.heap.size+1:=by simp
 rw[hs0] at hn
 have h1:=hM.size
 rw[hs0] at h1
 have hp:=bh w1 (.cells (cy (some ⟨w1.heap.size,0,none⟩) M q (-1)) 110)
 have m2:ae w1 (w1.alloc (.cells (cy (some ⟨w1.heap.size,0,none⟩) M q (-1)) 110)):=(ae.refl w1).alloc _
 have hs2:(w1.alloc (.cells (cy (some ⟨w1.heap.size,0,none⟩) M q (-1)) 110)).heap.size=w1.heap.size+1:=by simp
 generalize w1.alloc (.cells (cy (some ⟨w1.heap.size,0,none⟩) M q (-1)) 110)=w2 at hp m2 hs2⊢
 have hv:=bh w2 (.cells #[.pointer (some ⟨w1.heap.size,0,none⟩)] 43)
 rw[hs2] at hv
 have m3:ae w2 (w2.alloc (.cells #[.pointer (some ⟨w1.heap.size,0,none⟩)] 43)):=(ae.refl w2).alloc _
 have hs3:(w2.alloc (.cells #[.pointer (some ⟨w1.heap.size,0,none⟩)] 43)).heap.size=w1.heap.size+2:=by simp[hs2]
 generalize w2.alloc (.cells #[.pointer (some ⟨w1.heap.size,0,none⟩)] 43)=w3 at hv m3 hs3⊢
 have lM:=hk.lt
 have all:ae w w3:=((m0.trans hM).trans m2).trans m3
 refine⟨fun k=>F0 k∨k=w1.heap.size,⟨⟨⟨M,q,n,F0,m3.block hp,hk.more all,(hm.more m2).more m3,.inr rfl,fun k hk=>⟨.inl hk,fun e=>by have:=hm.lt k hk;omega⟩,fun r=>?_⟩,fun k r=>?_⟩,hv,m3.block (m2.block (hM.block hb)),all,fun k r=>?_,fun r=>?_,fun r=>?_,by omega,by omega,Nat.le_refl _,by omega⟩⟩
 ·rcases r with r|r
  ·have:=hn M r;omega
  ·omega
 ·rcases r with r|r
  ·have:=hm.lt k r;omega
  ·omega
 ·rcases r with r|r
  ·have:=hn k r;omega
  ·omega
 ·rcases r with r|r
  ·have:=hm.lt _ r;omega
  ·omega
 ·rcases r with r|r
  ·have:=hn _ r;omega
  ·omega
theorem o7 {w W w2 w3:World}{F S:Nat→Prop}{p bv bn:Nat}{kn:Int→Option Int}(hb:Hx w W F p bv bn kn)(t:Turned (fun k=>F k∨S k) W w2)(t':Turned (fun k=>k=p∨k=bn) w2 w3):Turned S w w3:=by
 have m:Turned S w W:=Turned.mono hb.more (fun _ _ q=>q.elim)
 have h1:Turned S w w2:=am m t (fun k q=>by rcases q with q|q;exact .inr (hb.new k q);exact .inl q)
 exact am h1 t' (fun k q=>by have:=hb.lp;have:=hb.ln;rcases q with q|q<;>exact .inr (by omega))
theorem rR {w W w2:World}{F S:Nat→Prop}{p bv bn:Nat}{kn:Int→Option Int}(hb:Hx w W F p bv bn kn)(hS:∀k,S k→k<w.heap.size)(t:Turned (fun k=>F k∨S k) W w2):
 w2.heap[bv]?=some (.cells #[.pointer (some ⟨p,0,none⟩)] 43 (0,0))∧w2.heap[bn]?=some (.cells #[.int .i64 0] 3 (0,0))∧bv≠p∧bn≠p:=by
 obtain⟨M,q,n,F0,hp,_,_,fp,_⟩:=hb.view.ex
 refine⟨?_,?_,fun e=>hb.fv (e▸fp),fun e=>hb.fn (e▸fp)⟩
 ·rw[Turned.block t bv (ac hb.v) (fun q=>by rcases q with q|q;exact hb.fv q;have:=hS _ q;have:=hb.lv;omega)];exact hb.v
 ·rw[Turned.block t bn (ac hb.n) (fun q=>by rcases q with q|q;exact hb.fn q;have:=hS _ q;have:=hb.ln;omega)];exact hb.n
attribute [local go_sem] Oper.semAt_some
theorem jZ {w w':World}(h:Below w.heap.size w w'):ae w w':=⟨h.1,h.2,h.3,h.4,fun k hk _=>h.5 k hk⟩
def fo (a b:Nat)(w w':World):Prop:=w'.heap[a]?=w.heap[a]? ∧w'.heap[b]?=w.heap[b]?
theorem fo.refl (a b:Nat)(w:World):fo a b w w:=⟨rfl,rfl⟩
theorem fo.trans {a b:Nat}{w w' w'':World}(h:fo a b w w')(k:fo a b w' w''):fo a b w w'':=⟨k.1.trans h.1,k.2.trans h.2⟩
theorem fo.cell2 {a b o:Nat}{w w':World}{v:Value}(h:fo a b w w')(hc:w.cell? ⟨b,o,none⟩=some v):w'.cell? ⟨b,o,none⟩=some v:=by
 rw[World.cell?_of_block (w:=w) h.2];exact hc
theorem sL {a b n:Nat}(ha:a<n)(hb:b<n)(W:World)(l:Nat)(o o':Obj)(hl:n≤l)(h:W.heap[l]?=some o) (_:o.isCells=false) (_:o.isWalk=false):fo a b W (W.putObj l o'):=
 ⟨World.putObj_heap_other (by omega),World.putObj_heap_other (by omega)⟩
def Nh (l:List KV)(i:Nat):KV:=l.getD i (0,0)
attribute [local go_sem] Oper.semAt_some
def Px (ps:List KV)(pre:List Nat)(x:Int):Option Int:=look (pre.reverse.map (Nh ps)) x
structure PC (w:World)(ps:List KV)(pre:List Nat)(W:World):Prop where
 box:Boxed W (w.heap.size+1) 83 (.map (some w.heap.size))
 known:KnownAt W w.heap.size pre.length (Px ps pre)
 below:Below w.heap.size w W
 big:w.heap.size+3≤W.heap.size
def wAt (ws:List Int)(i:Int):Int:=ws.getD i.toNat 0
def ce (ws:List Int)(D:List KV):List Int:=D.foldl (fun z p=>z.set p.1.toNat p.2) ws
def ke (ws:List Int)(D:List KV):Bool:=D.all fun p=>decide (p.1<ws.length)
def doP (sem:List KV→Ran)(ws:List Int):Nat→List KV→Option (List Int×List KV)
 | 0,_=>none
 |n+1,K=>match sem K with
  | .need a=>if a<ws.length then doP sem ws n (K++ [(a,wAt ws a)]) else none
  | .done D=>if ke ws D then some (ce ws D,K) else none
theorem dY (D:List KV):∀ws,(ce ws D).length=ws.length:=by
 induction D with
 |nil=>intro ws;rfl
 |cons p D ih=>intro ws;show(ce (ws.set _ _) D).length=_;rw[ih];simp
theorem yS (ws:List Int)(D:List KV)(p:KV):ce ws (D++ [p])=(ce ws D).set p.1.toNat p.2:=by simp[ce,List.foldl_append]
theorem EO {D:List KV}{i:Nat}{p:KV}(h:D[i]?=some p):D.take (i+1)=D.take i++ [p]:=by rw[List.take_add_one,h];rfl
theorem Bo (ws:List Int)(D:List KV)(p:KV):ke ws (D++ [p])=(ke ws D && decide (p.1<ws.length)):=by simp[ke,List.all_append]
theorem EP {ws:List Int}{D:List KV}{i:Nat}{p:KV}(h:D[i]?=some p)(hp:¬p.1<ws.length):ke ws D=false:=by
 unfold ke
 rw[List.all_eq_false]
 exact⟨p,List.mem_of_getElem? h,by simpa using hp⟩
structure jE (ws:List Int)(K:List KV):Prop where
 at':∀p∈K,0≤p.1∧p.1<ws.length∧p.2=wAt ws p.1
 once:(K.map (·.1)).Nodup
theorem o8 (ws:List Int):jE ws []:=⟨(fun p h=>by cases h),by simp⟩
theorem vE {ws:List Int}{K:List KV}(h:jE ws K){a:Int}(h0:0≤a)(h1:a<ws.length)(hn:look K a=none):jE ws (K++ [(a,wAt ws a)]):=by
 refine⟨fun p hp=>?_,?_⟩
 ·rcases List.mem_append.1 hp with q|q
  ·exact h.at' p q
  ·simp at q;subst q;exact⟨h0,h1,rfl⟩
 ·rw[List.map_append,List.nodup_append]
  refine⟨h.once,by simp,fun x hx y hy e=>?_⟩
  simp at hy;subst hy;subst e
  obtain⟨p,hp,rfl⟩:=List.mem_map.1 hx
  exact ig.1 hn p hp rfl
theorem lS (M:Nat):∀xs:List Int,xs.Nodup→(∀x∈xs,0≤x∧x<M)→xs.length≤M:=by
 induction M with
 |zero =>
  intro xs _ h
  cases xs with
  |nil=>simp
  |cons a l=>have:=h a (by simp);omega
 |succ M ih =>
  intro xs hn h
  by_cases hm:(M:Int)∈xs
  ·have h1:=ih (xs.erase (M:Int)) (hn.erase _) (fun x hx=>by
    have hx':=(List.Nodup.mem_erase_iff hn).1 hx
    have:=h x hx'.2
    have:=hx'.1
    omega)
   have h2:=List.length_erase_of_mem hm
   omega
  ·have h1:=ih xs hn (fun x hx=>by
    have:=h x hx
    have:x≠(M:Int):=fun e=>hm (e▸hx)
    omega)
   omega
theorem jE.len {ws:List Int}{K:List KV}(h:jE ws K):K.length≤ws.length:=by
 have:=lS ws.length (K.map (·.1)) h.once fun x hx=>by
  obtain⟨p,hp,rfl⟩:=List.mem_map.1 hx
  exact⟨(h.at' p hp).1,(h.at' p hp).2.1⟩
 simpa using this
theorem vF {K:List KV}{a x:Int}(h:look K a=none):(fun y=>if y=a then some x else look K y)=look (K++ [(a,x)]):=by
 funext y
 rw[lR,gp]
 by_cases e:y=a
 ·subst e;rw[if_pos rfl,if_pos rfl,h];rfl
 ·rw[if_neg e,if_neg (fun q=>e q.symm),Hj];cases look K y<;>rfl
def OkW (ws:List Int):Prop:=∀x∈ws,W64 x
theorem Bp {ws:List Int}(h:OkW ws)(i:Int):W64 (wAt ws i):=by
 unfold wAt
 by_cases q:i.toNat<ws.length
 ·have:ws.getD i.toNat 0=ws[i.toNat]:=by simp[List.getD,q]
  rw[this];exact h _ (List.getElem_mem q)
 ·have:ws.getD i.toNat 0=0:=by simp[List.getD,List.getElem?_eq_none (show ws.length≤i.toNat by omega)]
  rw[this];unfold W64;omega
def xp (ws:List Int)(b:Nat)(sem:List KV→Ran):Prop:=∀K,jE ws K→Ng (look K) b (sem K)
theorem yT {b:Nat}{sem:List KV→Ran}{ws:List Int}{K:List KV}{a:Int}{R:Option (List Int×List KV)}(hK:jE ws K)(hf:Ng (look K) b (sem K))(hs:sem K=.need a)(ha:a<ws.length)(hR:doP sem ws (ws.length+1-K.length) K=R):
 jE ws (K++ [(a,wAt ws a)])∧doP sem ws (ws.length+1-(K++ [(a,wAt ws a)]).length) (K++ [(a,wAt ws a)])=R∧0≤a∧look K a=none:=by
 rw[hs] at hf
 have h1:=vE hK hf.1 ha hf.2.2
 have h2:=hK.len
 refine⟨h1,?_,hf.1,hf.2.2⟩
 rw[show ws.length+1-K.length=(ws.length-K.length)+1 by omega] at hR
 unfold doP at hR
 rw[hs] at hR
 simp only[if_pos ha] at hR
 rw[List.length_append,List.length_singleton,show ws.length+1-(K.length+1)=ws.length-K.length by omega]
 exact hR
theorem DC {sem:List KV→Ran}{ws:List Int}{K:List KV}{a:Int}{R:Option (List Int×List KV)}(hK:jE ws K)(hs:sem K=.need a)(ha:¬a<ws.length)(hR:doP sem ws (ws.length+1-K.length) K=R):R=none:=by
 have h2:=hK.len
 rw[show ws.length+1-K.length=(ws.length-K.length)+1 by omega] at hR
 unfold doP at hR
 rw[hs] at hR
 simp only[if_neg ha] at hR
 exact hR.symm
theorem yU {sem:List KV→Ran}{ws:List Int}{K D:List KV}{R:Option (List Int×List KV)}(hK:jE ws K)(hs:sem K=.done D)(hR:doP sem ws (ws.length+1-K.length) K=R):R=if ke ws D then some (ce ws D,K) else none:=by
 have h2:=hK.len
 rw[show ws.length+1-K.length=(ws.length-K.length)+1 by omega] at hR
 unfold doP at hR
 rw[hs] at hR
 exact hR.symm
theorem o9 {w w':World}{base:Nat}{e:TypeId}{s n:Nat}{v:Value}{xs:List Value}(h:w.ownsRow base e s v n xs)(hW:ae w w'):w'.ownsRow base e s v n xs:=by
 refine⟨h.1,?_⟩
 rcases h.2 with q|⟨g,cap,cur,h1,h2,h3,h4⟩
 ·exact .inl q
 ·exact .inr ⟨g,cap,cur,h1,h2,hW.block h3,h4⟩
theorem qS {w:World}{base base':Nat}{e:TypeId}{s n:Nat}{v:Value}{xs:List Value}(h:w.ownsRow base e s v n xs)(hb:base'≤base):w.ownsRow base' e s v n xs:=by
 refine⟨h.1,?_⟩
 rcases h.2 with q|⟨g,cap,cur,h1,h2,h3,h4⟩
 ·exact .inl q
 ·exact .inr ⟨g,cap,cur,h1,by omega,h3,h4⟩
theorem uV {wa w w':World}{v:Value}{e:TypeId}{s n:Nat}{xs:List Value}(hW:ae wa w)(h:w.ownsRow wa.heap.size e s v n xs)(g:w.grownBy w' v.ownBlock):ae wa w' :=
 ⟨g.os.trans hW.os,g.tape.trans hW.tape,g.output.trans hW.output,Nat.le_trans hW.size g.size,fun k hk _=>by
  rw[g.block k (Nat.lt_of_lt_of_le hk hW.size) (by
   rcases h.2 with⟨rfl,_⟩|⟨b,cap,cur,rfl,hb,_⟩
   ·simp[Value.ownBlock]
   ·simp only[Value.ownBlock,ne_eq,Option.some.injEq];omega)]
  exact Turned.block hW k hk (fun q=>q)⟩
theorem ji:∃i:TypeInfo,Tryz.prog.info? 3=some i∧i.zero=some (.int .i64 0)∧i.size=1∧i.bytes=8:=by
 have h1:(Tryz.prog.info? 3).map (·.size)=some 1:=by kernel_rfl
 have h2:(Tryz.prog.info? 3).bind (·.zero)=some (.int .i64 0):=by kernel_rfl
 have h3:(Tryz.prog.info? 3).map (·.bytes)=some 8:=by kernel_rfl
 cases q:Tryz.prog.info? 3 with
 |none=>rw[q] at h1;simp at h1
 |some i=>rw[q] at h1 h2 h3;exact⟨i,rfl,by simpa using h2,by simpa using h1,by simpa using h3⟩
def Rw (base:Nat)(w:World)(v:Value)(xs:List Int):Prop:=w.ownsRow base 3 1 v xs.length (xs.map (Value.int .i64))
theorem Rw.nil (base:Nat)(w:World):Rw base w (.slice none 0 0) []:=World.ownsRow_nil w base _ 1
theorem Rw.more {base:Nat}{w w':World}{v:Value}{xs:List Int}(h:Rw base w v xs)(hW:ae w w'):Rw base w' v xs:=o9 h hW
theorem Rw.mono {base base':Nat}{w:World}{v:Value}{xs:List Int}(h:Rw base w v xs)(hb:base'≤base):Rw base' w v xs:=by
 refine⟨h.1,?_⟩
 rcases h.2 with q|⟨g,cap,cur,h1,h2,h3,h4⟩
 ·exact .inl q
 ·exact .inr ⟨g,cap,cur,h1,by omega,h3,h4⟩
theorem Rw.reads {base:Nat}{w:World}{v:Value}{xs:List Int}(h:Rw base w v xs):
 ∃a cap,v=.slice a xs.length cap∧∀k,k<xs.length→∃g,a=some ⟨g,0,none⟩∧base≤g∧g<w.heap.size∧∀j,j<xs.length→w.cell? ⟨g,j,none⟩=some (.int .i64 (xs.getD j 0)):=by
 rcases h.2 with⟨rfl,h0⟩|⟨g,cap,cur,rfl,hb,hg,_,_,hs,ht⟩
 ·exact⟨none,0,by rw[h0],fun k hk=>by omega⟩
 ·refine⟨_,cap,rfl,fun k hk=>⟨g,rfl,hb,ac hg,fun j hj=>?_⟩⟩
  rw[World.cell?_of_block (w:=w) (w':=w) rfl]
  have e:cur.toList[j]?=some (.int .i64 (xs.getD j 0)):=by
   have h1:(cur.toList.take (xs.length * 1))[j]?=some (.int .i64 (xs.getD j 0)):=by
    rw[ht,List.getElem?_map,List.getElem?_eq_getElem hj];simp[List.getD,hj]
   rw[List.getElem?_take,if_pos (by omega)] at h1
   exact h1
  simp[World.cell?,hg]
  simpa using e
def yV (w:World)(xs:List Int)(e:Ending)(w':World):Prop:=∃v,e=.returned v∧Rw w.heap.size w' v xs∧ae w w'
theorem vG (xs:List Int)(v1 v2:Value)(b1 b2:Nat)(w:World)(hl:xs.length≤1000000)(h1:Rw b1 w v1 xs)(h2:Rw b2 w v2 xs):
 Calls Tryz.prog 35 #[v1,v2] w (aP w (.bool true)):=by
 obtain⟨a1,c1,rfl,r1⟩:=h1.reads
 obtain⟨a2,c2,rfl,r2⟩:=h2.reads
 clear h1 h2
 have HM:Hq (ae w w):=ae.refl w
 by_cases h0:xs.length=0
 ·rw[h0]
  clear r1 r2 h0 hl
  go_enter Tryz.func35,Tryz.ntmps35
  go_wp2_with fail
  go_loop [5] (fun i=>i=.int .i64 0) (fun _=>0)
  case atStart=>rfl
  case round =>
   obtain rfl:=hrel
   go_wp2_with fail
   go_ret
   exact⟨rfl,HM.o⟩
 ·obtain⟨g1,rfl,_,hg1,q1⟩:=r1 0 (by omega)
  obtain⟨g2,rfl,_,hg2,q2⟩:=r2 0 (by omega)
  have H1:=hQQ q1
  have H2:=hQQ q2
  clear r1 r2 q1 q2
  go_enter Tryz.func35,Tryz.ntmps35
  go_wp2_with fail
  go_loopw [5] (fun i wr=>∃k:Nat,k≤xs.length∧i=.int .i64 k∧ae w wr) (fun i _=>xs.length-(intOf i).toNat)
  case atStart=>exact⟨0,Nat.zero_le _,rfl,HM.o⟩
  case round =>
   obtain⟨k,hk,rfl,ht⟩:=hrel
   by_cases hlt:k<xs.length
   ·have x1:=ht.cell (H1.o k hlt)
    have x2:=ht.cell (H2.o k hlt)
    have Ht:=hQQ ht
    clear ht
    generalize xs.getD k 0=z at x1 x2
    go_wp2_with fail
    go_quiet (fail)
    go_wp2_with fail
    go_roundw
    case rel=>exact⟨k+1,by omega,by go_num,Ht.o.drewN _⟩
    case measure=>simp[intOf];omega
   ·go_wp2_with fail
    go_ret
    exact⟨rfl,ht⟩
def jH (w:World)(a:Option Addr)(zs:List Int):Prop :=
 zs= []∨∃s o,a=some ⟨s,o,none⟩∧s<w.heap.size∧∀i,i<zs.length→w.cell? ⟨s,o+i,none⟩=some (.int .i64 (zs.getD i 0))
theorem qT (a:Option Addr)(cap:Nat)(zs:List Int)(w:World)(h:jH w a zs)(hl:zs.length≤1000000):
 Calls Tryz.prog 41 #[.slice a zs.length cap] w fun e w'=>∃a' cap',e=.returned (.slice a' zs.length cap')∧RowAt w' 3 (zs.map (Value.int .i64)) a' cap'∧(∀k,cZ a' k→w.heap.size≤k)∧ae w w':=by
 have fin:∀ {v':Value} {w':World},w'.ownsRow w.heap.size 3 1 v' zs.length (zs.map (Value.int .i64))→Below w.heap.size w w'→∃a' cap',Ending.returned v'= .returned (.slice a' zs.length cap')∧RowAt w' 3 (zs.map (Value.int .i64)) a' cap'∧(∀k,cZ a' k→w.heap.size≤k)∧ae w w':=by
  intro v' w' ho hb
  obtain⟨a',cap',rfl,hr,hn,_⟩:=RowAt.of_own ho
  exact⟨a',cap',rfl,hr,hn,jZ hb⟩
 cases a with
 |none =>
  obtain rfl:zs= []:=by
   rcases h with h|⟨s,o,h,_⟩
   ·exact h
   ·cases h
  refine(AnyG.slices_Clone_int_nil Tryz.lCloneN 0 cap w).mono ?_
  rintro e w' ⟨rfl,rfl⟩
  exact⟨none,0,rfl,RowAt.nil _ _,(fun k hk=>by cases hk),ae.refl _⟩
 |some b =>
  by_cases h0:zs= []
  ·subst h0
   refine(AnyG.slices_Clone_int_zero Tryz.lCloneN b cap w).mono ?_
   rintro e w' ⟨v',rfl,ho,_,hb⟩
   exact fin ho hb
  ·obtain⟨s,o,e,hs,hc⟩:=h.resolve_left h0
   cases e
   refine(AnyG.slices_Clone_int Tryz.lCloneN s o zs.length cap zs w (Nat.le_refl _) (by omega) hc).mono ?_
   rintro e w' ⟨v',rfl,ho,_,hb⟩
   rw[List.take_length] at ho
   exact fin ho hb
def jj (w:World)(zs:List Int)(D:List KV)(a:Option Addr)(cap:Nat)(vn:Value)(e:Ending)(w':World):Prop :=
 Turned (cZ a) w w'∧((ke zs D=true∧e=.returned (.tuple #[.slice a zs.length cap,vn,.int .i64 0])∧RowAt w' 3 ((ce zs D).map (Value.int .i64)) a cap) ∨
  (ke zs D=false∧e=.returned (.tuple #[.slice none 0 0,.slice none 0 0,.int .i64 3])))
theorem vH (zs:List Int)(D:List KV)(a ad an:Option Addr)(cap cd n cn:Nat)(w:World)(hr:RowAt w 3 (zs.map (Value.int .i64)) a cap)(hd:o6 w ad D)(hl:D.length≤1000000)(hz:zs.length≤1000000)(hD:OkD D)(hne:∀k,iq ad k→¬cZ a k):
 Calls Tryz.prog 43 #[.slice a zs.length cap,.slice an n cn,.slice ad D.length cd] w (jj w zs D a cap (.slice an n cn)):=by
 have HR:=hQQ hr;have HD:=hQQ hd;have HO:=hQQ hD;have HN:=hQQ hne
 clear hr hd hD hne
 go_enter Tryz.func43,Tryz.ntmps43
 go_wp2_with fail
 go_loopw [13] (fun u wr=>∃i:Nat,u=.int .i64 i∧i≤D.length∧ke zs (D.take i)=true∧RowAt wr 3 ((ce zs (D.take i)).map (Value.int .i64)) a cap∧Turned (cZ a) w wr) (fun u _=>D.length-(intOf u).toNat)
 case atStart=>exact⟨0,rfl,by omega,rfl,HR.o,Turned.refl _ _⟩
 case round =>
  obtain⟨i,rfl,hi,hf,hr,ht⟩:=hrel
  have HF:=hQQ hf;have HR2:=hQQ hr;have HT:=hQQ ht
  clear hf hr ht
  by_cases hlt:i<D.length
  ·obtain⟨⟨k,v⟩,hp⟩:∃p,D[i]?=some p:=⟨_,List.getElem?_eq_getElem hlt⟩
   obtain⟨s,o,rfl,hs,hc⟩:=(HD.o.keep HT.o HN.o).resolve_left (by intro q;rw[q] at hlt;simp at hlt)
   obtain⟨c0,c1⟩:=hc i _ hp
   simp only at c0 c1
   obtain⟨hk0,_,_⟩:=HO.o _ (List.mem_of_getElem? hp)
   simp only at hk0
   have HP:=hQQ hp
   clear hc hp
   by_cases hk:k<zs.length
   ·obtain⟨j,rfl⟩:∃j:Nat,k=j:=⟨k.toNat,by omega⟩
    have d1:decide ((zs.length:Int)≤(j:Int))=false:=by simp;omega
    have hj:j<zs.length:=by omega
    have hlen:=dY (D.take i) zs
    have hrow:=HR2.o
    rcases hrow with⟨rfl,rfl,hx⟩|⟨g,cur,rfl,hg,hn,hm,hsz,htk⟩
    ·have:=congrArg List.length hx;rw[List.length_map,hlen,List.length_nil] at this;omega
    have hgl:=ac hg
    have hcell:wr.cell? ⟨g,j,none⟩=cur[j]? :=by simp[World.cell?,hg]
    have hcell2:∃u,wr.cell? ⟨g,j,none⟩=some u:=by
     have:j<cur.size:=by rw[List.length_map,hlen] at hn;omega
     exact⟨cur[j],by rw[hcell,Array.getElem?_eq_getElem this]⟩
    obtain⟨u0,hu⟩:=hcell2
    have hfr:wr.frozen? ⟨g,j,none⟩=false:=by simp[World.frozen?,hg]
    have NX:Hq (ke zs (D.take (i+1))=true∧RowAt ((wr.setCell ⟨g,j,none⟩ (.int .i64 v)).alloc (.cells #[.int .i64 (j:Int),.int .i64 v] 88)) 3 ((ce zs (D.take (i+1))).map (Value.int .i64)) (some ⟨g,0,none⟩) cap∧Turned (cZ (some ⟨g,0,none⟩)) w ((wr.setCell ⟨g,j,none⟩ (.int .i64 v)).alloc (.cells #[.int .i64 (j:Int),.int .i64 v] 88))):=hQQ (by
     rw[EO HP.o,Bo,yS,HF.o]
     refine⟨by simp;omega,?_,(bB HT.o (fun _=>rfl) _).alloc _⟩
     have r2:=vr (i:=j) (.int .i64 v) HR2.o (by simp[hlen];omega)
     have r3:=r2.keep ((ae.refl _).alloc (.cells #[.int .i64 (j:Int),.int .i64 v] 88)) (fun _ _ q=>q)
     simpa [List.map_set] using r3)
    clear hn hm hsz htk hg hcell hk
    go_wp2_with fail
    go_roundw
    case rel=>exact⟨i+1,by go_num,by omega,NX.o.1,NX.o.2.1,NX.o.2.2⟩
    case measure=>simp[intOf];omega
   ·have d1:decide ((zs.length:Int)≤k)=true:=by simp;omega
    have FIN:Hq (∀w',ae wr w'→jj w zs D a cap (.slice an n cn) (.returned (.tuple #[.slice none 0 0,.slice none 0 0,.int .i64 3])) w'):=hQQ fun w' t=>⟨am (F':=fun _=>False) HT.o t (fun _ q=>q.elim),.inr ⟨EP HP.o hk,rfl⟩⟩
    have HM:Hq (∀o,ae wr (wr.alloc o)):=hQQ fun o=>(ae.refl wr).alloc o
    clear hk
    go_wp2_with fail
    go_ret3
    exact FIN.o _ (HM.o _)
  ·obtain rfl:i=D.length:=by omega
   have FIN:Hq (jj w zs D a cap (.slice an n cn) (.returned (.tuple #[.slice a zs.length cap,.slice an n cn,.int .i64 0])) wr):=hQQ ⟨HT.o,.inl ⟨by have:=HF.o;rwa [List.take_length] at this,rfl,by have:=HR2.o;rwa [List.take_length] at this⟩⟩
   go_wp2_with fail
   go_ret3
   exact FIN.o
def qU:Value→Nat
 | .slice _ n _=>n
 | _=>0
structure PD (w wb wr:World)(M:Nat)(zs:List Int)(sem:List KV→Ran)(R:Option (List Int×List KV))(K:List KV)(v:Value):Prop where
 okn:jE zs K
 res:doP sem zs (zs.length+1-K.length) K=R
 row:PRw wb.heap.size wr v K
 known:KnownAt wr M K.length (look K)
 turn:Turned (fun k=>k=M) wb wr
theorem KnownAt.of_block {w w':World}{M n:Nat}{kn:Int→Option Int}(h:KnownAt w M n kn)(e:∀ob,w.heap[M]?=some ob→w'.heap[M]?=some ob):KnownAt w' M n kn:=by
 obtain⟨D,⟨es,clock,hb,F⟩,hk⟩:=h
 exact⟨D,⟨es,clock,e _ hb,F⟩,hk⟩
end Go.Proofs.YtddmeghbmdfgeaaGreatDoor
