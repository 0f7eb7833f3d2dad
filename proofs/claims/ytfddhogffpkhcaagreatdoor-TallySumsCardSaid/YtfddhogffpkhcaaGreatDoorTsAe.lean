/-
  The landed slots that go through bits by a function to range over, under contract.
-/
import Derived.Test.YtfddhogffpkhcaaGreatDoorTsAd
import Derived.Test.YtfddhogffpkhcaaGreatDoorTsAc
import Derived.RangeFuncBox
import Derived.RangeFuncLeaves
import Derived.RangeFuncCalls
import Derived.Shelf.Abstract
import Derived.OwnWalkIn
import Derived.TacticsInMore
import Derived.LoopNIn
import Derived.LoopIn
import Derived.Maps.AppendAt
import Derived.ProofKit
import Derived.LaidMore
import Derived.OpenShut
import Derived.Stop.Joined
import Derived.Recover
import Derived.Deep.Slices
import Derived.Deep.Fields
import Derived.Lib.SmallJoins
set_option maxRecDepth 100000
set_option maxHeartbeats 8000000
set_option linter.all false
namespace Go.Proofs.YtfddhogffpkhcaaGreatDoor
open Go.RowKit Go.Shelf
attribute [local go_sem] Oper.semAt_some
def dl (x:Int)(k:Nat):List (Nat×Bool):=(List.range k).map fun j=>(j,dt x j)
theorem kK (x:Int)(k:Nat):dl x (k+1)=dl x k++ [(k,dt x k)]:=by simp[dl,List.range_succ]
theorem lu (x:Int)(k:Nat):(dl x k).length=k:=by simp[dl]
theorem yI (n:Nat)(hn:1≤n)(l Bm Bw:Nat)(x m:Int)(m0: -9223372036854775808≤m)(m1:m≤9223372036854775807)(J Jx:List (Nat×Bool)→World→Prop)
 (hY:∀pre y W,J pre W→pre.length<dR m→YieldAt Fence.wide (n-1) Tryz.prog l #[.int .i64 (y.1:Int),.bool y.2] W fun e W' =>
  (e=.returned (.bool true)∧J (pre++ [y]) W'∧eQ Bm Bw W W')∨(e=.returned (.bool false)∧Jx (pre++ [y]) W'))
 (W:World) (hBm:W.cell? ⟨Bm,0,none⟩=some (.int .i64 m)) (hBw:W.cell? ⟨Bw,0,none⟩=some (.int .i64 x)) (h0:J [] W):
 CallsIn Fence.wide n Tryz.prog 151 #[.func (.yield l) #[] #[],.pointer (some ⟨Bm,0,none⟩),.pointer (some ⟨Bw,0,none⟩)] W fun e W'=>(∃v,e=.returned v) ∧
  ((∃ys,ys=dl x (dR m)∧J ys W')∨(∃pre,(∃k,k≤dR m∧pre=dl x k)∧Jx pre W')):=by
 have he:=j2 m
 refine callsIn_of_wp Tryz.func151 rfl trivial ?_ rfl
 simp only[Tryz.ntmps151,List.size_toArray,List.length_cons,List.length_nil,Nat.reduceAdd,Nat.reduceSub,Array.replicate_succ,Array.replicate_zero,List.push_toArray,List.append_toArray,List.nil_append,List.cons_append]
 gi_wp2
 all_goals
  gi_loopw [7] (fun i wr=>∃k:Nat,k≤dR m∧i=.int .i64 k∧J (dl x k) wr∧eQ Bm Bw W wr) (fun i _=>dR m-(intOf i).toNat)
  case atStart=>exact⟨0,Nat.zero_le _,rfl,h0,eQ.refl _ _ _⟩
  case round =>
   obtain⟨k,hk,rfl,hJs,hnx⟩:=hrel
   by_cases hlt:k<dR m
   ·obtain⟨l1,l2⟩:=yH hlt
    have hcw:wr.cell? ⟨Bw,0,none⟩=some (.int .i64 x):=hnx.cell2 hBw
    have HK:=hQQ (uf (x:=x) (show k<32 by omega))
    obtain⟨fn,tmps,assign,body,hy,hR⟩:=hY _ (k,dt x k) wr hJs (by rw[lu];exact hlt)
    dsimp only at hy
    gi_wp2_with (refine⟨trivial,?_⟩;gi_at_call 152;refine(callsIn_wide.2 (DG x k _)).mono ?_;rw[HK.o];rintro e w' ⟨rfl,rfl⟩)
    refine hR.mono ?_
    rintro e W3 (⟨rfl,hJ3,hk3⟩|⟨rfl,hJx3⟩)
    ·gi_wp2
     go_roundw
     case rel=>exact⟨k+1,by omega,by simp,by rw[kK];exact hJ3,hnx.trans hk3⟩
     case measure=>simp[intOf];omega
    ·gi_wp2
     refine bodyPost_ret (results_none rfl _ _ _) rfl ?_
     exact⟨⟨_,rfl⟩,.inr ⟨_,⟨k+1,by omega,(kK _ _).symm⟩,hJx3⟩⟩
   ·have l3:k=dR m:=by omega
    have l4:(m≤32∧m≤(k:Int))∨(32≤m∧32≤(k:Int)):=by unfold dR at l3;omega
    rcases l4 with⟨l6,l5⟩|⟨l6,l5⟩
    ·gi_wp2
     go_end0
     exact⟨⟨_,rfl⟩,.inl ⟨_,rfl,by rw[←l3];exact hJs⟩⟩
    ·gi_wp2
     go_end0
     exact⟨⟨_,rfl⟩,.inl ⟨_,rfl,by rw[←l3];exact hJs⟩⟩
theorem A8 (n:Nat)(x m:Int)(w:World):
 CallsIn Fence.wide n Tryz.prog 141 #[.int .i64 x,.int .i64 m] w fun e w'=>e=.returned (.func (.func 151) #[] #[.pointer (some ⟨w.heap.size+1,0,none⟩),.pointer (some ⟨w.heap.size,0,none⟩)])∧w'=(w.alloc (.cells #[.int .i64 x] 3)).alloc (.cells #[.int .i64 m] 3):=by
 refine callsIn_of_wp Tryz.func141 rfl trivial ?_ rfl
 simp only[Tryz.ntmps141,List.size_toArray,List.length_cons,List.length_nil,Nat.reduceAdd,Nat.reduceSub,Array.replicate_succ,Array.replicate_zero,List.push_toArray,List.append_toArray,List.nil_append,List.cons_append]
 gi_wp2
 go_ret
 exact⟨rfl,rfl⟩
theorem sM (n:Nat)(hn:1≤n)(Bm Bw:Nat)(x m:Int)(m0: -9223372036854775808≤m)(m1:m≤9223372036854775807)(w:World)
 (hBm:w.cell? ⟨Bm,0,none⟩=some (.int .i64 m)) (hBw:w.cell? ⟨Bw,0,none⟩=some (.int .i64 x)):
 SeqStopsK Fence.wide n Tryz.prog 151 #[.pointer (some ⟨Bm,0,none⟩),.pointer (some ⟨Bw,0,none⟩)] (fun y:Nat×Bool=> #[Value.int .i64 (y.1:Int),Value.bool y.2]) (eQ Bm Bw) (fun ys=>ys=dl x (dR m))
  (fun pre=>∃k,k≤dR m∧pre=dl x k) (dR m) w:=fun l J Jx W hW _ _ hY h0 =>
 yI n hn l Bm Bw x m m0 m1 J Jx hY W ((hW.cell (p:=⟨Bm,0,none⟩) (dT hBm)).trans hBm) ((hW.cell (p:=⟨Bw,0,none⟩) (dT hBw)).trans hBw) h0
theorem ug (x:Int)(k:Nat):((dl x k).filter fun y=>y.2).map (fun y=>y.1)=onN x k:=by
 induction k with
 |zero=>rfl
 |succ k ih =>
  rw[kK,List.filter_append,List.map_append,ih,j3]
  cases dt x k<;>rfl
def yJ (pre:List (Nat×Bool)):Int:=((pre.filter fun y=>y.2).length:Int)
theorem CN (pre:List (Nat×Bool)):0≤yJ pre∧yJ pre≤pre.length:=by
 have:=List.length_filter_le (fun y:Nat×Bool=>y.2) pre
 unfold yJ;omega
theorem yK (x n:Int):yJ (dl x (dR n))=fC x n:=by
 unfold yJ fC
 rw[←ug,List.length_map]
def fJ (pre:List (Nat×Bool)):List Int:=(pre.filter fun y=>y.2).map fun y=>(y.1:Int)
theorem vu (pre:List (Nat×Bool))(k:Nat):fJ (pre++ [(k,true)])=fJ pre++ [(k:Int)]:=by simp[fJ]
theorem yL (pre:List (Nat×Bool))(k:Nat):fJ (pre++ [(k,false)])=fJ pre:=by simp[fJ]
theorem yM (pre:List (Nat×Bool)):(fJ pre).length≤pre.length:=by
 unfold fJ;rw[List.length_map];exact List.length_filter_le _ _
theorem vv (x n:Int):fJ (dl x (dR n))=iL x n:=by
 unfold fJ iL
 rw[←ug,List.map_map];rfl
theorem CO (x n:Int)(n0: -9223372036854775808≤n)(n1:n≤9223372036854775807)(w:World):Calls Tryz.prog 118 #[.int .i64 x,.int .i64 n] w (qs w (iL x n)):=by
 suffices H:CallsIn Fence.wide 3 Tryz.prog 118 #[.int .i64 x,.int .i64 n] w fun e W'=>∃v,e=.returned v∧Rw w.heap.size W' v (iL x n)∧Below w.heap.size w W' from
  (callsIn_wide (n:=3)).1 (H.mono fun e W' ⟨v,he,hr,hb⟩=>⟨v,he,hr,jo hb⟩)
 obtain⟨i0,hi,hz0,hz1,hz2⟩:=iE
 have he:=j2 n
 refine callsIn_of_wp_marks Tryz.func118 rfl trivial ?_ rfl
 simp only[Tryz.ntmps118,List.size_toArray,List.length_cons,List.length_nil,Nat.reduceAdd,Nat.reduceSub,Array.replicate_succ,Array.replicate_zero,List.push_toArray,List.append_toArray,List.nil_append,List.cons_append]
 gi_wp2_with (refine⟨trivial,?_⟩;gi_at_call 141;refine(A8 _ x n _).mono ?_;rintro e w' ⟨rfl,rfl⟩)
 have bC:=Boxed.new w 28 (.slice none 0 0)
 have bX:=Boxed.new (w.alloc (.cells #[.slice none 0 0] 28)) 3 (.int .i64 x)
 have bN:=Boxed.new ((w.alloc (.cells #[.slice none 0 0] 28)).alloc (.cells #[.int .i64 x] 3)) 3 (.int .i64 n)
 simp only[World.size_alloc] at bX bN
 have hB0:Below w.heap.size w (((w.alloc (.cells #[.slice none 0 0] 28)).alloc (.cells #[.int .i64 x] 3)).alloc (.cells #[.int .i64 n] 3)):=(((Below.refl _ w).alloc (Nat.le_refl _) _).alloc (by simp) _).alloc (by simp;omega) _
 refine wpIn_rangeFunc_ownG rfl (by omega) (gf:=151) (lb:=#[.pointer (some ⟨w.heap.size+1+1,0,none⟩),.pointer (some ⟨w.heap.size+1,0,none⟩)]) rfl trivial (enters_of Tryz.func151 (by kernel_rfl) rfl)
  (sM 2 (by omega) (w.heap.size+1+1) (w.heap.size+1) x n n0 n1 _ bN.cell (bX.alloc _).cell) (fun h k=>h.trans k) (sc (by simp) (by simp)) (Below.refl _ _) (fun _=>rfl)
  (fun pre W=>((∃v,Boxed W w.heap.size 28 v∧W.ownsRow (w.heap.size+3) 3 1 v (fJ pre).length ((fJ pre).map (Value.int .i64))∧True)∧w.heap.size+3≤W.heap.size)∧Below w.heap.size w W)
  (fun _ _ _=>False)
  (OwnFrom.and (OwnFrom.and (Own.from (holdsRow_own (w.heap.size+3) w.heap.size 28 3 1 (fun pre=>(fJ pre).length) (fun pre=>(fJ pre).map (Value.int .i64)) (fun _ _=>True)) _) (Own.from (fun s A B row hs hg hr=>Nat.le_trans hs hg.size) _)) (ownFrom_below (Nat.le_refl _) (by simp;omega)))
  (fun _ _ _ _ _ hs _ _=>hs)
  ⟨⟨⟨_,(bC.alloc _).alloc _,World.ownsRow_nil _ _ _ _,trivial⟩,by simp⟩,hB0⟩
  (fun y=> { tmps:= #[.int .i64 x,.int .i64 n,undef,undef,.slice none 0 0,.pointer (some ⟨w.heap.size,0,none⟩),.int .i64 (y.1:Int),.bool y.2,.int .i64 x,.int .i64 n,.func (.func 151) #[] #[.pointer (some ⟨w.heap.size+1+1,0,none⟩),.pointer (some ⟨w.heap.size+1,0,none⟩)],.int .i64 (y.1:Int),.bool y.2,undef,undef,undef,undef,undef,undef],defers:= [] }) ?assign ?body ?done ?stop
 case assign =>
  intro l y W K hK
  gi_wp2
  exact hK
 case body =>
  rintro l pre ⟨j,b⟩ W ⟨⟨⟨v,hv,hrow,_⟩,hz⟩,hB⟩ hlt
  have hc:=hv.cell
  have hpl:=yM pre
  cases b with
  |false =>
   have HS:=hQQ (yL pre j)
   gi_wp2
   exact⟨KeepsFrom.refl _ _,eQ.refl _ _ _,⟨⟨v,hv,by rw[HS.o];exact hrow,trivial⟩,hz⟩,hB⟩
  |true =>
   have HS:=hQQ (vu pre j)
   gi_wp2_with (gi_at_builtin;refine wpListIn_append_own _ rfl _ _ 28 rfl (w.heap.size+3) 3 i0 (.int .i64 0) 1 8 Tryz.underlying28 hi hz0 hz1 hz2 rfl (by decide) _ _ _ rfl (hrow.alloc _) ⟨W.heap.size,0,none⟩ 1 1 [.int .i64 (j:Int)] rfl rfl (cell_one_new _ _ _) (by simp[Value.oneCell']) (by simp only[maxLen];omega) (by omega) (by simp;omega) ?_;intro v' w1 hown' hgrow _;obtain⟨g',cap',rfl⟩:=ownsRow_succ hown';obtain⟨hv1,hv2,hr2,hk2,hb2⟩:=hv.appended (by decide) (gm hrow (show w.heap.size≤w.heap.size+3 by omega)) hB.size (Nat.le_refl _) (gm hown' (show w.heap.size≤w.heap.size+3 by omega)) hgrow;have hc1:=hv1.cell;have hf1:=hv1.frozen)
   have hr3:=World.ownsRow.kept hown' (grownBy_setCell' w1 w.heap.size (.slice (some ⟨g',0,none⟩) ((fJ pre).length+1) cap')) (.inr (hv1.not_row (by decide) hown').symm)
   have hnb:∀b,b<w.heap.size+3→some b≠v.ownBlock:=by
    intro b hb
    rcases hrow.2 with⟨rfl,_⟩|⟨g,cap,cur,rfl,hg,_⟩
    ·simp[Value.ownBlock]
    ·simp only[Value.ownBlock,ne_eq,Option.some.injEq];omega
   have hkk:∀b,b<w.heap.size+3→b≠w.heap.size→(w1.setCell ⟨w.heap.size,0,none⟩ (.slice (some ⟨g',0,none⟩) ((fJ pre).length+1) cap')).heap[b]?=W.heap[b]? :=fun b hb hne=>by
    rw[Below.heap_setCell _ _ _ _ hne,hgrow.block b (by simp;omega) (hnb b hb),Below.heap_alloc _ _ _ (by omega)]
   exact⟨hk2.from _,⟨hkk _ (by omega) (by omega),hkk _ (by omega) (by omega)⟩,⟨⟨_,hv2,by rw[HS.o];simpa using hr3,trivial⟩,Nat.le_trans hz hb2.size⟩,hB.trans hb2⟩
 case done =>
  rintro D ys W hD rfl ⟨⟨⟨v,hv,hrow,_⟩,_⟩,hB⟩ hK
  have hc:=hv.cell
  gi_wp2
  refine⟨by simp,.inl ⟨_,_,rfl,run_takeDeferred hK,?_⟩⟩
  exact⟨_,results_tmp rfl _ _ _,v,rfl,by rw[←vv];exact ownsRow_putObj (gm hrow (by omega)) _ hK rfl,hB.trans (belowK_b (w:=w) (Nat.le_refl _) W D _ _ (by simp at hD;omega) hK rfl rfl)⟩
 case stop =>
  rintro D c pre W _ _ h _
  exact h.elim
open Go.ChangeShapes Go.WideShapes Go.ChangeAt
def szV (c:Int):Int:=if c=0 then 1 else if c=1 then 2 else if c=2 then 4 else if c=3 then 8 else if c=4 then 16 else 0
def am (c:Int):Int:=if c=0 then 32 else if c=1 then 16 else if c=2 then 8 else if c=3 then 4 else if c=4 then 2 else 0
def szT (k:Nat):Int:=2 ^ k
theorem kL {k:Nat}(h:k≤4):k=0∨k=1∨k=2∨k=3∨k=4:=by omega
theorem sN {k:Nat}(h:k<8):k=0∨k=1∨k=2∨k=3∨k=4∨k=5∨k=6∨k=7:=by omega
theorem pu {c:Int}(h:c<0∨4<c):szV c=0:=by
 unfold szV
 rw[if_neg (by omega),if_neg (by omega),if_neg (by omega),if_neg (by omega),if_neg (by omega)]
theorem lw {c:Int}(h:c<0∨4<c):am c=0:=by
 unfold am
 rw[if_neg (by omega),if_neg (by omega),if_neg (by omega),if_neg (by omega),if_neg (by omega)]
theorem A9 {k:Nat}(h:k≤4):1≤szV k∧szV k≤16:=by
 rcases kL h with rfl|rfl|rfl|rfl|rfl<;>decide
theorem iM {k:Nat}(h:k≤4):(32:Int).tdiv (szV k)=am k∧2≤am k∧am k≤32:=by
 rcases kL h with rfl|rfl|rfl|rfl|rfl<;>decide
theorem nZ {c:Int}(h:0≤c∧c≤4):am c=cU c:=by
 obtain⟨k,rfl⟩:∃k:Nat,c=k:=⟨c.toNat,by omega⟩
 rcases kL (show k≤4 by omega) with rfl|rfl|rfl|rfl|rfl<;>decide
theorem yN (c:Int):0≤am c∧am c≤32:=by unfold am; (repeat' split)<;>omega
theorem CQ {k:Nat}(h:k<5):szT k=szV k:=by
 rcases kL (show k≤4 by omega) with rfl|rfl|rfl|rfl|rfl<;>rfl
def laidL {H : Type} : List (String × DataW H) := [("assart/class.sizes", Rows.laid_assart_class_sizes)]
theorem gSizes : Tryz.prog.globalNamed "assart/class.sizes" = some 0 := by kernel_rfl
theorem CS:(Tryz.prog.globals[0]?).map (·.type)=some 28:=by kernel_rfl
theorem qM (os:Os)(args:Array Value):laidMetH Tryz.prog laidL ((World.doorLaid Tryz.prog 400 os).forCall (fun _ _=>0) ⟨#[],args,[]⟩).memory :=
 laidMetH_of_parts3 (fuel:=8) (laidMet_of_run' 8 (by kernel_rfl) (by kernel_rfl)) (by kernel_rfl) (by kernel_rfl)
def n6 (W:World):Prop:=∃b o cap,W.cell? ⟨0,0,none⟩=some (.slice (some ⟨b,o,none⟩) 8 cap)∧8≤cap∧b<W.heap.size∧∀i:Nat,i<8→W.cell? ⟨b,o+i,none⟩=some (.int .i64 (szT i))
theorem uh {W:World}(h:laidMetH Tryz.prog laidL W):n6 W:=by
 rw[MakeChecks.laidMetH_plain _ _ _ (by kernel_rfl)] at h
 obtain⟨ps,⟨g0,t0,cs0,f0,p0,q0,hg0,ht0,hv0,hd0,hrest⟩,_,_⟩:=h
 obtain rfl:=Option.some.inj (gSizes.symm.trans hg0)
 obtain rfl:=Option.some.inj (CS.symm.trans ht0)
 have hcell:=World.var?_cell hg0 hv0 0
 rcases open_ints Tryz.underlying28 Tryz.underlying3 (by kernel_rfl) hd0 with⟨_,hx⟩|⟨⟨b,o,spot⟩,len,cap,zs,hcs,_,hlc,_,hzl,hx,hc,_⟩
 ·simp[Rows.laid_assart_class_sizes] at hx
 simp only[Prod.mk.injEq,Rows.laid_assart_class_sizes,DataW.slice.injEq] at hx
 obtain⟨⟨h1,h2⟩,_⟩:=hx
 have hcap:zs.length=cap:=by simpa using hzl
 have hz:zs.take len= [1,2,4,8,16,32,64,128]:=by
  have inj:∀l:List Int,([.lit (.int .i64 1),.lit (.int .i64 2),.lit (.int .i64 4),.lit (.int .i64 8),.lit (.int .i64 16),.lit (.int .i64 32),.lit (.int .i64 64),.lit (.int .i64 128)]:List (DataW Unit))=lits .i64 l→l= [1,2,4,8,16,32,64,128]:=by
   intro l hl
   match l with
   | []=>simp[lits] at hl
   | [a]=>simp[lits] at hl
   | [a,b]=>simp[lits] at hl
   | [a,b,c]=>simp[lits] at hl
   | [a,b,c,d]=>simp[lits] at hl
   | [a,b,c,d,e]=>simp[lits] at hl
   | [a,b,c,d,e,f]=>simp[lits] at hl
   | [a,b,c,d,e,f,g]=>simp[lits] at hl
   | [a,b,c,d,e,f,g,h]=>simp[lits] at hl;simp;omega
   |a::b::c::d::e::f::g::h::i::r=>simp[lits] at hl
  exact inj _ h1
 have hlen:len=8:=by
  have:=congrArg List.length hz
  simp at this
  omega
 subst hlen
 have hall:∀i:Nat,i<8→zs.getD i 0=szT i:=by
  intro i hi
  have h3:(zs.take 8).getD i 0=([1,2,4,8,16,32,64,128]:List Int).getD i 0:=by rw[hz]
  have h4:(zs.take 8).getD i 0=zs.getD i 0:=by simp[List.getD,List.getElem?_take,hi]
  rw[←h4,h3]
  rcases sN hi with rfl|rfl|rfl|rfl|rfl|rfl|rfl|rfl<;>rfl
 have hlz:8≤zs.length:=by omega
 have hspot:spot=none:=by simpa [Addr.add] using World.cell?_spot (hc 0 (by omega))
 subst hspot
 have hcells:∀i:Nat,i<8→W.cell? ⟨b,o+i,none⟩=some (.int .i64 (szT i)):=fun i hi=>by
  rw[←fy,hc i (by omega),hall i hi]
 refine⟨b,o,cap,?_,by omega,dT (hcells 0 (by omega)),hcells⟩
 rw[hcell]
 have:cs0= #[.slice (some ⟨b,o,none⟩) 8 cap]:=by cases cs0;simpa using hcs
 rw[this];rfl
theorem pw (c:Int)(w:World)(h:n6 w):Calls Tryz.prog 116 #[.int .i64 c] w fun e w'=>e=.returned (.int .i64 (szV c))∧w'=w:=by
 by_cases hc:0≤c∧c<5
 ·obtain⟨k,rfl⟩:∃k:Nat,c=k:=⟨c.toNat,by omega⟩
  obtain⟨b,o,cap,h1,h2,h3,h4⟩:=h
  have hk:k<5:=by omega
  have x1:=h4 k (by omega)
  rw[CQ hk] at x1
  have d0:decide ((k:Int)<0)=false:=by simp
  have d1:decide ((5:Int)≤(k:Int))=false:=by simp;omega
  have d1b:decide (5≤k)=false:=by simp;omega
  have d2:(k:Int)<8:=by omega
  have d3:k<8:=by omega
  clear h4 hc
  go_enter Tryz.func116,Tryz.ntmps116
  go_wp2_with fail
  go_ret
  exact⟨rfl,rfl⟩
 ·rw[pu (by omega)]
  by_cases c0:c<0
  ·have d0:decide (c<0)=true:=by simp;omega
   go_enter Tryz.func116,Tryz.ntmps116
   go_wp2_with fail
   go_ret
   exact⟨rfl,rfl⟩
  ·have d0:decide (c<0)=false:=by simp;omega
   have d1:decide (5≤c)=true:=by simp;omega
   go_enter Tryz.func116,Tryz.ntmps116
   go_wp2_with fail
   go_ret
   exact⟨rfl,rfl⟩
theorem yO (c:Int)(w:World)(h:n6 w):Calls Tryz.prog 117 #[.int .i64 c] w fun e w'=>e=.returned (.int .i64 (am c))∧w'=w:=by
 by_cases hc:0≤c∧c<5
 ·obtain⟨k,rfl⟩:∃k:Nat,c=k:=⟨c.toNat,by omega⟩
  have hk:k≤4:=by omega
  have sb:=A9 hk
  obtain⟨s1,s2,s3⟩:=iM hk
  have d2:(szV k==0)=false:=by simp;omega
  have q0:IntKind.i64.wrap ((32:Int).tdiv (szV k))=am k:=by rw[s1];exact aj (by omega) (by omega)
  clear s1 hc
  go_enter Tryz.func117,Tryz.ntmps117
  go_wp2_with fail
  refine(pw _ _ h).mono ?_
  rintro e w1 ⟨rfl,rfl⟩
  go_wp2_with fail
  go_ret
  exact⟨rfl,rfl⟩
 ·have HK:Hq (∀W,n6 W→Calls Tryz.prog 116 #[.int .i64 c] W fun e w'=>e=.returned (.int .i64 0)∧w'=W):=fun W hW=>by
   have:=pw c W hW
   rwa [pu (by omega)] at this
  rw[lw (by omega)]
  go_enter Tryz.func117,Tryz.ntmps117
  go_wp2_with fail
  refine(HK.o _ h).mono ?_
  rintro e w1 ⟨rfl,rfl⟩
  go_wp2_with fail
  go_ret
  exact⟨rfl,rfl⟩
open Go.Sort Go.Maps
def gK (b:Nat)(W:World):Prop:=∃o cap,W.cell? ⟨0,0,none⟩=some (.slice (some ⟨b,o,none⟩) 8 cap)∧8≤cap∧b<W.heap.size∧∀i:Nat,i<8→W.cell? ⟨b,o+i,none⟩=some (.int .i64 (szT i))
theorem gK.lt {b:Nat}{w:World}(h:gK b w):b<w.heap.size:=by obtain⟨_,_,_,_,h,_⟩:=h;exact h
theorem gK.lt0 {b:Nat}{w:World}(h:gK b w):0<w.heap.size:=by obtain⟨_,_,h,_⟩:=h;exact dT h
theorem gK.keep {b:Nat}{w w':World}{S:Nat→Prop}(h:gK b w)(t:Turned S w w')(n0:¬S 0)(nb:¬S b):gK b w':=by
 have hc:∀k,¬S k→∀j v,w.cell? ⟨k,j,none⟩=some v→w'.cell? ⟨k,j,none⟩=some v:=fun k nk j v q=>by
  rw[World.cell?_of_block (w:=w) (t.block k (dT q) nk)];exact q
 obtain⟨o,cap,h1,h2,h3,h4⟩:=h
 exact⟨o,cap,hc _ n0 _ _ h1,h2,Nat.lt_of_lt_of_le h3 t.size,fun i hi=>hc _ nb _ _ (h4 i hi)⟩
theorem gK.more {b:Nat}{w w':World}(h:gK b w)(t:ac w w'):gK b w':=h.keep t (fun q=>q) (fun q=>q)
theorem dV (k:Int):0≤am k∧am k≤32:=by unfold am; (repeat' split)<;>omega
def sO (pg st k:Int):Prg Int:=if am k=0 then aL (-1) else aJ (ms pg st k (am k).toNat 1) fun x=>if x= -1 then aJ (sE pg st 1 1) fun y=>aJ (po pg st y 1 (k+1)) fun b=>aL (if b then y else -1) else aL x
theorem fS {k:Int}(h:am k≠0):0≤k∧k≤4:=by unfold am at h; (repeat' split at h)<;>first|omega|exact absurd rfl h
theorem DJ:W64 1:=by unfold W64;omega
def el (k b:Int):Int:=am k-fC b (am k)
def px (pg st q k b:Int):Prg Unit:=if el k b=am k then aJ (yt pg st q) (fun _=>aL ()) else aJ (en (bA pg st q) b) fun _=>aJ (en (cA pg st q) (el k b)) fun _=>aL ()
def sP (pg st q k was:Int):Prg Unit:=aJ (kJ pg st q k was) fun _=>aJ (dE (cA pg st q)) fun f=>aJ (pp pg st q k f) fun _=>aL ()
theorem DK (b k:Int):0≤fC b (am k)∧fC b (am k)≤32∧0≤el k b∧el k b≤32:=by
 have h:=CN (dl b (dR (am k)))
 rw[yK,lu] at h
 have hs:=dV k
 have he:(dR (am k):Int)=am k:=by unfold dR;omega
 unfold el
 omega
section
variable {ops:Array Oper}{C:World→Prop}{o':Oper}{a:Act}{x y:Operand}
end
def Cfg.us (c:Cfg):Int:=cT c.cp c.pg c.st c.ca c.bi
section
variable {o:Oper}{a:Act}{w:World}{K:Act→World→Prop}{Q:Exit→Act→World→Prop}{ops:Array Oper}{rest:List Oper}{C:World→Prop}
end
abbrev TkA:=Option (Int×Int×Int×Bool)
theorem Ba {us pg a:Int}(h:us≤a∧a<us+32 * pg):ah pg ((a-us) / 32)=true∧0≤(a-us) % 32∧(a-us) % 32<32:=⟨ai.2 (by omega),by omega,by omega⟩
theorem vw (b:BitVec 64):W64 b.toInt:=by
 have h1:=BitVec.toInt_lt (x:=b)
 have h2:=BitVec.le_toInt (x:=b)
 unfold W64;omega
theorem Bb {b:Int}(h:W64 b)(i:Int):W64 (dQ b i):=by
 unfold dQ;split
 ·exact vw _
 ·exact h
def ui:TkA→Option (Int×Int×Int)
 |some (q,k,i,true)=>some (q,k,i)
 | _=>none
theorem sQ {x:TkA}{q k i:Int}(h:ui x=some (q,k,i)):x=some (q,k,i,true):=by
 unfold ui at h
 split at h
 ·cases h;rfl
 ·cases h
def DL (us pg st k:Int):Prg (Int×Bool):=
 aJ (sO pg st k) fun q=>if q= -1 then aL (0,false) else aJ (dE (bA pg st q)) fun b =>
  if co b (am k)= -1 then aL (0,false) else aJ (dE (cA pg st q)) fun was =>
   aJ (px pg st q k (dQ b (co b (am k)))) fun _=>aJ (sP pg st q k was) fun _=>aL (us+32 * q+co b (am k) * szV k,true)
section
variable {pg st:Int}{n:Nat}(H:dh pg st n)
include H
end
def aE (pg st:Int)(ws:List Int)(p:Int):Int:=if ah pg p then wAt ws (kA pg st p) else -1
def bH (pg st:Int)(ws:List Int)(p:Int):Int:=wAt ws (cA pg st p)
def cE (pg st:Int)(ws:List Int)(p:Int):Int:=wAt ws (bA pg st p)
def bO (pg st p k x:Int)(ws:List Int):List Int:=((ws.set (kA pg st p).toNat k).set (cA pg st p).toNat x).set (bA pg st p).toNat 0
def mw (pg st:Int):Nat→Int→List Int→Bool
 | 0,_,_=>true
 |m+1,q,ws=>decide (aE pg st ws q=0) && mw pg st m (q+1) ws
def jh (pg st p n:Int)(ws:List Int):Bool:=aV pg p n && mw pg st n.toNat p ws
def cQ (pg st k:Int):Nat→Int→List Int→List Int
 | 0,_,ws=>ws
 |m+1,q,ws=>cQ pg st k m (q+1) (bO pg st q k 0 ws)
def dF (pg st p n k:Int)(ws:List Int):Bool×List Int:=if qI k n && jh pg st p n ws then(true,cQ pg st 7 (n-1).toNat (p+1) (bO pg st p k (if k=6 then n else 0) (ci pg st p n ws).2)) else(false,ws)
def nw (pg st p:Int)(ws:List Int):Int:=if vo (aE pg st ws p) then 1 else if aE pg st ws p=6 then max 1 (min (bH pg st ws p) (pg-p)) else 0
def Ce (pg st p:Int)(ws:List Int):Int×List Int:=(nw pg st p ws,cQ pg st 0 (nw pg st p ws).toNat p ws)
def dr (pg st:Int)(ws:List Int)(q:Int):Bool:=aF pg st ws (ofV q) && decide (aE pg st ws q=0)
def eD (pg st:Int)(ws:List Int)(q:Int):Bool:=decide (aE pg st ws q=0)
def js (f:Int→Bool):Nat→Int→Option Int
 | 0,_=>none
 |m+1,q=>if f q then js f m (q+1) else some q
def j4 (f:Int→Bool)(pg n step:Int):Nat→Int→Int
 | 0,_=> -1
 |m+1,p=>if p≤pg-n then(match js f n.toNat p with|none=>p|some q=>j4 f pg n step m ((q / step+1) * step)) else -1
def bQ (f:Int→Bool)(pg n step:Int):Int:=j4 f pg n step (pg.toNat+1) 0
def dm (pg st n step:Int)(ws:List Int):Int:=if 1≤n∧1≤step then(if bQ (dr pg st ws) pg n step= -1 then bQ (eD pg st ws) pg n step else bQ (dr pg st ws) pg n step) else -1
section
variable {pg st:Int}{n:Nat}(H:PgIn pg st n)
include H
theorem jb (p:Int):bL n (ff pg st p) (fun ws=>(aE pg st ws p,ws)):=by
 unfold ff aE
 cases h:ah pg p with
 |true=>exact bg (cZ (by have:=(cH H h).1.1;omega) (cH H h).1.2.1) (fun ws _=>by simp)
 |false=>exact bg (az n (-1)) (fun ws _=>by simp)
theorem qN {p:Int}(h:ah pg p=true){k x:Int}(hk:W64 k)(hx:W64 x):bL n (yo pg st p k x) (fun ws=>((),bO pg st p k x ws)):=by
 obtain⟨⟨a0,a1,a2⟩,⟨b0,b1,b2⟩,c0,c1,c2⟩:=cH H h
 exact aC (cI (by omega) a1 a2 hk) (fun _=>aC (cI (by omega) b1 b2 hx) (fun _=>cI (by omega) c1 c2 (by unfold W64;omega)))
theorem vx (m:Nat):∀q,bL n (yp pg st m q) (fun ws=>(mw pg st m q ws,ws)):=by
 induction m with
 |zero=>intro q;exact az n true
 |succ m ih =>
  intro q
  refine bg (aC (jb H q) (fun k=>bU (fun _=>ih (q+1)) (fun _=>az n false))) (fun ws _=>?_)
  show _=(decide (aE pg st ws q=0) && mw pg st m (q+1) ws,ws)
  by_cases e:aE pg st ws q=0<;>simp[e]
theorem yP (p m:Int):bL n (yq pg st p m) (fun ws=>(jh pg st p m ws,ws)):=by
 refine bg (bU (fun _=>vx H m.toNat p) (fun _=>az n false)) (fun ws _=>?_)
 unfold jh
 cases aV pg p m<;>simp
theorem n7 {k:Int}(hk:W64 k)(m:Nat):∀q,(∀i:Nat,i<m→ah pg (q+i)=true)→bL n (ua pg st k m q) (fun ws=>((),cQ pg st k m q ws)):=by
 induction m with
 |zero=>intro q _;exact az n ()
 |succ m ih =>
  intro q h
  exact aC (qN H (by simpa using h 0 (by omega)) hk (by unfold W64;omega)) (fun _=>ih _ (fun i hi=>by have:=h (i+1) (by omega);rwa [show q+((i+1:Nat):Int)=q+1+(i:Int) by omega] at this))
theorem vy (p m k:Int)(hk:W64 k)(hm:W64 m):bL n (po pg st p m k) (dF pg st p m k):=by
 unfold po
 have hx:W64 (if k=6 then m else 0):=by
  split
  ·exact hm
  ·unfold W64;omega
 cases h:aV pg p m with
 |false =>
  unfold yq
  rw[h]
  have z:bL n (aL false) (dF pg st p m k):=bg (az n false) (fun ws _=>by
   unfold dF jh
   rw[h]
   simp)
  by_cases hf:qI k m=true
  ·rw[if_pos hf];exact z
  ·rw[if_neg hf];exact z
 |true =>
  obtain⟨q0,q1,q2⟩:=bx.1 h
  refine bg (bU (fun _=>aC (yP H p m) (fun b=>bU (fun _=>aC (qG H.toTblIn p m) (fun _=>aC (qN H (ai.2 ⟨by omega,by omega⟩) hk hx) (fun _=>aC (n7 H (by unfold W64;omega) (m-1).toNat (p+1) (fun i hi=>ai.2 ⟨by omega,by omega⟩)) (fun _=>az n true)))) (fun _=>az n false))) (fun _=>az n false)) (fun ws _=>?_)
  unfold dF
  by_cases hf:qI k m=true<;>by_cases hv:jh pg st p m ws=true<;>simp[hf,hv]
theorem yQ (p:Int):bL n (yr pg st p) (fun ws=>(nw pg st p ws,ws)):=by
 cases h:ah pg p with
 |true =>
  obtain⟨_,⟨b0,b1,_⟩,_⟩:=cH H h
  refine bg (aC (jb H p) (fun k=>bU (fun _=>az n 1) (fun _=>bU (fun _=>aC (cZ (a:=cA pg st p) (by omega) b1) (fun x=>az n (max 1 (min x (pg-p))))) (fun _=>az n 0)))) (fun ws _=>?_)
  unfold nw bH
  by_cases e:vo (aE pg st ws p)=true
  ·simp only[if_pos e]
  ·by_cases e2:aE pg st ws p=6
   ·simp only[if_neg e,if_pos e2]
   ·simp only[if_neg e,if_neg e2]
 |false =>
  unfold yr ff
  rw[h]
  refine bg (az n (0:Int)) (fun ws _=>?_)
  unfold nw aE
  rw[h];rfl
theorem DM (p:Int)(ws:List Int):nw pg st p ws=0∨ah pg p=true∧1≤nw pg st p ws∧nw pg st p ws≤pg-p:=by
 cases h:ah pg p with
 |true =>
  have:=ai.1 h
  unfold nw
  by_cases e:vo (aE pg st ws p)=true
  ·rw[if_pos e];exact .inr ⟨rfl,by omega,by omega⟩
  ·by_cases e2:aE pg st ws p=6
   ·rw[if_neg e,if_pos e2];exact .inr ⟨rfl,by omega,by omega⟩
   ·rw[if_neg e,if_neg e2];exact .inl rfl
 |false =>
  refine .inl ?_
  unfold nw aE
  rw[h];rfl
theorem vz (p:Int):bL n (yt pg st p) (Ce pg st p):=
 bg (fg (Q:=fun x:Int=>x=0∨ah pg p=true∧1≤x∧x≤pg-p) (yQ H p) (fun ws _=>DM H p ws) (fun x hx=>aC (n7 H (by unfold W64;omega) x.toNat p (fun i hi=>by
  rcases hx with rfl|⟨h,h1,h2⟩
  ·simp at hi
  ·have:=ai.1 h;exact ai.2 ⟨by omega,by omega⟩)) (fun _=>az n x))) (fun ws _=>rfl)
theorem n8 (q:Int):bL n (sB pg st q) (fun ws=>(eD pg st ws q,ws)):=aC (jb H q) (fun k=>az n (decide (k=0)))
theorem vB (q:Int):bL n (yu pg st q) (fun ws=>(dr pg st ws q,ws)):=by
 refine bg (aC (iI H.toTblIn (ofV q)) (fun b=>bU (fun _=>n8 H q) (fun _=>az n false))) (fun ws _=>?_)
 unfold dr eD
 by_cases e:aF pg st ws (ofV q)=true<;>simp[e]
theorem sR {f:Int→Prg Bool}{g:List Int→Int→Bool}(hf:∀q,bL n (f q) (fun ws=>(g ws q,ws)))(m:Nat):∀q,bL n (sC f m q) (fun ws=>(js (g ws) m q,ws)):=by
 induction m with
 |zero=>intro q;exact az n none
 |succ m ih =>
  intro q
  refine bg (aC (hf q) (fun b=>bU (fun _=>ih (q+1)) (fun _=>az n (some q)))) (fun ws _=>?_)
  show _=((if g ws q then js (g ws) m (q+1) else some q),ws)
  by_cases e:g ws q=true<;>simp[e]
theorem my {f:Int→Prg Bool}{g:List Int→Int→Bool}(hf:∀q,bL n (f q) (fun ws=>(g ws q,ws)))(m step:Int)(j:Nat):∀p,bL n (sD f pg m step j p) (fun ws=>(j4 (g ws) pg m step j p,ws)):=by
 induction j with
 |zero=>intro p;exact az n (-1)
 |succ j ih =>
  intro p
  refine bg (bU (fun _=>aC (sR H hf m.toNat p) (fun r=>(?_:bL n _ (fun ws=>((match r with|none=>p|some q=>j4 (g ws) pg m step j ((q / step+1) * step)),ws))))) (fun _=>az n (-1))) (fun ws _=>?_)
  ·cases r with
   |none=>exact az n p
   |some q=>exact ih _
  ·show _=((if p≤pg-m then(match js (g ws) m.toNat p with|none=>p|some q=>j4 (g ws) pg m step j ((q / step+1) * step)) else -1),ws)
   by_cases e:p≤pg-m<;>simp[e]
theorem vC (m step:Int):bL n (sE pg st m step) (fun ws=>(dm pg st m step ws,ws)):=by
 refine bg (bU (fun _=>aC (my H (vB H) m step (pg.toNat+1) 0) (fun p=>bU (fun _=>my H (n8 H) m step (pg.toNat+1) 0) (fun _=>az n p))) (fun _=>az n (-1))) (fun ws _=>?_)
 unfold dm bQ
 by_cases e:1≤m∧1≤step
 ·simp only[if_pos e]
  by_cases e2:j4 (dr pg st ws) pg m step (pg.toNat+1) 0= -1
  ·simp only[if_pos e2]
  ·simp only[if_neg e2]
 ·simp only[if_neg e]
end
theorem fO {pg st:Int}{ws:List Int}{p:Int}(h:ah pg p=true):aE pg st ws p=wAt ws (kA pg st p):=by unfold aE;rw[h];rfl
theorem dA {pg st:Int}{ws:List Int}{p:Int}(h:ah pg p=false):aE pg st ws p= -1:=by unfold aE;rw[h];rfl
theorem py {pg st:Int}{ws:List Int}{p:Int}(h:aE pg st ws p≠ -1):0≤p∧p<pg:=by
 cases e:ah pg p with
 |true=>exact ai.1 e
 |false=>exact absurd (dA e) h
section
variable {pg st:Int}{n:Nat}(H:PgIn pg st n)
include H
theorem cg (p k x:Int)(ws:List Int):(bO pg st p k x ws).length=ws.length:=by simp[bO]
theorem d9 {p:Int}(h:ah pg p=true)(k x:Int){ws:List Int}(hn:ws.length=n){i:Int}(hi:0≤i):wAt (bO pg st p k x ws) i=if i=bA pg st p then 0 else if i=cA pg st p then x else if i=kA pg st p then k else wAt ws i:=by
 obtain⟨⟨a0,a1,a2⟩,⟨b0,b1,b2⟩,c0,c1,c2⟩:=cH H h
 unfold bO
 rw[bo (by omega) hi (by simp[hn];exact c1),bo (by omega) hi (by simp[hn];exact b1),bo (by omega) hi (by rw[hn];exact a1)]
theorem iO {k p:Int}(hk:aP pg k=true)(h:ah pg p=true):ce pg st k≠kA pg st p∧ce pg st k≠cA pg st p∧ce pg st k≠bA pg st p:=by
 have:=bz.1 hk;have:=ai.1 h;have:=H.pg1
 rw[gA hk];unfold kA cA bA;omega
theorem n9 {p:Int}(h:ah pg p=true)(k x:Int){ws:List Int}(hn:ws.length=n)(q:Int):aE pg st (bO pg st p k x ws) q=if q=p then k else aE pg st ws q:=by
 cases hq:ah pg q with
 |false =>
  rw[dA hq,dA hq,if_neg (by rintro rfl;rw[h] at hq;cases hq)]
 |true =>
  have h0:=(cH H hq).1.1
  have:=ai.1 h;have:=ai.1 hq
  rw[fO hq,fO hq,d9 H h k x hn (by omega),if_neg (by unfold kA bA;omega),if_neg (by unfold kA cA;omega)]
  by_cases e:q=p
  ·rw[if_pos e,if_pos (by rw[e])]
  ·rw[if_neg e,if_neg (by unfold kA;omega)]
theorem qO {p:Int}(h:ah pg p=true)(k x:Int){ws:List Int}(hn:ws.length=n){q:Int}(hq:ah pg q=true):bH pg st (bO pg st p k x ws) q=if q=p then x else bH pg st ws q:=by
 have h0:=(cH H hq).2.1.1
 have:=ai.1 h;have:=ai.1 hq
 unfold bH
 rw[d9 H h k x hn (by omega),if_neg (by unfold cA bA;omega)]
 by_cases e:q=p
 ·rw[if_pos e,if_pos (by rw[e])]
 ·rw[if_neg e,if_neg (by unfold cA;omega),if_neg (by unfold cA kA;omega)]
theorem qQ {p:Int}(h:ah pg p=true)(k x:Int){ws:List Int}(hn:ws.length=n){q:Int}(hq:ah pg q=true):cE pg st (bO pg st p k x ws) q=if q=p then 0 else cE pg st ws q:=by
 have h0:=(cH H hq).2.2.1
 have:=ai.1 h;have:=ai.1 hq
 unfold cE
 rw[d9 H h k x hn (by omega)]
 by_cases e:q=p
 ·rw[if_pos e,if_pos (by rw[e])]
 ·rw[if_neg e,if_neg (by unfold bA;omega),if_neg (by unfold cA bA;omega),if_neg (by unfold bA kA;omega)]
theorem qR {p:Int}(h:ah pg p=true)(k x:Int){ws:List Int}(hn:ws.length=n)(j:Int):aF pg st (bO pg st p k x ws) j=aF pg st ws j:=by
 unfold aF
 cases hj:aP pg j with
 |false=>rfl
 |true =>
  have h0:=(iw H.toTblIn hj).1
  obtain⟨t0,t1,t2⟩:=iO H hj h
  rw[d9 H h k x hn (by omega),if_neg t2,if_neg t1,if_neg t0]
theorem qS (k:Int)(m:Nat):∀(q:Int) (ws:List Int),(cQ pg st k m q ws).length=ws.length:=by
 induction m with
 |zero=>intro q ws;rfl
 |succ m ih=>intro q ws;show(cQ pg st k m (q+1) _).length=_;rw[ih,cg H]
theorem fj {m:Nat}{q:Int}(h:∀i:Nat,i<m+1→ah pg (q+i)=true):ah pg q=true∧∀i:Nat,i<m→ah pg (q+1+i)=true :=
 ⟨by simpa using h 0 (by omega),fun i hi=>by have:=h (i+1) (by omega);rwa [show q+((i+1:Nat):Int)=q+1+(i:Int) by omega] at this⟩
theorem vD (k:Int)(m:Nat):∀(q:Int) (ws:List Int),ws.length=n→(∀i:Nat,i<m→ah pg (q+i)=true)→∀p,aE pg st (cQ pg st k m q ws) p=if q≤p∧p<q+m then k else aE pg st ws p:=by
 induction m with
 |zero=>intro q ws _ _ p;rw[if_neg (by omega)];rfl
 |succ m ih =>
  intro q ws hn h p
  obtain⟨h0,h1⟩:=fj H h
  show aE pg st (cQ pg st k m (q+1) (bO pg st q k 0 ws)) p=_
  rw[ih _ _ (by rw[cg H];exact hn) h1,n9 H h0 k 0 hn]
  by_cases e:p=q
  ·rw[if_neg (by omega),if_pos e,if_pos (by omega)]
  ·rw[if_neg e]
   by_cases e2:q+1≤p∧p<q+1+(m:Int)
   ·rw[if_pos e2,if_pos (by omega)]
   ·rw[if_neg e2,if_neg (by omega)]
theorem yR (k:Int)(m:Nat):∀(q:Int) (ws:List Int),ws.length=n→(∀i:Nat,i<m→ah pg (q+i)=true)→∀p,ah pg p=true→bH pg st (cQ pg st k m q ws) p=if q≤p∧p<q+m then 0 else bH pg st ws p:=by
 induction m with
 |zero=>intro q ws _ _ p _;rw[if_neg (by omega)];rfl
 |succ m ih =>
  intro q ws hn h p hp
  obtain⟨h0,h1⟩:=fj H h
  show bH pg st (cQ pg st k m (q+1) (bO pg st q k 0 ws)) p=_
  rw[ih _ _ (by rw[cg H];exact hn) h1 p hp,qO H h0 k 0 hn hp]
  by_cases e:p=q
  ·rw[if_neg (by omega),if_pos e,if_pos (by omega)]
  ·rw[if_neg e]
   by_cases e2:q+1≤p∧p<q+1+(m:Int)
   ·rw[if_pos e2,if_pos (by omega)]
   ·rw[if_neg e2,if_neg (by omega)]
theorem yS (k:Int)(m:Nat):∀(q:Int) (ws:List Int),ws.length=n→(∀i:Nat,i<m→ah pg (q+i)=true)→∀p,ah pg p=true→cE pg st (cQ pg st k m q ws) p=if q≤p∧p<q+m then 0 else cE pg st ws p:=by
 induction m with
 |zero=>intro q ws _ _ p _;rw[if_neg (by omega)];rfl
 |succ m ih =>
  intro q ws hn h p hp
  obtain⟨h0,h1⟩:=fj H h
  show cE pg st (cQ pg st k m (q+1) (bO pg st q k 0 ws)) p=_
  rw[ih _ _ (by rw[cg H];exact hn) h1 p hp,qQ H h0 k 0 hn hp]
  by_cases e:p=q
  ·rw[if_neg (by omega),if_pos e,if_pos (by omega)]
  ·rw[if_neg e]
   by_cases e2:q+1≤p∧p<q+1+(m:Int)
   ·rw[if_pos e2,if_pos (by omega)]
   ·rw[if_neg e2,if_neg (by omega)]
theorem yT (k:Int)(m:Nat):∀(q:Int) (ws:List Int),ws.length=n→(∀i:Nat,i<m→ah pg (q+i)=true)→∀j,aF pg st (cQ pg st k m q ws) j=aF pg st ws j:=by
 induction m with
 |zero=>intro q ws _ _ j;rfl
 |succ m ih =>
  intro q ws hn h j
  obtain⟨h0,h1⟩:=fj H h
  show aF pg st (cQ pg st k m (q+1) (bO pg st q k 0 ws)) j=_
  rw[ih _ _ (by rw[cg H];exact hn) h1 j,qR H h0 k 0 hn]
theorem yU (k:Int)(m:Nat):∀(q:Int) (ws:List Int),ws.length=n→(∀i:Nat,i<m→ah pg (q+i)=true)→∀i,0≤i→(∀p,ah pg p=true→i≠kA pg st p∧i≠cA pg st p∧i≠bA pg st p)→wAt (cQ pg st k m q ws) i=wAt ws i:=by
 induction m with
 |zero=>intro q ws _ _ i _ _;rfl
 |succ m ih =>
  intro q ws hn h i hi ho
  obtain⟨h0,h1⟩:=fj H h
  obtain⟨o1,o2,o3⟩:=ho q h0
  show wAt (cQ pg st k m (q+1) (bO pg st q k 0 ws)) i=_
  rw[ih _ _ (by rw[cg H];exact hn) h1 i hi ho,d9 H h0 k 0 hn hi,if_neg o3,if_neg o2,if_neg o1]
end
structure Tab (pg st:Int)(ws ws':List Int):Prop where
 len:ws'.length=ws.length
 off:∀i:Int,0≤i→(∀k,aP pg k=true→i≠ce pg st k)→wAt ws' i=wAt ws i
section
variable {pg st:Int}{n:Nat}(H:PgIn pg st n)
include H
theorem Tab.kind {ws ws':List Int}(h:Tab pg st ws ws')(p:Int):aE pg st ws' p=aE pg st ws p:=by
 cases hp:ah pg p with
 |false=>rw[dA hp,dA hp]
 |true=>rw[fO hp,fO hp,h.off _ (by have:=(cH H hp).1.1;omega) (fun k hk e=>(iO H hk hp).1 e.symm)]
theorem Tab.cnt {ws ws':List Int}(h:Tab pg st ws ws'){p:Int}(hp:ah pg p=true):bH pg st ws' p=bH pg st ws p :=
 h.off _ (by have:=(cH H hp).2.1.1;omega) (fun k hk e=>(iO H hk hp).2.1 e.symm)
theorem Tab.bit {ws ws':List Int}(h:Tab pg st ws ws'){p:Int}(hp:ah pg p=true):cE pg st ws' p=cE pg st ws p :=
 h.off _ (by have:=(cH H hp).2.2.1;omega) (fun k hk e=>(iO H hk hp).2.2 e.symm)
theorem mz {x y:Int}(ht:aV pg x y=true){ws:List Int}(hn:ws.length=n):lB ws (ci pg st x y ws).2 (fun i=>∃j:Nat,j<spanV x y∧i=ce pg st (x / 4+j)):=by
 have h2:=ls H.toTblIn (spanV x y) (x / 4) 0 ws ws (fun _=>False) hn (kI ws _ (fun _ q=>q)) (fun i hi=>lI ht i hi)
 unfold ci
 rw[if_pos ht]
 exact⟨h2.len,fun i h0=>⟨fun q=>(h2.eq i h0).1 (.inr q),fun q=>(h2.eq i h0).2 (by rintro(r|r);exact r;exact q r)⟩⟩
theorem uj {x y:Int}(ht:aV pg x y=true){ws:List Int}(hn:ws.length=n):Tab pg st ws (ci pg st x y ws).2 :=
 ⟨(mz H ht hn).len,fun i h0 ho=>((mz H ht hn).eq i h0).2 (by rintro⟨j,hj,e⟩;exact ho _ (lI ht j hj) e)⟩
theorem Bc {x y:Int}(ht:aV pg x y=true){ws:List Int}(hn:ws.length=n){j:Int}(hj:aP pg j=true):aF pg st (ci pg st x y ws).2 j=(aF pg st ws j ||(decide (x / 4≤j) && decide (j≤(x+y-1) / 4))):=by
 have h:=mz H ht hn
 obtain⟨t0,t1,t2⟩:=iw H.toTblIn hj
 obtain⟨s1,s2⟩:=sf ht H.pg2
 unfold aF
 rw[hj]
 by_cases e:x / 4≤j∧j≤(x+y-1) / 4
 ·rw[(h.eq _ (by omega)).1 ⟨(j-x / 4).toNat,by omega,by congr 1;omega⟩]
  simp[e]
 ·rw[(h.eq _ (by omega)).2 (by
   rintro⟨i,hi,q⟩
   have hc:=lI ht i hi
   rw[gA hj,gA hc] at q
   omega)]
  by_cases e1:x / 4≤j
  ·have:¬j≤(x+y-1) / 4:=fun q=>e ⟨e1,q⟩
   simp[this]
  ·simp[e1]
end
structure Wf (pg st:Int)(ws:List Int):Prop where
 b:∀p,ah pg p=true→0≤aE pg st ws p∧aE pg st ws p≤7
 rest:∀p,aE pg st ws p=7→aE pg st ws (p-1)=6∨aE pg st ws (p-1)=7
 run:∀p,aE pg st ws p=6→1≤bH pg st ws p∧bH pg st ws p≤pg-p∧(∀i,p<i→i<p+bH pg st ws p→aE pg st ws i=7)∧aE pg st ws (p+bH pg st ws p)≠7
 free:∀p,aE pg st ws p=0→bH pg st ws p=0∧cE pg st ws p=0
 map:∀p,ah pg p=true→aE pg st ws p≠0→aF pg st ws (p / 4)=true
theorem vE (pg st:Int)(ws:List Int)(m:Nat):∀q:Int,mw pg st m q ws=true↔∀i:Int,q≤i→i<q+m→aE pg st ws i=0:=by
 induction m with
 |zero=>intro q;simp only[mw,true_iff];intro i h0 h1;omega
 |succ m ih =>
  intro q
  show(decide (aE pg st ws q=0) && mw pg st m (q+1) ws)=true↔_
  rw[Bool.and_eq_true,decide_eq_true_eq,ih]
  constructor
  ·rintro⟨h0,h1⟩ i a0 a1
   by_cases e:i=q
   ·rw[e];exact h0
   ·exact h1 i (by omega) (by omega)
  ·intro h
   exact⟨h q (by omega) (by omega),fun i a0 a1=>h i (by omega) (by omega)⟩
theorem gg {pg st p n:Int}{ws:List Int} :jh pg st p n ws=true↔aV pg p n=true∧∀i:Int,p≤i→i<p+n→aE pg st ws i=0:=by
 unfold jh
 rw[Bool.and_eq_true,vE]
 constructor
 ·rintro⟨h0,h1⟩
  obtain⟨a,b,c⟩:=bx.1 h0
  exact⟨h0,fun i a0 a1=>h1 i a0 (by omega)⟩
 ·rintro⟨h0,h1⟩
  exact⟨h0,fun i a0 a1=>h1 i a0 (by obtain⟨a,b,c⟩:=bx.1 h0;omega)⟩
theorem qT {pg p:Int}(h:ah pg p=true):aP pg (p / 4)=true:=by
 have:=ai.1 h
 rw[bz];unfold aA;omega
section
variable {pg st:Int}{n:Nat}(H:PgIn pg st n)
include H
structure yV (pg st p m k:Int)(ws ws':List Int):Prop where
 len:ws'.length=ws.length
 kind:∀q,aE pg st ws' q=if q=p then k else if p<q∧q<p+m then 7 else aE pg st ws q
 cnt:∀q,ah pg q=true→bH pg st ws' q=if q=p then(if k=6 then m else 0) else if p<q∧q<p+m then 0 else bH pg st ws q
 bit:∀q,ah pg q=true→cE pg st ws' q=if p≤q∧q<p+m then 0 else cE pg st ws q
 map:∀j,aP pg j=true→aF pg st ws' j=(aF pg st ws j ||(decide (p / 4≤j) && decide (j≤(p+m-1) / 4)))
 off:∀i:Int,0≤i→(∀p,ah pg p=true→i≠kA pg st p∧i≠cA pg st p∧i≠bA pg st p)→(∀k,aP pg k=true→i≠ce pg st k)→wAt ws' i=wAt ws i
theorem vF {p m k:Int}{ws:List Int}(hn:ws.length=n)(ht:aV pg p m=true):yV pg st p m k ws (cQ pg st 7 (m-1).toNat (p+1) (bO pg st p k (if k=6 then m else 0) (ci pg st p m ws).2)):=by
 obtain⟨t0,t1,t2⟩:=bx.1 ht
 have T:=uj H ht hn
 have hE:(ci pg st p m ws).2.length=n:=T.len.trans hn
 have hp:ah pg p=true:=ai.2 ⟨by omega,by omega⟩
 have hP:(bO pg st p k (if k=6 then m else 0) (ci pg st p m ws).2).length=n:=by rw[cg H];exact hE
 have hr:∀i:Nat,i<(m-1).toNat→ah pg (p+1+i)=true:=fun i hi=>ai.2 ⟨by omega,by omega⟩
 have hc:(((m-1).toNat:Nat):Int)=m-1:=by omega
 refine⟨by rw[qS H,cg H,T.len],fun q=>?_,fun q hq=>?_,fun q hq=>?_,fun j hj=>?_,fun i h0 o1 o2=>?_⟩
 ·rw[vD H _ _ _ _ hP hr,n9 H hp _ _ hE,T.kind H,hc]
  by_cases e:q=p
  ·rw[if_neg (by omega),if_pos e,if_pos e]
  ·rw[if_neg e,if_neg e]
   by_cases e2:p<q∧q<p+m
   ·rw[if_pos (by omega),if_pos e2]
   ·rw[if_neg (by omega),if_neg e2]
 ·rw[yR H _ _ _ _ hP hr q hq,qO H hp _ _ hE hq,T.cnt H hq,hc]
  by_cases e:q=p
  ·rw[if_neg (by omega),if_pos e,if_pos e]
  ·rw[if_neg e,if_neg e]
   by_cases e2:p<q∧q<p+m
   ·rw[if_pos (by omega),if_pos e2]
   ·rw[if_neg (by omega),if_neg e2]
 ·rw[yS H _ _ _ _ hP hr q hq,qQ H hp _ _ hE hq,T.bit H hq,hc]
  by_cases e:q=p
  ·rw[if_neg (by omega),if_pos e,if_pos (by omega)]
  ·rw[if_neg e]
   by_cases e2:p<q∧q<p+m
   ·rw[if_pos (by omega),if_pos (by omega)]
   ·rw[if_neg (by omega),if_neg (by omega)]
 ·rw[yT H _ _ _ _ hP hr,qR H hp _ _ hE,Bc H ht hn hj]
 ·obtain⟨o3,o4,o5⟩:=o1 p hp
  rw[yU H _ _ _ _ hP hr i h0 o1,d9 H hp _ _ hE h0,if_neg o5,if_neg o4,if_neg o3,T.off i h0 o2]
end
open Go.Joins Go.Deep
section
variable {H:Type}{enc:TypeId×Value→H}{P:Program}{w:World}{base:Nat}{spare:Nat→Bool}{held:Bool}
end
section
variable {H:Type}{enc:TypeId×Value→H}{P:Program}{w:World}{base:Nat}{spare:Nat→Bool}{held:Bool}
end
theorem iP {α:Type}{w w1 wz w2:World}{F F':Nat→Prop}{p n g:Nat}{kn:Int→Option Int}{D:List KV}{val:α→Value}{R:Res α}{x:α}{cs:Array Value}{t:TypeId}{fr:Nat×Nat}(m:ac w w1)(h:MidV w1 wz F (fun _=>False) p kn n D F')(hR:R=.ok x D)(hg:w.heap.size≤g)(hl:g<w1.heap.size)(nF:¬F g)(hb:wz.heap[g]?=some (.cells cs t fr))(ht:Turned (fun k=>k=g) wz w2):aZ w F p kn val R (.returned (val x)) w2:=by
 refine aZ.did hR ⟨rfl,F',h.view.keepS ht (fun k hk e=>h.off hl nF (e▸hk)) (fun k es cl e q=>by subst e;rw[hb] at q;cases q),?_,fun k q=>(h.from' k q).imp id (fun r=>Nat.le_trans m.size r)⟩
 exact aw (aw (Turned.mono m (fun _ _ q=>q.elim)) h.turn (fun k q=>q.imp id (fun r=>r.elim))) ht (fun k q=> .inr (by omega))
section
variable {pg st:Int}{n:Nat}(H:PgIn pg st n)
include H
end
section
variable {pg st:Int}{n:Nat}(H:PgIn pg st n)
include H
end
def opN (pg st:Int)(ws:List Int)(mp:Bool):Nat→Int→Bool
 | 0,_=>true
 |m+1,q=>(decide (aE pg st ws q=0) && (!mp ||aF pg st ws (ofV q))) && opN pg st ws mp m (q+1)
def opV (pg st:Int)(ws:List Int)(p n:Int)(mp:Bool):Bool:=aV pg p n && opN pg st ws mp n.toNat p
theorem uk (pg st:Int)(ws:List Int)(mp:Bool)(m:Nat):∀q:Int,opN pg st ws mp m q=true↔∀i:Int,q≤i→i<q+m→aE pg st ws i=0∧(mp=true→aF pg st ws (ofV i)=true):=by
 induction m with
 |zero=>intro q;exact⟨fun _ i h0 h1=>by omega,fun _=>rfl⟩
 |succ m ih =>
  intro q
  show((decide (aE pg st ws q=0) && (!mp ||aF pg st ws (ofV q))) && opN pg st ws mp m (q+1))=true↔_
  rw[Bool.and_eq_true,Bool.and_eq_true,ih]
  constructor
  ·rintro⟨⟨h0,h1⟩,h2⟩ i hi hl
   by_cases e:i=q
   ·subst e
    refine⟨by simpa using h0,fun hm=>?_⟩
    rw[hm] at h1;simpa using h1
   ·exact h2 i (by omega) (by omega)
  ·intro h
   obtain⟨a,b⟩:=h q (by omega) (by omega)
   refine⟨⟨by simpa using a,?_⟩,fun i hi hl=>h i (by omega) (by omega)⟩
   cases mp with
   |false=>rfl
   |true=>simpa using b rfl
theorem Bd (pg st:Int)(ws:List Int)(p n:Int):opV pg st ws p n false=jh pg st p n ws:=by
 have h:opV pg st ws p n false=true↔jh pg st p n ws=true:=by
  rw[gg]
  unfold opV
  rw[Bool.and_eq_true,uk]
  constructor
  ·rintro⟨ht,h⟩
   obtain⟨t0,t1,t2⟩:=bx.1 ht
   exact⟨ht,fun i h0 h1=>(h i h0 (by omega)).1⟩
  ·rintro⟨ht,h⟩
   obtain⟨t0,t1,t2⟩:=bx.1 ht
   exact⟨ht,fun i h0 h1=>⟨h i h0 (by omega),fun e=>by cases e⟩⟩
 cases e:opV pg st ws p n false with
 |true=>exact(h.1 e).symm
 |false =>
  cases e2:jh pg st p n ws with
  |false=>rfl
  |true=>rw[h.2 e2] at e;cases e
def j5 (f:Int→Bool)(pg m q:Int):Prop:=q≤pg-m∧∀i,q≤i→i<q+m→f i=true
theorem sS {f:Int→Bool}(m:Nat):∀q:Int,js f m q=none→∀i,q≤i→i<q+m→f i=true:=by
 induction m with
 |zero=>intro q _ i h0 h1;omega
 |succ m ih =>
  intro q h i h0 h1
  have h:(if f q then js f m (q+1) else some q)=none:=h
  by_cases e:f q=true
  ·rw[if_pos e] at h
   by_cases ei:i=q
   ·rw[ei];exact e
   ·exact ih (q+1) h i (by omega) (by omega)
  ·rw[if_neg e] at h;cases h
theorem sT {f:Int→Bool}(m:Nat):∀q x:Int,js f m q=some x→q≤x∧x<q+m∧f x=false:=by
 induction m with
 |zero=>intro q x h;cases h
 |succ m ih =>
  intro q x h
  have h:(if f q then js f m (q+1) else some q)=some x:=h
  by_cases e:f q=true
  ·rw[if_pos e] at h
   obtain⟨a,b,c⟩:=ih (q+1) x h
   exact⟨by omega,by omega,c⟩
  ·rw[if_neg e] at h
   cases h
   exact⟨by omega,by omega,by simpa using e⟩
theorem ib {f:Int→Bool}{pg m step:Int}(h1:1≤m)(h2:1≤step)(j:Nat):∀p d:Int,p=d * step→0≤p→pg<p+j →
 (j4 f pg m step j p= -1∧∀k:Int,p≤k * step→¬j5 f pg m (k * step))∨∃k:Int,j4 f pg m step j p=k * step∧p≤k * step∧j5 f pg m (k * step)∧∀l:Int,p≤l * step→l * step<k * step→¬j5 f pg m (l * step):=by
 induction j with
 |zero=>intro p d hp h0 hj;exact .inl ⟨rfl,fun k hk hh=>by have:=hh.1;omega⟩
 |succ j ih =>
  intro p d hp h0 hj
  unfold j4
  by_cases e:p≤pg-m
  ·rw[if_pos e]
   cases hs:js f m.toNat p with
   |none =>
    have:=sS _ _ hs
    exact .inr ⟨d,hp,by omega,⟨by omega,fun i a b=>this i (by omega) (by omega)⟩,fun l a b=>by omega⟩
   |some q =>
    obtain⟨s0,s1,s2⟩:=sT _ _ _ hs
    have q0:q / step * step≤q:=Int.ediv_mul_le q (by omega)
    have q1:q<(q / step+1) * step:=Int.lt_ediv_add_one_mul_self q (by omega)
    have skip:∀l:Int,p≤l * step→l * step<(q / step+1) * step→¬j5 f pg m (l * step):=fun l a b hh=>by
     have hl:l<q / step+1:=Int.lt_of_mul_lt_mul_right b (by omega)
     have hl2:l * step≤q / step * step:=Int.mul_le_mul_of_nonneg_right (by omega) (by omega)
     have:=hh.2 q (by omega) (by omega)
     rw[s2] at this;cases this
    rcases ih ((q / step+1) * step) (q / step+1) rfl (by omega) (by omega) with⟨a,b⟩|⟨k,a,b,c,d'⟩
    ·refine .inl ⟨a,fun k hk=>?_⟩
     rcases Int.lt_or_le (k * step) ((q / step+1) * step) with z|z
     ·exact skip k hk z
     ·exact b k z
    ·refine .inr ⟨k,a,by omega,c,fun l hl hl2=>?_⟩
     rcases Int.lt_or_le (l * step) ((q / step+1) * step) with z|z
     ·exact skip l hl z
     ·exact d' l z hl2
  ·rw[if_neg e]
   exact .inl ⟨rfl,fun k hk hh=>by have:=hh.1;omega⟩
theorem vG {f:Int→Bool}{pg m step:Int}(h1:1≤m)(h2:1≤step)(hpg:0≤pg){k:Int}(h0:0≤k * step)(hk:j5 f pg m (k * step))(hl:∀l:Int,0≤l * step→l * step<k * step→¬j5 f pg m (l * step)):bQ f pg m step=k * step:=by
 rcases ib (f:=f) (pg:=pg) h1 h2 (pg.toNat+1) 0 0 (by omega) (by omega) (by omega) with⟨_,h⟩|⟨k',e,p0,hh,hm⟩
 ·exact absurd hk (h k h0)
 ·unfold bQ
  rw[e]
  rcases Int.lt_trichotomy (k' * step) (k * step) with c|c|c
  ·exact absurd hh (hl k' p0 c)
  ·exact c
  ·exact absurd hk (hm k h0 c)
theorem yW {f:Int→Bool}{pg m step:Int}(h1:1≤m)(h2:1≤step)(hpg:0≤pg)(hl:∀l:Int,0≤l * step→¬j5 f pg m (l * step)):bQ f pg m step= -1:=by
 rcases ib (f:=f) (pg:=pg) h1 h2 (pg.toNat+1) 0 0 (by omega) (by omega) (by omega) with⟨e,_⟩|⟨k',e,p0,hh,hm⟩
 ·exact e
 ·exact absurd hh (hl k' p0)
theorem pz {pg st:Int}{ws:List Int}{p n:Int}(h0:0≤p)(h1:1≤n)(mp:Bool):opV pg st ws p n mp=true↔j5 (if mp then dr pg st ws else eD pg st ws) pg n p:=by
 unfold opV j5
 rw[Bool.and_eq_true,bx,uk]
 constructor
 ·rintro⟨⟨_,_,t2⟩,h⟩
  refine⟨by omega,fun i a b=>?_⟩
  obtain⟨k0,km⟩:=h i a (by omega)
  cases mp with
  |false=>show eD pg st ws i=true;unfold eD;simp[k0]
  |true=>show dr pg st ws i=true;unfold dr;rw[km rfl];simp[k0]
 ·rintro⟨t,h⟩
  refine⟨⟨h0,h1,by omega⟩,fun i a b=>?_⟩
  have:=h i a (by omega)
  cases mp with
  |false =>
   have:eD pg st ws i=true:=this
   unfold eD at this
   exact⟨by simpa using this,fun e=>by cases e⟩
  |true =>
   have:dr pg st ws i=true:=this
   unfold dr at this
   rw[Bool.and_eq_true] at this
   exact⟨by simpa using this.2,fun _=>this.1⟩
theorem mA {pg st:Int}{ws:List Int}{n step:Int}(h1:1≤n)(h2:1≤step)(hpg:0≤pg){p:Int}(p0:0≤p)(pm:p % step=0)(mp:Bool)(ho:opV pg st ws p n mp=true)(hb:∀q,0≤q→q<p→q % step=0→opV pg st ws q n mp=false):bQ (if mp then dr pg st ws else eD pg st ws) pg n step=p:=by
 have e:p=p / step * step:=by have:=Int.mul_ediv_add_emod p step;rw[pm] at this;rw[Int.mul_comm];omega
 rw[e]
 refine vG h1 h2 hpg (by rw[←e];exact p0) (by rw[←e];exact(pz p0 h1 mp).1 ho) (fun l l0 ll hh=>?_)
 rw[←e] at ll
 have:=hb (l * step) l0 ll (Int.mul_emod_left l step)
 rw[(pz l0 h1 mp).2 hh] at this
 cases this
theorem kM {pg st:Int}{ws:List Int}{n step:Int}(h1:1≤n)(h2:1≤step)(hpg:0≤pg)(mp:Bool)(hb:∀q,0≤q→q<pg→q % step=0→opV pg st ws q n mp=false):bQ (if mp then dr pg st ws else eD pg st ws) pg n step= -1:=by
 refine yW h1 h2 hpg (fun l l0 hh=>?_)
 have:=hb (l * step) l0 (by have:=hh.1;omega) (Int.mul_emod_left l step)
 rw[(pz l0 h1 mp).2 hh] at this
 cases this
section
variable {pg st:Int}{n:Nat}(H:PgIn pg st n)
include H
theorem sU {p q:Int}(hp:ah pg p=true)(hq:ah pg q=true)(h:p≠q):kA pg st p≠kA pg st q∧cA pg st p≠cA pg st q∧bA pg st p≠bA pg st q∧kA pg st p≠cA pg st q∧kA pg st p≠bA pg st q∧cA pg st p≠kA pg st q∧cA pg st p≠bA pg st q∧bA pg st p≠kA pg st q∧bA pg st p≠cA pg st q:=by
 have:=ai.1 hp
 have:=ai.1 hq
 unfold kA cA bA
 refine⟨?_,?_,?_,?_,?_,?_,?_,?_,?_⟩<;>omega
theorem vH {p q:Int}(hp:ah pg p=true)(hq:ah pg q=true)(h:p≠q)(a b c d:Int){ws:List Int}(hn:ws.length=n):bO pg st p a b (bO pg st q c d ws)=bO pg st q c d (bO pg st p a b ws):=by
 obtain⟨a1,a2,a3,a4,a5,a6,a7,a8,a9⟩:=sU H hp hq h
 refine gF (by rw[cg H,cg H,cg H,cg H]) (fun i i0 _=>?_)
 rw[d9 H hp a b (by rw[cg H];exact hn) i0,d9 H hq c d hn i0,d9 H hq c d (by rw[cg H];exact hn) i0,d9 H hp a b hn i0]
 by_cases e1:i=bA pg st p
 ·rw[if_pos e1,if_neg (by rw[e1];exact a3),if_neg (by rw[e1];exact a9),if_neg (by rw[e1];exact a8),if_pos e1]
 ·rw[if_neg e1,if_neg e1]
  by_cases e2:i=cA pg st p
  ·rw[if_pos e2,if_neg (by rw[e2];exact a7),if_neg (by rw[e2];exact a2),if_neg (by rw[e2];exact a6),if_pos e2]
  ·rw[if_neg e2,if_neg e2]
   by_cases e3:i=kA pg st p
   ·rw[if_pos e3,if_neg (by rw[e3];exact a5),if_neg (by rw[e3];exact a4),if_neg (by rw[e3];exact a1),if_pos e3]
   ·rw[if_neg e3,if_neg e3]
theorem vI {p:Int}(hp:ah pg p=true)(a b c d:Int){ws:List Int}(hn:ws.length=n):bO pg st p a b (bO pg st p c d ws)=bO pg st p a b ws:=by
 refine gF (by rw[cg H,cg H,cg H]) (fun i i0 _=>?_)
 rw[d9 H hp a b (by rw[cg H];exact hn) i0,d9 H hp c d hn i0,d9 H hp a b hn i0]
 by_cases e1:i=bA pg st p
 ·rw[if_pos e1,if_pos e1]
 ·rw[if_neg e1,if_neg e1,if_neg e1]
  by_cases e2:i=cA pg st p
  ·rw[if_pos e2,if_pos e2]
  ·rw[if_neg e2,if_neg e2,if_neg e2]
   by_cases e3:i=kA pg st p
   ·rw[if_pos e3,if_pos e3]
   ·rw[if_neg e3,if_neg e3,if_neg e3]
theorem vJ {p:Int}(hp:ah pg p=true)(a b k:Int)(m:Nat):∀(q:Int) (ws:List Int),p<q→ws.length=n→(∀i:Nat,i<m→ah pg (q+i)=true)→bO pg st p a b (cQ pg st k m q ws)=cQ pg st k m q (bO pg st p a b ws):=by
 induction m with
 |zero=>intro q ws _ _ _;rfl
 |succ m ih =>
  intro q ws hpq hn h
  obtain⟨hq,h2⟩:=fj H h
  show bO pg st p a b (cQ pg st k m (q+1) (bO pg st q k 0 ws))=cQ pg st k m (q+1) (bO pg st q k 0 (bO pg st p a b ws))
  rw[ih (q+1) _ (by omega) (by rw[cg H];exact hn) h2,vH H hp hq (by omega) a b k 0 hn]
theorem vK (k:Int)(m:Nat):∀(q:Int) (ws:List Int),cQ pg st k (m+1) q ws=bO pg st (q+m) k 0 (cQ pg st k m q ws):=by
 induction m with
 |zero=>intro q ws;show bO pg st q k 0 ws=_;rw[show q+((0:Nat):Int)=q by omega];rfl
 |succ m ih =>
  intro q ws
  show cQ pg st k (m+1) (q+1) (bO pg st q k 0 ws)=bO pg st (q+((m+1:Nat):Int)) k 0 (cQ pg st k m (q+1) (bO pg st q k 0 ws))
  rw[ih (q+1) (bO pg st q k 0 ws),show q+1+(m:Int)=q+((m+1:Nat):Int) by omega]
theorem vL {p m k x:Int}{ws:List Int}(hn:ws.length=n)(ht:aV pg p m=true):bO pg st p k x (cQ pg st 7 m.toNat p ws)=cQ pg st 7 (m-1).toNat (p+1) (bO pg st p k x ws):=by
 obtain⟨t0,t1,t2⟩:=bx.1 ht
 have hp:ah pg p=true:=ai.2 ⟨by omega,by omega⟩
 obtain⟨j,hj⟩:∃j:Nat,m.toNat=j+1:=⟨(m-1).toNat,by omega⟩
 rw[hj,show(m-1).toNat=j by omega]
 show bO pg st p k x (cQ pg st 7 j (p+1) (bO pg st p 7 0 ws))=_
 rw[vJ H hp k x 7 j (p+1) _ (by omega) (by rw[cg H];exact hn) (fun i hi=>ai.2 ⟨by omega,by omega⟩),vI H hp k x 7 0 hn]
end
def aR (pg a:Int)(ws:List Int):Int:=if a=0 then -1 else gd pg (wAt ws a)
def plThrV (pg st p:Int):Nat→Int→List Int→List Int→List Int×Bool
 | 0,_,l,_=>(l,false)
 |m+1,a,l,ws=>if aR pg a ws=p then(l,true) else if aR pg a ws= -1 then(l,false) else plThrV pg st p m (nA pg st (aR pg a ws)) (l++ [aR pg a ws]) ws
def bI (pg st h p q:Int)(ws:List Int):List Int:=if q= -1 then ws.set (if p= -1 then h else nA pg st p).toNat (q+1) else(ws.set (if p= -1 then h else nA pg st p).toNat (q+1)).set (vA pg st q).toNat (p+1)
def bJ (pg st p c f:Int)(ws:List Int):Bool×List Int:=if ay pg st c f≠0∧ah pg p=true then(true,bI pg st (ay pg st c f) (-1) p (bI pg st (ay pg st c f) p (aR pg (ay pg st c f) ws) ws)) else(false,ws)
def aU (pg st p c f:Int)(ws:List Int):Bool×List Int:=if ah pg p=true∧(plThrV pg st p pg.toNat (ay pg st c f) [] ws).2=true then(true,((bI pg st (ay pg st c f) (bD (plThrV pg st p pg.toNat (ay pg st c f) [] ws).1) (aR pg (nA pg st p) ws) ws).set (nA pg st p).toNat 0).set (vA pg st p).toNat 0) else(false,ws)
def aY (pg st c:Int):Nat→Int→List Int→Int
 | 0,_,_=> -1
 |m+1,f,ws=>if aR pg (ay pg st c f) ws= -1 then aY pg st c m (f+1) ws else aR pg (ay pg st c f) ws
section
variable {pg st:Int}{n:Nat}(H:dh pg st n)
include H
theorem gu {a:Int}(h0:0≤a)(ha:a<n):bL n (i9 pg a) (fun ws=>(aR pg a ws,ws)):=by
 unfold i9 aR
 by_cases e:a=0
 ·simp only[if_pos e];exact az n (-1)
 ·simp only[if_neg e];exact aC (cZ h0 ha) (fun x=>az n (gd pg x))
theorem mB (a:Int)(ws:List Int):aR pg a ws= -1∨ah pg (aR pg a ws)=true:=by
 unfold aR
 split
 ·exact .inl rfl
 ·exact yy H _
theorem qU (p:Int)(m:Nat):∀(a:Int) (l:List Int),0≤a→a<n→bL n (sG pg st p m a l) (fun ws=>(plThrV pg st p m a l ws,ws)):=by
 induction m with
 |zero=>intro a l _ _;exact az n (l,false)
 |succ m ih =>
  intro a l h0 ha
  refine bg (fg (Q:=fun q:Int=>q= -1∨ah pg q=true) (gu H h0 ha) (fun ws _=>mB H a ws) (fun q hq=>bU (fun _=>az n (l,true)) (fun _=>bU (fun _=>az n (l,false)) (fun hne=>by
   have hp:=hq.resolve_left hne
   have:=(fN H hp).1
   exact ih (nA pg st q) (l++ [q]) (by omega) this.2.1)))) (fun ws _=>?_)
  show _=(if aR pg a ws=p then(l,true) else if aR pg a ws= -1 then(l,false) else plThrV pg st p m (nA pg st (aR pg a ws)) (l++ [aR pg a ws]) ws,ws)
  by_cases e:aR pg a ws=p
  ·simp only[if_pos e]
  ·by_cases e2:aR pg a ws= -1
   ·simp only[if_neg e,if_pos e2]
   ·simp only[if_neg e,if_neg e2]
theorem sV (p c f:Int):bL n (yx pg st p c f) (fun ws=>(plThrV pg st p pg.toNat (ay pg st c f) [] ws,ws)):=qU H p _ _ _ (mt H).1 (mt H).2.1
theorem iQ {h p q:Int}(h0:0≤h)(h1:W64 h)(h2:h<n)(hp:p= -1∨ah pg p=true)(hq:q= -1∨ah pg q=true):bL n (lK pg st h p q) (fun ws=>((),bI pg st h p q ws)):=by
 have first:bL n (if p= -1 then en h (q+1) else en (nA pg st p) (q+1)) (fun ws=>((),ws.set (if p= -1 then h else nA pg st p).toNat (q+1))):=by
  by_cases e:p= -1
  ·simp only[if_pos e];exact cI h0 h2 h1 (yz H hq)
  ·simp only[if_neg e]
   obtain⟨⟨a,b,c⟩,_⟩:=fN H (hp.resolve_left e)
   exact cI (by omega) b c (yz H hq)
 refine bg (aC first (fun _=>bU (fun _=>az n ()) (fun hne=>by
  obtain⟨_,a,b,c⟩:=fN H (hq.resolve_left hne)
  exact cI (by omega) b c (yz H hp)))) (fun ws _=>?_)
 unfold bI
 by_cases e:q= -1
 ·simp only[if_pos e]
 ·simp only[if_neg e]
theorem qV (p c f:Int):bL n (pp pg st p c f) (bJ pg st p c f):=by
 unfold pp
 by_cases hz:ay pg st c f=0
 ·rw[if_pos hz]
  exact bg (az n false) (fun ws _=>by unfold bJ;rw[if_neg (by rintro⟨a,_⟩;exact a hz)])
 rw[if_neg hz]
 cases hp:ah pg p with
 |false=>exact bg (az n false) (fun ws _=>by unfold bJ;rw[if_neg (by rintro⟨_,a⟩;rw[hp] at a;cases a)])
 |true =>
  rw[if_pos rfl]
  obtain⟨b0,b1,b2⟩:=mt (c:=c) (f:=f) H
  refine bg (fg (Q:=fun q:Int=>q= -1∨ah pg q=true) (gu H b0 b1) (fun ws _=>mB H _ ws) (fun q hq=>aC (iQ H b0 b2 b1 (.inr hp) hq) (fun _=>aC (iQ H b0 b2 b1 (.inl rfl) (.inr hp)) (fun _=>az n true)))) (fun ws _=>?_)
  unfold bJ
  rw[if_pos ⟨hz,hp⟩]
theorem vM (p:Int)(m:Nat)(ws:List Int):∀(a:Int) (l:List Int),(∀x∈l,ah pg x=true)→∀x∈(plThrV pg st p m a l ws).1,ah pg x=true:=by
 induction m with
 |zero=>intro a l hl;exact hl
 |succ m ih =>
  intro a l hl
  unfold plThrV
  split
  ·exact hl
  ·split
   ·exact hl
   ·rename_i hne
    exact ih _ _ (fun x hx=>by
     rcases List.mem_append.1 hx with h|h
     ·exact hl x h
     ·rw[List.mem_singleton.1 h];exact(mB H a ws).resolve_left hne)
theorem ny (p c f:Int):bL n (kJ pg st p c f) (aU pg st p c f):=by
 unfold kJ
 cases hp:ah pg p with
 |false=>exact bg (az n false) (fun ws _=>by unfold aU;rw[if_neg (by rintro⟨a,_⟩;rw[hp] at a;cases a)])
 |true =>
  rw[if_pos rfl]
  obtain⟨b0,b1,b2⟩:=mt (c:=c) (f:=f) H
  obtain⟨⟨a0,a1,a2⟩,c0,c1,c2⟩:=fN H hp
  refine bg (fg (Q:=fun r:List Int×Bool=>∀x∈r.1,ah pg x=true) (sV H p c f) (fun ws _=>vM H _ _ _ _ _ (fun x hx=>by cases hx)) (fun r hr=>bU (fun _=>fg (Q:=fun q:Int=>q= -1∨ah pg q=true) (gu H (by omega) a1) (fun ws _=>mB H _ ws) (fun q hq=>aC (iQ H b0 b2 b1 (uc H hr) hq) (fun _=>aC (cI (by omega) a1 a2 (by unfold W64;omega)) (fun _=>aC (cI (by omega) c1 c2 (by unfold W64;omega)) (fun _=>az n true))))) (fun _=>az n false))) (fun ws _=>?_)
  unfold aU
  by_cases e:(plThrV pg st p pg.toNat (ay pg st c f) [] ws).2=true
  ·simp only[if_pos e,if_pos (And.intro hp e)]
  ·simp only[if_neg e];rw[if_neg (fun q=>e q.2)]
theorem nB (c:Int)(m:Nat):∀f,bL n (ms pg st c m f) (fun ws=>(aY pg st c m f ws,ws)):=by
 induction m with
 |zero=>intro f;exact az n (-1)
 |succ m ih =>
  intro f
  obtain⟨b0,b1,b2⟩:=mt (c:=c) (f:=f) H
  refine bg (aC (gu H b0 b1) (fun q=>bU (fun _=>ih (f+1)) (fun _=>az n q))) (fun ws _=>?_)
  show _=(if aR pg (ay pg st c f) ws= -1 then aY pg st c m (f+1) ws else aR pg (ay pg st c f) ws,ws)
  by_cases e:aR pg (ay pg st c f) ws= -1
  ·simp only[if_pos e]
  ·simp only[if_neg e]
end
def bZ (pg st a:Int):Prop:=aQ st pg≤a∧a<aQ st pg+62
theorem cW {pg st c f:Int}(h:ay pg st c f≠0):bZ pg st (ay pg st c f)∧0≤c∧c≤4∧1≤f∧f≤cU c:=by
 unfold ay at h⊢
 split
 ·rename_i g
  refine⟨?_,g.1,g.2.1,g.2.2.1,g.2.2.2⟩
  obtain⟨c0,c4,f1,fs⟩:=g
  have:c=0∨c=1∨c=2∨c=3∨c=4:=by omega
  unfold bZ
  rcases this with rfl|rfl|rfl|rfl|rfl<;>simp[cU,cX] at fs⊢ <;>omega
 ·rename_i g;rw[if_neg g] at h;exact absurd rfl h
theorem yX {pg st c f c' f':Int}(h:ay pg st c f≠0)(e:ay pg st c f=ay pg st c' f'):c=c'∧f=f':=by
 have g:=(cW h).2
 have g':=(cW (e▸h)).2
 unfold ay at e
 rw[if_pos ⟨g.1,g.2.1,g.2.2.1,g.2.2.2⟩,if_pos ⟨g'.1,g'.2.1,g'.2.2.1,g'.2.2.2⟩] at e
 obtain⟨c0,c4,f1,fs⟩:=g
 obtain⟨d0,d4,k1,ks⟩:=g'
 have h1:c=0∨c=1∨c=2∨c=3∨c=4:=by omega
 have h2:c'=0∨c'=1∨c'=2∨c'=3∨c'=4:=by omega
 rcases h1 with rfl|rfl|rfl|rfl|rfl<;>rcases h2 with rfl|rfl|rfl|rfl|rfl<;>simp[cU,cX] at fs ks e⊢ <;>omega
def hd1:List Int→Int
 | []=>0
 |p::_=>p+1
def dW:List Int→Int
 | []=> -1
 |p::_=>p
theorem ul (l:List Int):hd1 l=dW l+1:=by cases l<;>rfl
def nxL:List Int→Int→Int
 | [],_=>0
 |x::t,p=>if x=p then hd1 t else nxL t p
def pvL:Int→List Int→Int→Int
 | _,[],_=>0
 |k,x::t,p=>if x=p then k else pvL (x+1) t p
theorem eH (l:List Int)(x:Int):bD (l++ [x])=x:=by simp[bD,List.getD]
theorem mC (x:Int)(l:List Int)(h:l≠ []):bD (x::l)=bD l:=by
 obtain⟨s,y,rfl⟩:∃s y,l=s++ [y]:=⟨l.dropLast,l.getLast h,(List.dropLast_concat_getLast h).symm⟩
 rw[eH,show x::(s++ [y])=(x::s)++ [y] from rfl,eH]
theorem oa (l m:List Int)(h:m≠ []):bD (l++m)=bD m:=by
 obtain⟨s,y,rfl⟩:∃s y,m=s++ [y]:=⟨m.dropLast,m.getLast h,(List.dropLast_concat_getLast h).symm⟩
 rw[eH,←List.append_assoc,eH]
theorem oc (l:List Int)(h:l≠ []):bD l∈l:=by
 obtain⟨s,y,rfl⟩:∃s y,l=s++ [y]:=⟨l.dropLast,l.getLast h,(List.dropLast_concat_getLast h).symm⟩
 rw[eH];simp
theorem gB (u v:List Int)(r:Int)(h:r∉u):nxL (u++r::v) r=hd1 v:=by
 induction u with
 |nil=>show(if r=r then hd1 v else _)=_;rw[if_pos rfl]
 |cons x u ih =>
  show(if x=r then _ else nxL (u++r::v) r)=_
  rw[if_neg (fun e=>h (by simp[e])),ih (fun q=>h (by simp[q]))]
theorem CU (u v:List Int)(r:Int)(h:r∉u):∀k,pvL k (u++r::v) r=if u= [] then k else bD u+1:=by
 induction u with
 |nil=>intro k;show(if r=r then k else _)=_;rw[if_pos rfl,if_pos rfl]
 |cons x u ih =>
  intro k
  show(if x=r then k else pvL (x+1) (u++r::v) r)=_
  rw[if_neg (fun e=>h (by simp[e])),ih (fun q=>h (by simp[q]))]
  by_cases hu:u= []
  ·subst hu;rfl
  ·rw[if_neg hu,if_neg (show ¬x::u= [] by simp),mC x u hu]
theorem ic (u v:List Int)(r:Int)(h:r∉u):pvL 0 (u++r::v) r=bD u+1:=by
 rw[CU u v r h]
 split
 ·rename_i e;subst e;rfl
 ·rfl
theorem fT {l:List Int}{p:Int}(h:p∈l):∃s t,l=s++p::t∧p∉s:=by
 induction l with
 |nil=>cases h
 |cons x l ih =>
  by_cases e:x=p
  ·exact⟨[],l,by rw[e];rfl,by simp⟩
  ·obtain⟨s,t,rfl,hs⟩:=ih ((List.mem_cons.1 h).resolve_left (fun q=>e q.symm))
   exact⟨x::s,t,rfl,by simp only[List.mem_cons];rintro(q|q);exact e q.symm;exact hs q⟩
structure Ln (pg st:Int)(G:Int→List Int)(ws:List Int):Prop where
 head:∀a,bZ pg st a→wAt ws a=hd1 (G a)
 page:∀a,bZ pg st a→∀p∈G a,ah pg p=true
 nodup:∀a,bZ pg st a→(G a).Nodup
 apart:∀a b p,bZ pg st a→bZ pg st b→p∈G a→p∈G b→a=b
 next:∀a p,bZ pg st a→p∈G a→wAt ws (nA pg st p)=nxL (G a) p
 prev:∀a p,bZ pg st a→p∈G a→wAt ws (vA pg st p)=pvL 0 (G a) p
 free:∀p,ah pg p=true→(∀a,bZ pg st a→p∉G a)→wAt ws (nA pg st p)=0∧wAt ws (vA pg st p)=0
structure du (pg st:Int)(ws ws':List Int):Prop where
 len:ws'.length=ws.length
 off:∀i:Int,0≤i→¬bZ pg st i→(∀p,ah pg p=true→i≠nA pg st p∧i≠vA pg st p)→wAt ws' i=wAt ws i
theorem du.refl (pg st:Int)(ws:List Int):du pg st ws ws:=⟨rfl,fun _ _ _ _=>rfl⟩
theorem du.trans {pg st:Int}{a b c:List Int}(h:du pg st a b)(g:du pg st b c):du pg st a c:=⟨g.len.trans h.len,fun i h0 h1 h2=>(g.off i h0 h1 h2).trans (h.off i h0 h1 h2)⟩
theorem Ln.uniq {pg st:Int}{G:Int→List Int}{ws ws':List Int}(h:Ln pg st G ws)(g:Ln pg st G ws')(o:du pg st ws ws'):ws'=ws :=
 gF o.len (fun i h0 _=>by
  by_cases e:bZ pg st i
  ·rw[h.head i e,g.head i e]
  by_cases e2:∃p,ah pg p=true∧(i=nA pg st p∨i=vA pg st p)
  ·obtain⟨p,hp,hi⟩:=e2
   by_cases m:∃a,bZ pg st a∧p∈G a
   ·obtain⟨a,ha,m⟩:=m
    rcases hi with rfl|rfl
    ·rw[h.next a p ha m,g.next a p ha m]
    ·rw[h.prev a p ha m,g.prev a p ha m]
   ·have m':∀a,bZ pg st a→p∉G a:=fun a ha q=>m ⟨a,ha,q⟩
    rcases hi with rfl|rfl
    ·rw[(h.free p hp m').1,(g.free p hp m').1]
    ·rw[(h.free p hp m').2,(g.free p hp m').2]
  ·exact o.off i h0 e (fun p hp=>⟨fun q=>e2 ⟨p,hp,.inl q⟩,fun q=>e2 ⟨p,hp,.inr q⟩⟩))
section
variable {pg st:Int}{n:Nat}(H:dh pg st n)
include H
theorem ix {a:Int}(h:bZ pg st a):4≤a∧a<n∧W64 a:=by
 have h1:=H.st1;have h2:=H.st2;have h3:=H.top62;have h4:=H.pg1;have h5:=H.pg2
 unfold bZ aQ W64 at *
 unfold aA aK at *
 omega
theorem eK {a p:Int}(h:bZ pg st a)(hp:ah pg p=true):a≠nA pg st p∧a≠vA pg st p:=by
 have:=ai.1 hp;have h4:=H.pg1
 unfold bZ aQ at h
 unfold nA vA
 omega
theorem dG {p q:Int}(hp:ah pg p=true)(hq:ah pg q=true):nA pg st p≠vA pg st q:=by
 have:=ai.1 hp;have:=ai.1 hq
 unfold nA vA;omega
theorem Be {x:Int}(h:ah pg x=true):gd pg (x+1)=x:=by
 have:=ai.1 h;have h5:=H.pg2
 unfold gd
 rw[show IntKind.i64.wrap (x+1-1)=x by rw[show x+1-1=x by omega];exact aj (by omega) (by omega),if_pos h]
theorem vN:gd pg 0= -1:=by
 unfold gd
 rw[show IntKind.i64.wrap (0-1)= -1 from aj (by omega) (by omega),if_neg (by rw[jE.2 (by omega)];simp)]
theorem Bf {l:List Int}(h:∀p∈l,ah pg p=true):gd pg (hd1 l)=dW l:=by
 cases l with
 |nil=>exact vN H
 |cons x t=>exact Be H (h x (by simp))
theorem j6 {l:List Int}{a:Int}{ws:List Int}(ha:0<a)(hw:wAt ws a=hd1 l)(h:∀p∈l,ah pg p=true):aR pg a ws=dW l:=by
 unfold aR
 rw[if_neg (by omega),hw]
 exact Bf H h
theorem qW {l:List Int}(h:∀p∈l,ah pg p=true)(hn:l.Nodup):l.length≤pg.toNat :=
 iz pg.toNat l hn (fun p hp=>by have:=ai.1 (h p hp);omega)
theorem yY {p a:Int}{G:Int→List Int}{ws:List Int}(L:Ln pg st G ws)(ha:bZ pg st a)(m:Nat):∀(s t:List Int) (at':Int),G a=s++t→0<at'→wAt ws at'=hd1 t →
 (∀t1 t2,t=t1++p::t2→p∉t1→t1.length<m→plThrV pg st p m at' s ws=(s++t1,true)) ∧
 (p∉t→t.length≤m→(plThrV pg st p m at' s ws).1=s++t∧(p≠ -1→(plThrV pg st p m at' s ws).2=false)):=by
 induction m with
 |zero =>
  intro s t at' hG h0 hw
  refine⟨fun t1 t2 _ _ h=>absurd h (by omega),fun _ h=>?_⟩
  have:t= []:=List.length_eq_zero_iff.1 (by omega)
  subst this
  exact⟨by show s=s++ [];simp,fun _=>rfl⟩
 |succ m ih =>
  intro s t at' hG h0 hw
  have hpt:∀x∈t,ah pg x=true:=fun x hx=>L.page a ha x (by rw[hG];simp[hx])
  have hl:=j6 H h0 hw hpt
  unfold plThrV
  rw[hl]
  cases t with
  |nil =>
   refine⟨fun t1 t2 e _ _=>by simp at e,fun _ _=>?_⟩
   rw[show dW []= -1 from rfl]
   by_cases e:(-1:Int)=p
   ·simp only[if_pos e];exact⟨by simp,fun q=>absurd e.symm q⟩
   ·simp only[if_neg e,if_true];exact⟨by simp,fun _=>by simp⟩
  |cons x t =>
   have hx:=hpt x (by simp)
   have hxp:=ai.1 hx
   have hxm:x∈G a:=by rw[hG];simp
   have hnd:=L.nodup a ha
   rw[hG] at hnd
   have hxs:x∉s:=fun q=>by
    have:=List.nodup_append.1 hnd
    exact this.2.2 x q x (by simp) rfl
   have hnx:wAt ws (nA pg st x)=hd1 t:=by rw[L.next a x ha hxm,hG,gB s t x hxs]
   have I:=ih (s++ [x]) t (nA pg st x) (by rw[hG];simp) (by have:=(fN H hx).1.1;omega) hnx
   show(∀t1 t2,x::t=t1++p::t2→p∉t1→t1.length<m+1→(if x=p then(s,true) else if x= -1 then(s,false) else plThrV pg st p m (nA pg st x) (s++ [x]) ws)=(s++t1,true))∧(p∉x::t→(x::t).length≤m+1→(if x=p then(s,true) else if x= -1 then(s,false) else plThrV pg st p m (nA pg st x) (s++ [x]) ws).1=s++x::t∧(p≠ -1→(if x=p then(s,true) else if x= -1 then(s,false) else plThrV pg st p m (nA pg st x) (s++ [x]) ws).2=false))
   refine⟨fun t1 t2 e hn hm=>?_,fun hn hm=>?_⟩
   ·cases t1 with
    |nil =>
     have:x=p:=by simp at e;exact e.1
     rw[if_pos this];simp
    |cons y t1 =>
     simp only[List.cons_append,List.cons.injEq] at e
     obtain⟨rfl,e⟩:=e
     rw[if_neg (fun q=>hn (by simp[q])),if_neg (by omega),I.1 t1 t2 e (fun q=>hn (by simp[q])) (by simp at hm;omega)]
     simp
   ·have hne:x≠p:=fun q=>hn (by simp[q])
    rw[if_neg hne,if_neg (by omega)]
    have:=I.2 (fun q=>hn (by simp[q])) (by simp at hm;omega)
    exact⟨by rw[this.1];simp,this.2⟩
theorem Bg {p a:Int}{G:Int→List Int}{ws:List Int}(L:Ln pg st G ws)(ha:bZ pg st a){s t:List Int}(hG:G a=s++p::t)(hs:p∉s):plThrV pg st p pg.toNat a [] ws=(s,true):=by
 have hl:=qW H (L.page a ha) (L.nodup a ha)
 rw[hG] at hl
 simp at hl
 have:=(yY H (p:=p) L ha pg.toNat [] (G a) a rfl (by have:=(ix H ha).1;omega) (L.head a ha)).1 s t hG hs (by omega)
 simpa using this
theorem Bh {p a:Int}{G:Int→List Int}{ws:List Int}(L:Ln pg st G ws)(ha:bZ pg st a)(hp:p∉G a):(plThrV pg st p pg.toNat a [] ws).1=G a∧(p≠ -1→(plThrV pg st p pg.toNat a [] ws).2=false):=by
 have:=(yY H (p:=p) L ha pg.toNat [] (G a) a rfl (by have:=(ix H ha).1;omega) (L.head a ha)).2 hp (qW H (L.page a ha) (L.nodup a ha))
 simpa using this
theorem yZ {p:Int}(ws:List Int):(plThrV pg st p pg.toNat 0 [] ws).1= []∧(p≠ -1→(plThrV pg st p pg.toNat 0 [] ws).2=false):=by
 obtain⟨m,hm⟩:∃m,pg.toNat=m+1:=⟨pg.toNat-1,by have:=H.pg1;omega⟩
 rw[hm]
 have h0:aR pg 0 ws= -1:=by unfold aR;rw[if_pos rfl]
 unfold plThrV
 rw[h0]
 by_cases e:(-1:Int)=p
 ·rw[if_pos e];exact⟨rfl,fun q=>absurd e.symm q⟩
 ·rw[if_neg e,if_pos rfl];exact⟨rfl,fun _=>rfl⟩
theorem pA {h p q:Int}(hh:bZ pg st h)(hp:p= -1∨ah pg p=true)(hq:q= -1∨ah pg q=true){ws:List Int}(hn:ws.length=n){i:Int}(hi:0≤i):
 wAt (bI pg st h p q ws) i=if q≠ -1∧i=vA pg st q then p+1 else if i=(if p= -1 then h else nA pg st p) then q+1 else wAt ws i:=by
 have hb:4≤(if p= -1 then h else nA pg st p)∧(if p= -1 then h else nA pg st p)<n:=by
  by_cases e:p= -1
  ·rw[if_pos e];exact⟨(ix H hh).1,(ix H hh).2.1⟩
  ·rw[if_neg e];have:=(fN H (hp.resolve_left e)).1;exact⟨this.1,this.2.1⟩
 unfold bI
 by_cases e:q= -1
 ·rw[if_pos e,bo (by omega) hi (by omega),if_neg (fun z:q≠ -1∧i=vA pg st q=>z.1 e)]
 ·have:=(fN H (hq.resolve_left e)).2
  rw[if_neg e,bo (by omega) hi (by simp;omega),bo (by omega) hi (by omega)]
  by_cases e2:i=vA pg st q
  ·rw[if_pos e2,if_pos ⟨e,e2⟩]
  ·rw[if_neg e2,if_neg (fun z:q≠ -1∧i=vA pg st q=>e2 z.2)]
theorem gL (h p q:Int)(ws:List Int):(bI pg st h p q ws).length=ws.length:=by unfold bI;split<;>simp
end
def mD (G:Int→List Int)(a:Int)(l:List Int):Int→List Int:=fun b=>if b=a then l else G b
theorem bu (G:Int→List Int)(a:Int)(l:List Int):mD G a l a=l:=if_pos rfl
theorem bm (G:Int→List Int)(a:Int)(l:List Int){b:Int}(h:b≠a):mD G a l b=G b:=if_neg h
section
variable {pg st:Int}{n:Nat}(H:dh pg st n)
include H
theorem um {c f p:Int}{G:Int→List Int}{ws:List Int}(L:Ln pg st G ws)(hn:ws.length=n)(hz:ay pg st c f≠0)(hp:ah pg p=true)(hf:∀a,bZ pg st a→p∉G a):
 Ln pg st (mD G (ay pg st c f) (p::G (ay pg st c f))) (bJ pg st p c f ws).2∧du pg st ws (bJ pg st p c f ws).2:=by
 have hv:bJ pg st p c f ws=(true,bI pg st (ay pg st c f) (-1) p (bI pg st (ay pg st c f) p (aR pg (ay pg st c f) ws) ws)):=by unfold bJ;rw[if_pos ⟨hz,hp⟩]
 have ha:=(cW hz).1
 rw[hv]
 generalize ay pg st c f=a at ha hz
 show Ln pg st (mD G a (p::G a)) (bI pg st a (-1) p (bI pg st a p (aR pg a ws) ws))∧du pg st ws (bI pg st a (-1) p (bI pg st a p (aR pg a ws) ws))
 have ha4:=(ix H ha).1
 rw[j6 H (by omega) (L.head a ha) (L.page a ha)]
 have hq:dW (G a)= -1∨ah pg (dW (G a))=true:=by
  cases e:G a with
  |nil=>exact .inl rfl
  |cons x t=>exact .inr (L.page a ha x (by rw[e];simp))
 have hpp:=ai.1 hp
 have hne:p≠ -1:=by omega
 have val:∀i:Int,0≤i→wAt (bI pg st a (-1) p (bI pg st a p (dW (G a)) ws)) i=if i=vA pg st p then 0 else if i=a then p+1 else if dW (G a)≠ -1∧i=vA pg st (dW (G a)) then p+1 else if i=nA pg st p then hd1 (G a) else wAt ws i:=fun i hi=>by
  rw[pA H ha (.inl rfl) (.inr hp) (by rw[gL H];exact hn) hi,pA H ha (.inr hp) hq hn hi,if_pos rfl,if_neg hne,ul]
  by_cases e:i=vA pg st p
  ·rw[if_pos ⟨hne,e⟩,if_pos e];omega
  ·rw[if_neg (fun z:p≠ -1∧i=vA pg st p=>e z.2),if_neg e]
 have hlen:(bI pg st a (-1) p (bI pg st a p (dW (G a)) ws)).length=ws.length:=by rw[gL H,gL H]
 generalize bI pg st a (-1) p (bI pg st a p (dW (G a)) ws)=xs at val hlen
 have hfa:=hf a ha
 have qmem:dW (G a)≠ -1→dW (G a)∈G a:=fun e=>by
  cases e2:G a with
  |nil=>rw[e2] at e;exact absurd rfl e
  |cons x t=>simp[dW]
 have pos1:=fun(b:Int) (hb:bZ pg st b)=>(ix H hb).1
 have posn:=fun(r:Int) (hr:ah pg r=true)=>(fN H hr).1.1
 have posv:=fun(r:Int) (hr:ah pg r=true)=>(fN H hr).2.1
 have injn:∀r,nA pg st r=nA pg st p→r=p:=fun r e=>by unfold nA at e;omega
 have injv:∀r s,vA pg st r=vA pg st s→r=s:=fun r s e=>by unfold vA at e;omega
 refine⟨⟨fun b hb=>?_,fun b hb r hr=>?_,fun b hb=>?_,fun b b' r hb hb' hr hr'=>?_,fun b r hb hr=>?_,fun b r hb hr=>?_,fun r hr hno=>?_⟩,?_,fun i h0 h1 h2=>?_⟩
 ·have nv:=eK H hb hp
  rw[val b (by have:=pos1 b hb;omega),if_neg nv.2]
  by_cases e:b=a
  ·rw[if_pos e,e,bu];rfl
  ·rw[if_neg e,bm _ _ _ e,if_neg (fun z=>(eK H hb (L.page a ha _ (qmem z.1))).2 z.2),if_neg nv.1]
   exact L.head b hb
 ·by_cases e:b=a
  ·subst e
   rw[bu] at hr
   rcases List.mem_cons.1 hr with rfl|hr
   ·exact hp
   ·exact L.page b hb r hr
  ·rw[bm _ _ _ e] at hr;exact L.page b hb r hr
 ·by_cases e:b=a
  ·subst e
   rw[bu]
   exact List.nodup_cons.2 ⟨hfa,L.nodup b hb⟩
  ·rw[bm _ _ _ e];exact L.nodup b hb
 ·have cas:∀b,bZ pg st b→r∈mD G a (p::G a) b→(b=a∧r=p)∨r∈G b:=fun b hb hr=>by
   by_cases e:b=a
   ·subst e
    rw[bu] at hr
    rcases List.mem_cons.1 hr with h|h
    ·exact .inl ⟨rfl,h⟩
    ·exact .inr h
   ·rw[bm _ _ _ e] at hr;exact .inr hr
  rcases cas b hb hr with⟨e,h⟩|h
  ·rcases cas b' hb' hr' with⟨e',_⟩|h'
   ·rw[e,e']
   ·rw[h] at h';exact absurd h' (hf b' hb')
  ·rcases cas b' hb' hr' with⟨e',h'⟩|h'
   ·rw[h'] at h;exact absurd h (hf b hb)
   ·exact L.apart b b' r hb hb' h h'
 ·have hrp:ah pg r=true:=by
   by_cases e:b=a
   ·subst e
    rw[bu] at hr
    rcases List.mem_cons.1 hr with rfl|hr
    ·exact hp
    ·exact L.page b hb r hr
   ·rw[bm _ _ _ e] at hr;exact L.page b hb r hr
  have p0:=posn r hrp
  rw[val _ (by omega),if_neg (dG H hrp hp),if_neg (fun e=>(eK H ha hrp).1 e.symm),if_neg (fun z=>dG H hrp (L.page a ha _ (qmem z.1)) z.2)]
  by_cases e:r=p
  ·subst e
   have:b=a:=by
    rcases Classical.em (b=a) with h|h
    ·exact h
    ·rw[bm _ _ _ h] at hr;exact absurd hr (hf b hb)
   subst this
   rw[if_pos rfl,bu]
   exact(gB [] (G b) r (by simp)).symm
  ·rw[if_neg (fun z=>e (injn r z))]
   by_cases e2:b=a
   ·subst e2
    rw[bu] at hr⊢
    have hr:=(List.mem_cons.1 hr).resolve_left e
    rw[L.next b r hb hr]
    show _=if p=r then _ else nxL (G b) r
    rw[if_neg (fun z=>e z.symm)]
   ·rw[bm _ _ _ e2] at hr⊢
    exact L.next b r hb hr
 ·have hrp:ah pg r=true:=by
   by_cases e:b=a
   ·subst e
    rw[bu] at hr
    rcases List.mem_cons.1 hr with rfl|hr
    ·exact hp
    ·exact L.page b hb r hr
   ·rw[bm _ _ _ e] at hr;exact L.page b hb r hr
  have p0:=posv r hrp
  rw[val _ (by omega)]
  by_cases e:r=p
  ·subst e
   have:b=a:=by
    rcases Classical.em (b=a) with h|h
    ·exact h
    ·rw[bm _ _ _ h] at hr;exact absurd hr (hf b hb)
   subst this
   rw[if_pos rfl,bu]
   exact(ic [] (G b) r (by simp)).symm
  ·rw[if_neg (fun z=>e (injv r p z)),if_neg (fun z=>(eK H ha hrp).2 z.symm)]
   by_cases e2:b=a
   ·subst e2
    rw[bu] at hr⊢
    have hr:=(List.mem_cons.1 hr).resolve_left e
    have e5:pvL 0 (p::G b) r=pvL (p+1) (G b) r:=by show(if p=r then 0 else pvL (p+1) (G b) r)=_;rw[if_neg (fun z=>e z.symm)]
    rw[e5]
    by_cases e3:r=dW (G b)
    ·have hq1:dW (G b)≠ -1:=by have:=ai.1 hrp;omega
     rw[if_pos ⟨hq1,by rw[e3]⟩]
     cases e4:G b with
     |nil=>rw[e4] at hr;cases hr
     |cons x t =>
      rw[e4] at e3
      have:x=r:=e3.symm
      show _=if x=r then p+1 else _
      rw[if_pos this]
    ·rw[if_neg (fun z=>e3 (injv _ _ z.2)),if_neg (fun z=>(dG H hp hrp) z.symm),L.prev b r hb hr]
     cases e4:G b with
     |nil=>rw[e4] at hr;cases hr
     |cons x t =>
      rw[e4] at e3
      have:x≠r:=fun z=>e3 z.symm
      show(if x=r then 0 else pvL (x+1) t r)=if x=r then p+1 else pvL (x+1) t r
      rw[if_neg this,if_neg this]
   ·rw[bm _ _ _ e2] at hr⊢
    rw[if_neg (fun z=>e2 (L.apart b a r hb ha hr (by rw[injv _ _ z.2];exact qmem z.1))),if_neg (fun z=>(dG H hp hrp) z.symm)]
    exact L.prev b r hb hr
 ·have hrne:r≠p:=fun e=>hno a ha (by rw[bu,e];simp)
  have hno':∀b,bZ pg st b→r∉G b:=fun b hb q=>by
   by_cases e:b=a
   ·subst e;exact hno b hb (by rw[bu];simp[q])
   ·exact hno b hb (by rw[bm _ _ _ e];exact q)
  have:=L.free r hr hno'
  have p0:=posn r hr
  have p1:=posv r hr
  rw[val _ (by omega),val _ (by omega)]
  rw[if_neg (dG H hr hp),if_neg (fun z=>(eK H ha hr).1 z.symm),if_neg (fun z=>dG H hr (L.page a ha _ (qmem z.1)) z.2),if_neg (fun z=>hrne (injn r z))]
  rw[if_neg (fun z=>hrne (injv r p z)),if_neg (fun z=>(eK H ha hr).2 z.symm),if_neg (fun z=>hno' a ha (by rw[injv _ _ z.2];exact qmem z.1)),if_neg (fun z=>(dG H hp hr) z.symm)]
  exact this
 ·exact hlen
 ·rw[val i h0,if_neg (h2 p hp).2,if_neg (fun e=>h1 (by rw[e];exact ha)),if_neg (fun z=>(h2 _ (L.page a ha _ (qmem z.1))).2 z.2),if_neg (h2 p hp).1]
theorem kN {c f p:Int}{G:Int→List Int}{ws:List Int}(L:Ln pg st G ws)(hn:ws.length=n)(hz:ay pg st c f≠0){s t:List Int}(hG:G (ay pg st c f)=s++p::t)(hs:p∉s):
 (aU pg st p c f ws).1=true∧Ln pg st (mD G (ay pg st c f) (s++t)) (aU pg st p c f ws).2∧du pg st ws (aU pg st p c f ws).2:=by
 have ha:=(cW hz).1
 have hpm:p∈G (ay pg st c f):=by rw[hG];simp
 have hp:=L.page _ ha p hpm
 have thr:=Bg H L ha hG hs
 have hv:aU pg st p c f ws=(true,((bI pg st (ay pg st c f) (bD s) (aR pg (nA pg st p) ws) ws).set (nA pg st p).toNat 0).set (vA pg st p).toNat 0):=by
  unfold aU
  rw[thr,if_pos ⟨hp,rfl⟩]
 rw[hv]
 refine⟨rfl,?_⟩
 generalize ay pg st c f=a at ha hz hG hpm
 show Ln pg st (mD G a (s++t)) (((bI pg st a (bD s) (aR pg (nA pg st p) ws) ws).set (nA pg st p).toNat 0).set (vA pg st p).toNat 0)∧du pg st ws (((bI pg st a (bD s) (aR pg (nA pg st p) ws) ws).set (nA pg st p).toNat 0).set (vA pg st p).toNat 0)
 have hpgl:=L.page a ha
 have hnd:=L.nodup a ha
 rw[hG] at hpgl hnd
 have hna:=List.nodup_append.1 hnd
 have hpt:p∉t:=(List.nodup_cons.1 hna.2.1).1
 have hst:∀x,x∈s→x∉t:=fun x h1 h2=>hna.2.2 x h1 x (by simp[h2]) rfl
 have hnp:wAt ws (nA pg st p)=hd1 t:=by rw[L.next a p ha hpm,hG,gB s t p hs]
 obtain⟨⟨a0,a1,a2⟩,c0,c1,c2⟩:=fN H hp
 have htp:∀x∈t,ah pg x=true:=fun x hx=>hpgl x (by simp[hx])
 have hsp:∀x∈s,ah pg x=true:=fun x hx=>hpgl x (by simp[hx])
 rw[j6 H (by omega) hnp htp]
 have hq:dW t= -1∨ah pg (dW t)=true:=by
  cases t with
  |nil=>exact .inl rfl
  |cons x t=>exact .inr (htp x (by simp))
 have hb:=uc H hsp
 have val:∀i:Int,0≤i→wAt (((bI pg st a (bD s) (dW t) ws).set (nA pg st p).toNat 0).set (vA pg st p).toNat 0) i=if i=vA pg st p then 0 else if i=nA pg st p then 0 else if dW t≠ -1∧i=vA pg st (dW t) then bD s+1 else if i=(if bD s= -1 then a else nA pg st (bD s)) then hd1 t else wAt ws i:=fun i hi=>by
  rw[bo (by omega) hi (by simp[gL H];omega),bo (by omega) hi (by rw[gL H];omega),pA H ha hb hq hn hi,ul]
 have hlen:(((bI pg st a (bD s) (dW t) ws).set (nA pg st p).toNat 0).set (vA pg st p).toNat 0).length=ws.length:=by simp[gL H]
 generalize ((bI pg st a (bD s) (dW t) ws).set (nA pg st p).toNat 0).set (vA pg st p).toNat 0=xs at val hlen
 have hpp:=ai.1 hp
 have pos1:=fun(b:Int) (hb:bZ pg st b)=>(ix H hb).1
 have posn:=fun(r:Int) (hr:ah pg r=true)=>(fN H hr).1.1
 have posv:=fun(r:Int) (hr:ah pg r=true)=>(fN H hr).2.1
 have injn:∀r s,nA pg st r=nA pg st s→r=s:=fun r s e=>by unfold nA at e;omega
 have injv:∀r s,vA pg st r=vA pg st s→r=s:=fun r s e=>by unfold vA at e;omega
 have qmem:dW t≠ -1→dW t∈t:=fun e=>by
  cases t with
  |nil=>exact absurd rfl e
  |cons x t=>simp[dW]
 have bmem:bD s≠ -1→bD s∈s:=fun e=>oc s (fun z=>by rw[z] at e;exact e rfl)
 have snil:bD s= -1→s= []:=fun e=>by
  rcases Classical.em (s= []) with z|z
  ·exact z
  ·have:=ai.1 (hsp _ (oc s z));omega
 have mem':∀b r,bZ pg st b→r∈mD G a (s++t) b→r∈G b∧r≠p:=fun b r hb hr=>by
  by_cases e:b=a
  ·subst e
   rw[bu] at hr
   refine⟨?_,fun z=>?_⟩
   ·rw[hG]
    rcases List.mem_append.1 hr with h|h<;>simp[h]
   ·rw[z] at hr
    rcases List.mem_append.1 hr with h|h
    ·exact hs h
    ·exact hpt h
  ·rw[bm _ _ _ e] at hr
   exact⟨hr,fun z=>e (L.apart b a p hb ha (z▸hr) hpm)⟩
 have qin:∀r,dW t≠ -1∧vA pg st r=vA pg st (dW t)→r∈t:=fun r z=>by rw[injv _ _ z.2];exact qmem z.1
 have ga:∀r,r∈s∨r∈t→r∈G a:=fun r h=>by rw[hG];rcases h with h|h<;>simp[h]
 refine⟨⟨fun b hb=>?_,fun b hb r hr=>L.page b hb r (mem' b r hb hr).1,fun b hb=>?_,fun b b' r hb hb' hr hr'=>L.apart b b' r hb hb' (mem' b r hb hr).1 (mem' b' r hb' hr').1,fun b r hb hr=>?_,fun b r hb hr=>?_,fun r hr hno=>?_⟩,hlen,fun i h0 h1 h2=>?_⟩
 ·have nv:=eK H hb hp
  rw[val b (by have:=pos1 b hb;omega),if_neg nv.2,if_neg nv.1,if_neg (fun z=>(eK H hb (htp _ (qmem z.1))).2 z.2)]
  by_cases e:b=a
  ·subst e
   rw[bu]
   by_cases e2:bD s= -1
   ·rw[if_pos e2,if_pos rfl,snil e2];rfl
   ·rw[if_neg e2,if_neg (eK H hb (hsp _ (bmem e2))).1,L.head b hb,hG]
    cases s with
    |nil=>exact absurd rfl e2
    |cons x s=>rfl
  ·rw[bm _ _ _ e]
   by_cases e2:bD s= -1
   ·rw[if_pos e2,if_neg e];exact L.head b hb
   ·rw[if_neg e2,if_neg (eK H hb (hsp _ (bmem e2))).1];exact L.head b hb
 ·by_cases e:b=a
  ·subst e
   rw[bu]
   refine List.nodup_append.2 ⟨hna.1,(List.nodup_cons.1 hna.2.1).2,fun x hx y hy z=>?_⟩
   subst z
   exact hst x hx hy
  ·rw[bm _ _ _ e];exact L.nodup b hb
 ·obtain⟨hr1,hrp⟩:=mem' b r hb hr
  have hrg:=L.page b hb r hr1
  have p0:=posn r hrg
  rw[val _ (by omega),if_neg (dG H hrg hp),if_neg (fun z=>hrp (injn _ _ z)),if_neg (fun z=>dG H hrg (htp _ (qmem z.1)) z.2)]
  have hh:nA pg st r≠a:=fun z=>(eK H ha hrg).1 z.symm
  by_cases e:b=a
  ·subst e
   rw[bu] at hr⊢
   by_cases e2:r=bD s
   ·have hs0:bD s≠ -1:=by rw[←e2];have:=ai.1 hrg;omega
    rw[if_neg hs0,if_pos (by rw[e2])]
    obtain⟨s',y,rfl⟩:∃s' y,s=s'++ [y]:=⟨s.dropLast,s.getLast (fun z=>hs0 (by rw[z];rfl)),(List.dropLast_concat_getLast _).symm⟩
    rw[eH] at e2
    subst e2
    have:r∉s':=fun q=>(List.nodup_append.1 hna.1).2.2 r q r (by simp) rfl
    rw[List.append_assoc]
    exact(gB s' t r this).symm
   ·have hif:nA pg st r≠(if bD s= -1 then b else nA pg st (bD s)):=by
     by_cases e3:bD s= -1
     ·rw[if_pos e3];exact hh
     ·rw[if_neg e3];exact fun z=>e2 (injn _ _ z)
    rw[if_neg hif,L.next b r hb hr1,hG]
    rcases List.mem_append.1 hr with h|h
    ·obtain⟨u,v,rfl,hu⟩:=fT h
     have hv:v≠ []:=fun z=>e2 (by rw[z,eH])
     obtain⟨y,v',rfl⟩:=List.exists_cons_of_ne_nil hv
     have h1:(u++r::y::v')++p::t=u++r::(y::(v'++p::t)):=by simp
     have h2:(u++r::y::v')++t=u++r::(y::(v'++t)):=by simp
     rw[h1,h2,gB u _ r hu,gB u _ r hu]
     rfl
    ·obtain⟨u,v,rfl,hu⟩:=fT h
     have hrs:r∉s:=fun q=>hst r q h
     have h1:s++p::(u++r::v)=(s++p::u)++r::v:=by simp
     have h2:s++(u++r::v)=(s++u)++r::v:=by simp
     rw[h1,h2,gB _ v r (by simp;exact⟨hrs,hrp,hu⟩),gB _ v r (by simp;exact⟨hrs,hu⟩)]
  ·rw[bm _ _ _ e] at hr⊢
   have hif:nA pg st r≠(if bD s= -1 then a else nA pg st (bD s)):=by
    by_cases e3:bD s= -1
    ·rw[if_pos e3];exact hh
    ·rw[if_neg e3];exact fun z=>e (L.apart b a r hb ha hr (by rw[injn _ _ z];exact ga _ (.inl (bmem e3))))
   rw[if_neg hif]
   exact L.next b r hb hr
 ·obtain⟨hr1,hrp⟩:=mem' b r hb hr
  have hrg:=L.page b hb r hr1
  have p0:=posv r hrg
  rw[val _ (by omega),if_neg (fun z=>hrp (injv _ _ z)),if_neg (fun z=>dG H hp hrg z.symm)]
  have hif:vA pg st r≠(if bD s= -1 then a else nA pg st (bD s)):=by
   by_cases e3:bD s= -1
   ·rw[if_pos e3];exact fun z=>(eK H ha hrg).2 z.symm
   ·rw[if_neg e3];exact fun z=>dG H (hsp _ (bmem e3)) hrg z.symm
  by_cases e:b=a
  ·subst e
   rw[bu] at hr⊢
   by_cases e2:dW t≠ -1∧vA pg st r=vA pg st (dW t)
   ·rw[if_pos e2]
    have hrt:=qin r e2
    have hr':=injv _ _ e2.2
    cases t with
    |nil=>cases hrt
    |cons x t' =>
     have:x=r:=hr'.symm
     subst this
     exact(ic s t' x (fun q=>hst x q (by simp))).symm
   ·rw[if_neg e2,if_neg hif,L.prev b r hb hr1,hG]
    rcases List.mem_append.1 hr with h|h
    ·obtain⟨u,v,rfl,hu⟩:=fT h
     have h1:(u++r::v)++p::t=u++r::(v++p::t):=by simp
     have h2:(u++r::v)++t=u++r::(v++t):=by simp
     rw[h1,h2,ic u _ r hu,ic u _ r hu]
    ·obtain⟨u,v,rfl,hu⟩:=fT h
     have hrs:r∉s:=fun q=>hst r q h
     have hun:u≠ []:=fun z=>e2 (by subst z;exact⟨by show r≠ -1;have:=ai.1 hrg;omega,rfl⟩)
     have h1:s++p::(u++r::v)=(s++p::u)++r::v:=by simp
     have h2:s++(u++r::v)=(s++u)++r::v:=by simp
     rw[h1,h2,ic _ v r (by simp;exact⟨hrs,hrp,hu⟩),ic _ v r (by simp;exact⟨hrs,hu⟩),oa s (p::u) (by simp),mC p u hun,oa s u hun]
  ·rw[bm _ _ _ e] at hr⊢
   rw[if_neg (fun z=>e (L.apart b a r hb ha hr (ga _ (.inr (qin r z))))),if_neg hif]
   exact L.prev b r hb hr
 ·have p0:=posn r hr
  have p1:=posv r hr
  rw[val _ (by omega),val _ (by omega)]
  by_cases e:r=p
  ·subst e
   rw[if_neg (dG H hr hr),if_pos rfl,if_pos rfl]
   exact⟨rfl,rfl⟩
  ·have hno':∀b,bZ pg st b→r∉G b:=fun b hb q=>by
    by_cases e2:b=a
    ·subst e2
     refine hno b hb ?_
     rw[bu]
     rw[hG] at q
     rcases List.mem_append.1 q with h|h
     ·simp[h]
     ·simp[(List.mem_cons.1 h).resolve_left e]
    ·exact hno b hb (by rw[bm _ _ _ e2];exact q)
   have fr:=L.free r hr hno'
   have hif1:nA pg st r≠(if bD s= -1 then a else nA pg st (bD s)):=by
    by_cases e3:bD s= -1
    ·rw[if_pos e3];exact fun z=>(eK H ha hr).1 z.symm
    ·rw[if_neg e3];exact fun z=>hno' a ha (by rw[injn _ _ z];exact ga _ (.inl (bmem e3)))
   have hif2:vA pg st r≠(if bD s= -1 then a else nA pg st (bD s)):=by
    by_cases e3:bD s= -1
    ·rw[if_pos e3];exact fun z=>(eK H ha hr).2 z.symm
    ·rw[if_neg e3];exact fun z=>dG H (hsp _ (bmem e3)) hr z.symm
   rw[if_neg (dG H hr hp),if_neg (fun z=>e (injn _ _ z)),if_neg (fun z=>dG H hr (htp _ (qmem z.1)) z.2),if_neg hif1]
   rw[if_neg (fun z=>e (injv _ _ z)),if_neg (fun z=>dG H hp hr z.symm),if_neg (fun z=>hno' a ha (ga _ (.inr (qin r z)))),if_neg hif2]
   exact fr
 ·have hif:i≠(if bD s= -1 then a else nA pg st (bD s)):=by
   by_cases e3:bD s= -1
   ·rw[if_pos e3];exact fun z=>h1 (by rw[z];exact ha)
   ·rw[if_neg e3];exact(h2 _ (hsp _ (bmem e3))).1
  rw[val i h0,if_neg (h2 p hp).2,if_neg (h2 p hp).1,if_neg (fun z=>(h2 _ (htp _ (qmem z.1))).2 z.2),if_neg hif]
theorem jc {c f p:Int}{G:Int→List Int}{ws:List Int}(L:Ln pg st G ws)(h:ah pg p=true→ay pg st c f≠0→p∉G (ay pg st c f)):aU pg st p c f ws=(false,ws):=by
 unfold aU
 refine if_neg (fun z=>?_)
 have hp:=ai.1 z.1
 by_cases e:ay pg st c f=0
 ·have:=(yZ H (p:=p) ws).2 (by omega)
  rw[e,this] at z
  cases z.2
 ·have:=(Bh H L (cW e).1 (h z.1 e)).2 (by omega)
  rw[this] at z
  cases z.2
end
theorem za {pg st:Int}{n:Nat}(H:dh pg st n):Ln pg st (fun _=> []) (cC n):=by
 have hz:∀i:Int,wAt (cC n) i=0:=fun i=>by
  unfold wAt cC
  simp only[List.getD,List.getElem?_replicate]
  split<;>rfl
 exact⟨fun a _=>hz a,fun a _ p h=>(by cases h),fun a _=>List.nodup_nil,fun a b p _ _ h=>(by cases h),fun a p _ h=>(by cases h),fun a p _ h=>(by cases h),fun p _ _=>⟨hz _,hz _⟩⟩
section
variable {pg st:Int}{n:Nat}(H:dh pg st n)
include H
end
section
variable {pg st:Int}{n:Nat}(H:dh pg st n)
include H
end
theorem du.symm {pg st:Int}{a b:List Int}(h:du pg st a b):du pg st b a:=⟨h.len.symm,fun i h0 h1 h2=>(h.off i h0 h1 h2).symm⟩
def lC (pg st h:Int)(ps:List Int)(i:Nat)(ws:List Int):List Int:=(ws.set (nA pg st (ps.getD i 0)).toNat 0).set (vA pg st (ps.getD i 0)).toNat 0
def kO (pg st h:Int)(ps:List Int)(i:Nat)(ws:List Int):List Int:=if i=0 then ws.set h.toNat (ps.getD i 0+1) else ws.set (vA pg st (ps.getD i 0)).toNat (ps.getD (i-1) 0+1)
def jF (pg st h:Int)(ps:List Int)(i:Nat)(ws:List Int):List Int:=if i+1<ps.length then ws.set (nA pg st (ps.getD i 0)).toNat (ps.getD (i+1) 0+1) else ws
def fD (pg st h:Int)(ps:List Int):Nat→List Int→List Int
 | 0,ws=>ws.set h.toNat 0
 |i+1,ws=>jF pg st h ps i (kO pg st h ps i (lC pg st h ps i (fD pg st h ps i ws)))
def kP (pg st h:Int)(ps:List Int)(ws:List Int):List Int:=fD pg st h ps ps.length ws
theorem j7 (pg st h:Int)(ps:List Int)(i:Nat)(ws:List Int):(lC pg st h ps i ws).length=ws.length:=by unfold lC;simp
theorem qX (pg st h:Int)(ps:List Int)(i:Nat)(ws:List Int):(kO pg st h ps i ws).length=ws.length:=by unfold kO;split<;>simp
theorem zb (pg st h:Int)(ps:List Int)(i:Nat)(ws:List Int):(jF pg st h ps i ws).length=ws.length:=by unfold jF;split<;>simp
theorem mE (pg st h:Int)(ps:List Int)(i:Nat)(ws:List Int):(fD pg st h ps i ws).length=ws.length:=by
 induction i with
 |zero=>unfold fD;simp
 |succ i ih=>unfold fD;rw[zb,qX,j7,ih]
structure Ee (pg st h:Int)(ps:List Int)(ws:List Int)(i:Nat)(ws':List Int):Prop where
 hd:wAt ws' h=if i=0 then 0 else hd1 ps
 nx:∀k,k<i→wAt ws' (nA pg st (ps.getD k 0))=if k+1<ps.length then ps.getD (k+1) 0+1 else 0
 pv:∀k,k<i→wAt ws' (vA pg st (ps.getD k 0))=if k=0 then 0 else ps.getD (k-1) 0+1
 off:∀x:Int,0≤x→x≠h→(∀k,k<i→x≠nA pg st (ps.getD k 0)∧x≠vA pg st (ps.getD k 0))→wAt ws' x=wAt ws x
theorem cu {l:List Int}{k:Nat}(h:k<l.length):l.getD k 0∈l:=by rw[List.getD_eq_getElem?_getD,List.getElem?_eq_getElem h];exact List.getElem_mem h
theorem qY {l:List Int}(hd:l.Nodup){i j:Nat}(hi:i<l.length)(hj:j<l.length)(e:l.getD i 0=l.getD j 0):i=j:=by
 rw[List.getD_eq_getElem?_getD,List.getD_eq_getElem?_getD,List.getElem?_eq_getElem hi,List.getElem?_eq_getElem hj] at e
 have hp:=List.pairwise_iff_getElem.1 hd
 rcases Nat.lt_trichotomy i j with h|h|h
 ·exact absurd e (hp i j hi hj h)
 ·exact h
 ·exact absurd e.symm (hp j i hj hi h)
section
variable {pg st:Int}{n:Nat}(H:dh pg st n)
include H
theorem pB {p q:Int}(e:nA pg st p=nA pg st q):p=q:=by unfold nA at e;omega
theorem pC {p q:Int}(e:vA pg st p=vA pg st q):p=q:=by unfold vA at e;omega
theorem Bi {h:Int}(hh:bZ pg st h){ps:List Int}(hp:∀p∈ps,ah pg p=true)(hd:ps.Nodup){ws:List Int}(hn:ws.length=n)(i:Nat):i≤ps.length→Ee pg st h ps ws i (fD pg st h ps i ws):=by
 obtain⟨h0,h1,_⟩:=ix H hh
 induction i with
 |zero =>
  intro _
  refine⟨?_,fun k hk=>by omega,fun k hk=>by omega,fun x x0 xh _=>?_⟩
  ·show wAt (ws.set h.toNat 0) h=0
   rw[bo (by omega) (by omega) (by omega),if_pos rfl]
  ·show wAt (ws.set h.toNat 0) x=_
   rw[bo (by omega) x0 (by omega),if_neg xh]
 |succ i ih =>
  intro hi
  have I:=ih (by omega)
  have hil:i<ps.length:=by omega
  have hP:=hp _ (cu hil)
  obtain⟨⟨n0,n1,_⟩,⟨v0,v1,_⟩⟩:=fN H hP
  obtain⟨hn1,hv1⟩:=eK H hh hP
  have hnv:=dG H hP hP
  have hL:(fD pg st h ps i ws).length=n:=by rw[mE,hn]
  -- what the three steps do with a word
  have hA:∀x:Int,0≤x→wAt (lC pg st h ps i (fD pg st h ps i ws)) x=if x=vA pg st (ps.getD i 0) then 0 else if x=nA pg st (ps.getD i 0) then 0 else wAt (fD pg st h ps i ws) x:=fun x x0=>by
   unfold lC
   rw[bo (by omega) x0 (by rw[List.length_set];omega),bo (by omega) x0 (by omega)]
  have hB:∀x:Int,0≤x→wAt (kO pg st h ps i (lC pg st h ps i (fD pg st h ps i ws))) x=if i=0 then(if x=h then ps.getD i 0+1 else wAt (lC pg st h ps i (fD pg st h ps i ws)) x) else(if x=vA pg st (ps.getD i 0) then ps.getD (i-1) 0+1 else wAt (lC pg st h ps i (fD pg st h ps i ws)) x):=fun x x0=>by
   unfold kO
   split
   ·rw[bo (by omega) x0 (by rw[j7];omega)]
   ·rw[bo (by omega) x0 (by rw[j7];omega)]
  have hC:∀x:Int,0≤x→wAt (fD pg st h ps (i+1) ws) x=if i+1<ps.length then(if x=nA pg st (ps.getD i 0) then ps.getD (i+1) 0+1 else wAt (kO pg st h ps i (lC pg st h ps i (fD pg st h ps i ws))) x) else wAt (kO pg st h ps i (lC pg st h ps i (fD pg st h ps i ws))) x:=fun x x0=>by
   show wAt (jF pg st h ps i _) x=_
   unfold jF
   split
   ·rw[bo (by omega) x0 (by rw[qX,j7];omega)]
   ·rfl
  have key:∀x:Int,0≤x→wAt (fD pg st h ps (i+1) ws) x=if x=nA pg st (ps.getD i 0) then(if i+1<ps.length then ps.getD (i+1) 0+1 else 0) else if x=vA pg st (ps.getD i 0) then(if i=0 then 0 else ps.getD (i-1) 0+1) else if x=h then(if i=0 then ps.getD 0 0+1 else wAt (fD pg st h ps i ws) h) else wAt (fD pg st h ps i ws) x:=fun x x0=>by
   rw[hC x x0,hB x x0,hA x x0]
   by_cases e1:x=nA pg st (ps.getD i 0)
   ·have e2:x≠vA pg st (ps.getD i 0):=by rw[e1];exact hnv
    have e3:x≠h:=by rw[e1];exact fun q=>hn1 q.symm
    simp only[if_pos e1,if_neg e2,if_neg e3,ite_self]
   ·by_cases e2:x=vA pg st (ps.getD i 0)
    ·have e3:x≠h:=by rw[e2];exact fun q=>hv1 q.symm
     simp only[if_neg e1,if_pos e2,if_neg e3,ite_self]
    ·by_cases e3:x=h
     ·by_cases z:i=0
      ·subst z;simp only[if_neg e1,if_neg e2,if_pos e3,ite_self,if_true]
      ·rw[e3] at e1 e2⊢
       simp only[if_neg e1,if_neg e2,if_true,ite_self,if_neg z]
     ·simp only[if_neg e1,if_neg e2,if_neg e3,ite_self]
  refine⟨?_,fun k hk=>?_,fun k hk=>?_,fun x x0 xh hx=>?_⟩
  ·rw[key h (by omega),if_neg hn1,if_neg hv1,if_pos rfl,if_neg (show ¬(i+1=0) by omega)]
   by_cases z:i=0
   ·rw[if_pos z]
    match ps,hil with
    |y::l,_=>rfl
   ·rw[if_neg z,I.hd,if_neg z]
  ·obtain⟨⟨m0,_,_⟩,_⟩:=fN H (hp _ (cu (show k<ps.length by omega)))
   rw[key _ (by omega)]
   by_cases e:k=i
   ·rw[e,if_pos rfl]
   ·have ne:ps.getD k 0≠ps.getD i 0:=fun q=>e (qY hd (by omega) hil q)
    obtain⟨g1,g2⟩:=eK H hh (hp _ (cu (show k<ps.length by omega)))
    rw[if_neg (fun q=>ne (pB H q)),if_neg (dG H (hp _ (cu (show k<ps.length by omega))) hP),if_neg (fun q=>g1 q.symm)]
    exact I.nx k (by omega)
  ·obtain⟨_,⟨m0,_,_⟩⟩:=fN H (hp _ (cu (show k<ps.length by omega)))
   rw[key _ (by omega)]
   obtain⟨g1,g2⟩:=eK H hh (hp _ (cu (show k<ps.length by omega)))
   rw[if_neg (fun q=>dG H hP (hp _ (cu (show k<ps.length by omega))) q.symm)]
   by_cases e:k=i
   ·rw[e,if_pos rfl]
   ·have ne:ps.getD k 0≠ps.getD i 0:=fun q=>e (qY hd (by omega) hil q)
    rw[if_neg (fun q=>ne (pC H q)),if_neg (fun q=>g2 q.symm)]
    exact I.pv k (by omega)
  ·have:=hx i (by omega)
   rw[key x x0,if_neg this.1,if_neg this.2,if_neg xh]
   exact I.off x x0 xh (fun k hk=>hx k (by omega))
theorem zc {l:List Int}(hd:l.Nodup){k:Nat}(hk:k<l.length):nxL l (l.getD k 0)=if k+1<l.length then l.getD (k+1) 0+1 else 0:=by
 have hs:l=l.take k++l.getD k 0::l.drop (k+1):=by
  rw[List.getD_eq_getElem?_getD,List.getElem?_eq_getElem hk];simp
 have hnd:l.getD k 0∉l.take k:=by
  have hh:=hd
  rw[hs] at hh
  intro q
  exact(List.nodup_append.1 hh).2.2 _ q _ (by simp) rfl
 have h1:=gB (l.take k) (l.drop (k+1)) _ hnd
 rw[←hs] at h1
 rw[h1]
 by_cases h0:k+1<l.length
 ·rw[if_pos h0,List.drop_eq_getElem_cons h0,List.getD_eq_getElem?_getD,List.getElem?_eq_getElem h0];rfl
 ·rw[if_neg h0,List.drop_eq_nil_of_le (by omega)];rfl
theorem zd {l:List Int}(hd:l.Nodup){k:Nat}(hk:k<l.length):pvL 0 l (l.getD k 0)=if k=0 then 0 else l.getD (k-1) 0+1:=by
 have hs:l=l.take k++l.getD k 0::l.drop (k+1):=by
  rw[List.getD_eq_getElem?_getD,List.getElem?_eq_getElem hk];simp
 have hnd:l.getD k 0∉l.take k:=by
  have hh:=hd
  rw[hs] at hh
  intro q
  exact(List.nodup_append.1 hh).2.2 _ q _ (by simp) rfl
 have h1:=ic (l.take k) (l.drop (k+1)) _ hnd
 rw[←hs] at h1
 rw[h1]
 by_cases h0:k=0
 ·subst h0;rfl
 ·rw[if_neg h0]
  unfold bD
  have hl:(l.take k).length=k:=by simp;omega
  rw[hl,List.getD_eq_getElem?_getD,List.getD_eq_getElem?_getD,List.getElem?_take_of_lt (by omega),List.getElem?_eq_getElem (show k-1<l.length by omega)]
  rfl
theorem qZ {l:List Int}{p:Int}(h:p∈l):∃k,k<l.length∧l.getD k 0=p:=by
 obtain⟨k,hk,e⟩:=List.getElem_of_mem h
 exact⟨k,hk,by rw[List.getD_eq_getElem?_getD,List.getElem?_eq_getElem hk];exact e⟩
theorem ze {a:Int}{G:Int→List Int}{ws0 ws:List Int}(L:Ln pg st G ws0)(ha:bZ pg st a){ps:List Int}(hp:∀p∈ps,ah pg p=true)(hd:ps.Nodup)(hn:ws.length=n)
 (hap:∀b,bZ pg st b→b≠a→∀p∈G b,p∉ps) (hs:∀b,bZ pg st b→b≠a→wAt ws b=wAt ws0 b∧∀p∈G b,wAt ws (nA pg st p)=wAt ws0 (nA pg st p)∧wAt ws (vA pg st p)=wAt ws0 (vA pg st p))
 (hf:∀p,ah pg p=true→p∉ps→(∀b,bZ pg st b→b≠a→p∉G b)→wAt ws (nA pg st p)=0∧wAt ws (vA pg st p)=0):
 Ln pg st (mD G a ps) (kP pg st a ps ws)∧du pg st ws (kP pg st a ps ws):=by
 have I:=Bi H ha hp hd hn ps.length (Nat.le_refl _)
 have offp:∀q,ah pg q=true→q∉ps→wAt (kP pg st a ps ws) (nA pg st q)=wAt ws (nA pg st q)∧wAt (kP pg st a ps ws) (vA pg st q)=wAt ws (vA pg st q):=fun q hq hnq=>by
  obtain⟨⟨m0,_,_⟩,⟨m1,_,_⟩⟩:=fN H hq
  obtain⟨g1,g2⟩:=eK H ha hq
  refine⟨I.off _ (by omega) (fun e=>g1 e.symm) (fun k hk=>⟨fun e=>?_,?_⟩),I.off _ (by omega) (fun e=>g2 e.symm) (fun k hk=>⟨fun e=>?_,fun e=>?_⟩)⟩
  ·exact hnq (by rw[pB H e];exact cu hk)
  ·exact dG H hq (hp _ (cu hk))
  ·exact dG H (hp _ (cu hk)) hq e.symm
  ·exact hnq (by rw[pC H e];exact cu hk)
 refine⟨⟨fun b hb=>?_,fun b hb p hm=>?_,fun b hb=>?_,fun b1 b2 p h1 h2 m1 m2=>?_,fun b p hb hm=>?_,fun b p hb hm=>?_,fun p hpg hno=>?_⟩,⟨by unfold kP;rw[mE],fun i i0 i1 i2=>I.off i i0 (fun e=>i1 (e▸ha)) (fun k hk=>i2 _ (hp _ (cu hk)))⟩⟩
 ·by_cases e:b=a
  ·subst e
   rw[bu]
   have:=I.hd
   by_cases z:ps.length=0
   ·rw[if_pos z] at this
    rw[List.length_eq_zero_iff.1 z]
    have e0:kP pg st b [] ws=fD pg st b ps ps.length ws:=by rw[List.length_eq_zero_iff.1 z];rfl
    rw[e0];exact this
   ·rw[if_neg z] at this;exact this
  ·rw[bm _ _ _ e,←L.head b hb,←(hs b hb e).1]
   obtain⟨b0,_,_⟩:=ix H hb
   exact I.off b (by omega) e (fun k hk=>eK H hb (hp _ (cu hk)))
 ·by_cases e:b=a
  ·subst e;rw[bu] at hm;exact hp p hm
  ·rw[bm _ _ _ e] at hm;exact L.page b hb p hm
 ·by_cases e:b=a
  ·subst e;rw[bu];exact hd
  ·rw[bm _ _ _ e];exact L.nodup b hb
 ·by_cases e1:b1=a
  ·by_cases e2:b2=a
   ·rw[e1,e2]
   ·subst e1
    rw[bu] at m1
    rw[bm _ _ _ e2] at m2
    exact absurd m1 (hap b2 h2 e2 p m2)
  ·by_cases e2:b2=a
   ·subst e2
    rw[bu] at m2
    rw[bm _ _ _ e1] at m1
    exact absurd m2 (hap b1 h1 e1 p m1)
   ·rw[bm _ _ _ e1] at m1
    rw[bm _ _ _ e2] at m2
    exact L.apart b1 b2 p h1 h2 m1 m2
 ·by_cases e:b=a
  ·subst e
   rw[bu] at hm⊢
   obtain⟨k,hk,rfl⟩:=qZ H hm
   rw[zc H hd hk]
   exact I.nx k hk
  ·rw[bm _ _ _ e] at hm⊢
   rw[(offp p (L.page b hb p hm) (hap b hb e p hm)).1,((hs b hb e).2 p hm).1]
   exact L.next b p hb hm
 ·by_cases e:b=a
  ·subst e
   rw[bu] at hm⊢
   obtain⟨k,hk,rfl⟩:=qZ H hm
   rw[zd H hd hk]
   exact I.pv k hk
  ·rw[bm _ _ _ e] at hm⊢
   rw[(offp p (L.page b hb p hm) (hap b hb e p hm)).2,((hs b hb e).2 p hm).2]
   exact L.prev b p hb hm
 ·have hnp:p∉ps:=fun q=>hno a ha (by rw[bu];exact q)
  obtain⟨o1,o2⟩:=offp p hpg hnp
  obtain⟨f1,f2⟩:=hf p hpg hnp (fun b hb e q=>hno b hb (by rw[bm _ _ _ e];exact q))
  exact⟨o1.trans f1,o2.trans f2⟩
theorem vO {c f p:Int}{G:Int→List Int}{ws:List Int}(L:Ln pg st G ws)(hn:ws.length=n)(hz:ay pg st c f≠0)(hp:ah pg p=true)(hf:∀a,bZ pg st a→p∉G a):kP pg st (ay pg st c f) (p::G (ay pg st c f)) ws=(bJ pg st p c f ws).2:=by
 have ha:=(cW hz).1
 obtain⟨L1,o1⟩:=um H L hn hz hp hf
 obtain⟨L2,o2⟩:=ze H L ha (ps:=p::G (ay pg st c f)) (fun q hq=>by
  rcases List.mem_cons.1 hq with rfl|hq
  ·exact hp
  ·exact L.page _ ha q hq) (List.nodup_cons.2 ⟨hf _ ha,L.nodup _ ha⟩) hn
  (fun b hb e q hq hm=>by
   rcases List.mem_cons.1 hm with rfl|hm
   ·exact hf b hb hq
   ·exact e (L.apart b _ q hb ha hq hm))
  (fun b hb e=>⟨rfl,fun q hq=>⟨rfl,rfl⟩⟩)
  (fun q hq hm hno=>L.free q hq (fun b hb h=>by
   by_cases e:b=ay pg st c f
   ·subst e;exact hm (List.mem_cons_of_mem _ h)
   ·exact hno b hb e h))
 exact L1.uniq L2 (o1.symm.trans o2)
theorem sW {s t:List Int}{p:Int}(hs:p∉s)(ht:p∉t):(s++p::t).filter (fun x=>decide (x≠p))=s++t:=by
 have h1:∀l:List Int,p∉l→l.filter (fun x=>decide (x≠p))=l:=fun l hl=>List.filter_eq_self.2 (fun a ha=>by simp;rintro rfl;exact hl ha)
 rw[List.filter_append,List.filter_cons,h1 s hs,h1 t ht]
 simp
theorem q8 {c f p:Int}{G:Int→List Int}{ws:List Int}(L:Ln pg st G ws)(hn:ws.length=n)(hz:ay pg st c f≠0){s t:List Int}(hG:G (ay pg st c f)=s++p::t)(hs:p∉s):kP pg st (ay pg st c f) (s++t) ((ws.set (nA pg st p).toNat 0).set (vA pg st p).toNat 0)=(aU pg st p c f ws).2:=by
 have ha:=(cW hz).1
 have hmp:p∈G (ay pg st c f):=by rw[hG];simp
 have hp:=L.page _ ha p hmp
 obtain⟨_,L1,o1⟩:=kN H L hn hz hG hs
 have hnd:=L.nodup _ ha
 have hpg:=L.page _ ha
 rw[hG] at hnd hpg
 obtain⟨⟨n0,n1,_⟩,⟨v0,v1,_⟩⟩:=fN H hp
 have hw:∀x:Int,0≤x→wAt ((ws.set (nA pg st p).toNat 0).set (vA pg st p).toNat 0) x=if x=vA pg st p then 0 else if x=nA pg st p then 0 else wAt ws x:=fun x x0=>by
  rw[bo (by omega) x0 (by rw[List.length_set];omega),bo (by omega) x0 (by omega)]
 have ht:p∉t:=by
  have:=(List.nodup_append.1 hnd).2.1
  exact(List.nodup_cons.1 this).1
 have hsub:∀q,q∈s++t→q∈G (ay pg st c f):=fun q hq=>by
  rw[hG]
  rcases List.mem_append.1 hq with h|h
  ·exact List.mem_append_left _ h
  ·exact List.mem_append_right _ (List.mem_cons_of_mem _ h)
 obtain⟨L2,o2⟩:=ze H L ha (ps:=s++t) (ws:=(ws.set (nA pg st p).toNat 0).set (vA pg st p).toNat 0) (fun q hq=>L.page _ ha q (hsub q hq))
  (by
   refine List.nodup_append.2 ⟨(List.nodup_append.1 hnd).1,(List.nodup_cons.1 (List.nodup_append.1 hnd).2.1).2,fun a h1 b h2=>(List.nodup_append.1 hnd).2.2 a h1 b (List.mem_cons_of_mem _ h2)⟩)
  (by simp[hn])
  (fun b hb e q hq hm=>e (L.apart b _ q hb ha hq (hsub q hm)))
  (fun b hb e=>by
   obtain⟨b0,_,_⟩:=ix H hb
   obtain⟨g1,g2⟩:=eK H hb hp
   refine⟨by rw[hw b (by omega),if_neg g2,if_neg g1],fun q hq=>?_⟩
   have hqg:=L.page b hb q hq
   obtain⟨⟨m0,_,_⟩,⟨m1,_,_⟩⟩:=fN H hqg
   have hne:q≠p:=by rintro rfl;exact e (L.apart b _ q hb ha hq hmp)
   exact⟨by rw[hw _ (by omega),if_neg (dG H hqg hp),if_neg (fun z=>hne (pB H z))],by rw[hw _ (by omega),if_neg (fun z=>hne (pC H z)),if_neg (fun z=>dG H hp hqg z.symm)]⟩)
  (fun q hq hm hno=>by
   obtain⟨⟨m0,_,_⟩,⟨m1,_,_⟩⟩:=fN H hq
   by_cases e:q=p
   ·subst e
    exact⟨by rw[hw _ (by omega),if_neg (dG H hq hq),if_pos rfl],by rw[hw _ (by omega),if_pos rfl]⟩
   ·have hfree:=L.free q hq (fun b hb h=>by
     by_cases e2:b=ay pg st c f
     ·subst e2
      rw[hG] at h
      rcases List.mem_append.1 h with h|h
      ·exact hm (List.mem_append_left _ h)
      ·rcases List.mem_cons.1 h with h|h
       ·exact e h
       ·exact hm (List.mem_append_right _ h)
     ·exact hno b hb e2 h)
    exact⟨by rw[hw _ (by omega),if_neg (dG H hq hp),if_neg (fun z=>e (pB H z))];exact hfree.1,by rw[hw _ (by omega),if_neg (fun z=>e (pC H z)),if_neg (fun z=>dG H hp hq z.symm)];exact hfree.2⟩)
 have o3:du pg st ws ((ws.set (nA pg st p).toNat 0).set (vA pg st p).toNat 0):=⟨by simp,fun i i0 i1 i2=>by rw[hw i i0,if_neg (i2 p hp).2,if_neg (i2 p hp).1]⟩
 exact L1.uniq L2 (o1.symm.trans (o3.trans o2))
end
theorem un {n:Nat}{zs:List Int}{D:List KV}(hz:OkW zs)(h:eF n D)(hn:zs.length=n):OkW (bE zs D):=by
 subst hn
 intro x hx
 obtain⟨i,hi,rfl⟩:=List.getElem_of_mem hx
 have hl:i<zs.length:=by rw[dp] at hi;exact hi
 have h1:=qb (zs:=zs) h (a:=(i:Int)) (by omega) (by omega)
 have h2:wAt (bE zs D) (i:Int)=(bE zs D)[i]:=by simp[wAt,List.getD,hi]
 rw[←h2]
 exact tI (oC hz) h.ok h1
theorem uo {ws:List Int}(h:OkW ws)(a:Int):W64 (wAt ws a):=by
 unfold wAt
 by_cases e:a.toNat<ws.length
 ·rw[List.getD,List.getElem?_eq_getElem e];exact h _ (List.getElem_mem e)
 ·rw[List.getD,List.getElem?_eq_none (by omega)];unfold W64;constructor<;>decide
theorem sX {α β:Type}{n:Nat}{p:Prg α}{f:α→Prg β}{g:List Int→α×List Int}{k:α→List Int→β×List Int}{Q:α→Prop}(h:bL n p g)(hq:∀ws,ws.length=n→OkW ws→Q (g ws).1)(hf:∀x,Q x→bL n (f x) (k x)):bL n (aJ p f) (fun ws=>k (g ws).1 (g ws).2):=fun zs D hn hz hD=>by
 obtain⟨D1,e1,a1,i1⟩:=h zs D hn hz hD
 obtain⟨D2,e2,a2,i2⟩:=hf (g (bE zs D)).1 (hq _ (by rw[dp];exact hn) (un hz hD hn)) zs D1 hn hz i1
 refine⟨D2,?_,?_,i2⟩
 ·rw[bK e1,e2,a1]
 ·rw[a2,a1]
def ie (pg st k x:Int)(ws:List Int):Int×List Int :=
 if x= -1 then(if(dF pg st (dm pg st 1 1 ws) 1 (k+1) ws).1 then dm pg st 1 1 ws else -1,(dF pg st (dm pg st 1 1 ws) 1 (k+1) ws).2) else(x,ws)
def eT (pg st k:Int)(ws:List Int):Int×List Int:=if am k=0 then(-1,ws) else ie pg st k (aY pg st k (am k).toNat 1 ws) ws
def mF (pg st q k b:Int)(ws:List Int):List Int:=if el k b=am k then(Ce pg st q ws).2 else(ws.set (bA pg st q).toNat b).set (cA pg st q).toNat (el k b)
def iR (pg st q k was:Int)(ws:List Int):List Int:=(bJ pg st q k (bH pg st (aU pg st q k was ws).2 q) (aU pg st q k was ws).2).2
def mG (pg st q k was b:Int)(ws:List Int):List Int:=iR pg st q k was (mF pg st q k b ws)
def jG (us pg st k q:Int)(ws:List Int):(Int×Bool)×List Int :=
 if q= -1 then((0,false),ws) else if co (cE pg st ws q) (am k)= -1 then((0,false),ws)
 else((us+32 * q+co (cE pg st ws q) (am k) * szV k,true),mG pg st q k (bH pg st ws q) (dQ (cE pg st ws q) (co (cE pg st ws q) (am k))) ws)
def dn (us pg st k:Int)(ws:List Int):(Int×Bool)×List Int:=jG us pg st k (eT pg st k ws).1 (eT pg st k ws).2
def pD (pg st q wd x:Int)(ws:List Int):TkA :=
 if am (IntKind.i64.wrap (x-1))=0 then none else if wd % szV (IntKind.i64.wrap (x-1))≠0 then none
 else some (q,IntKind.i64.wrap (x-1),wd / szV (IntKind.i64.wrap (x-1)),eS (cE pg st ws q) (wd / szV (IntKind.i64.wrap (x-1))))
def kQ (us pg st a:Int)(ws:List Int):TkA:=if us≤a∧a<us+32 * pg then pD pg st ((a-us) / 32) ((a-us) % 32) (aE pg st ws ((a-us) / 32)) ws else none
def od (pg st k:Int)(ws:List Int):Bool:=aY pg st k (am k).toNat 1 ws != -1
section
variable {pg st:Int}{n:Nat}(H:dh pg st n)
include H
theorem ig {q:Int}(hq:ah pg q=true):(0≤cA pg st q∧cA pg st q<n∧W64 (cA pg st q))∧0≤bA pg st q∧bA pg st q<n∧W64 (bA pg st q):=by
 obtain⟨_,⟨b0,b1,b2⟩,c0,c1,c2⟩:=cH H.toPgIn hq
 exact⟨⟨by omega,b1,b2⟩,by omega,c1,c2⟩
theorem kR (k:Int)(m:Nat)(ws:List Int):∀f,aY pg st k m f ws= -1∨ah pg (aY pg st k m f ws)=true:=by
 induction m with
 |zero=>intro f;exact .inl rfl
 |succ m ih =>
  intro f
  show(if _ then _ else _)= -1∨ah pg (if _ then _ else _)=true
  split
  ·exact ih _
  ·exact mB H _ _
theorem rc {k:Int}(hk:0≤k∧k≤4)(x:Int):bL n (if x= -1 then aJ (sE pg st 1 1) (fun y=>aJ (po pg st y 1 (k+1)) fun b=>aL (if b then y else -1)) else aL x) (ie pg st k x):=by
 unfold ie
 exact bU (fun _=>aC (vC H.toPgIn 1 1) fun y=>aC (vy H.toPgIn y 1 (k+1) (by unfold W64;omega) DJ) fun b=>az n _) (fun _=>az n x)
theorem sY (k:Int):bL n (sO pg st k) (eT pg st k):=by
 unfold sO eT
 exact bU (fun _=>az n _) (fun h=>aC (nB H k _ 1) fun x=>rc H (fS h) x)
theorem vP {y m k:Int}{ws:List Int}(h:(dF pg st y m k ws).1=true):ah pg y=true:=by
 unfold dF at h
 split at h
 ·rename_i e
  simp at e
  have:=(gg.1 e.2).1
  have:=bx.1 this
  exact ai.2 ⟨by omega,by omega⟩
 ·cases h
theorem Bj (k:Int)(ws:List Int):(eT pg st k ws).1= -1∨ah pg (eT pg st k ws).1=true:=by
 unfold eT
 split
 ·exact .inl rfl
 ·unfold ie
  split
  ·show(if _ then _ else _)= -1∨ah pg (if _ then _ else _)=true
   split
   ·rename_i e;exact .inr (vP H e)
   ·exact .inl rfl
  ·exact kR H k _ ws 1
theorem sZ {q k b:Int}(hq:ah pg q=true)(hb:W64 b):bL n (px pg st q k b) (fun ws=>((),mF pg st q k b ws)):=by
 obtain⟨⟨b0,b1,b2⟩,c0,c1,c2⟩:=ig H hq
 unfold px
 refine bg (bU (fun _=>aC (vz H.toPgIn q) fun _=>az n ()) (fun _=>aC (cI c0 c1 c2 hb) fun _=>aC (cI b0 b1 b2 (x:=el k b) (by have:=DK b k;unfold W64;omega)) fun _=>az n _)) (fun ws _=>?_)
 unfold mF
 split<;>rfl
theorem s4 {q:Int}(hq:ah pg q=true)(k was:Int):bL n (sP pg st q k was) (fun ws=>((),iR pg st q k was ws)):=by
 obtain⟨⟨b0,b1,b2⟩,_⟩:=ig H hq
 exact aC (ny H q k was) fun _=>aC (cZ b0 b1) fun f=>aC (qV H q k f) fun _=>az n ()
theorem s8 (us k:Int){q:Int}(hq:q= -1∨ah pg q=true):bL n (if q= -1 then aL (0,false) else aJ (dE (bA pg st q)) fun b =>
 if co b (am k)= -1 then aL (0,false) else aJ (dE (cA pg st q)) fun was =>
  aJ (px pg st q k (dQ b (co b (am k)))) fun _=>aJ (sP pg st q k was) fun _=>aL (us+32 * q+co b (am k) * szV k,true)) (jG us pg st k q):=by
 unfold jG
 refine bU (fun _=>az n _) (fun h=>?_)
 have hq:=hq.resolve_left h
 obtain⟨⟨b0,b1,b2⟩,c0,c1,c2⟩:=ig H hq
 refine bg (sX (Q:=W64) (cZ c0 c1) (fun ws _ ho=>uo ho _) fun b hb=>bU (fun _=>az n ((0:Int),false)) fun _=>aC (cZ b0 b1) fun was=>aC (sZ H hq (Bb hb _)) fun _=>aC (s4 H hq k was) fun _=>az n (us+32 * q+co b (am k) * szV k,true)) (fun ws _=>?_)
 rfl
theorem vQ (us k:Int):bL n (DL us pg st k) (dn us pg st k):=
 fg (Q:=fun q=>q= -1∨ah pg q=true) (sY H k) (fun ws _=>Bj H k ws) fun q hq=>s8 H us k hq
end
theorem iT (j:Nat):dt 0 j=false:=by simp[dt,fi]
theorem jH {k:Int} :((dR (am k):Nat):Int)=am k:=by
 have:=dV k
 unfold dR;omega
theorem vR (k:Int):el k 0=am k:=by
 have:onN 0 (dR (am k))= []:=List.filter_eq_nil_iff.2 (fun j _=>by rw[iT];simp)
 unfold el fC
 rw[this];simp
theorem re {b k:Int}{j:Nat}(hj:(j:Int)<am k)(hb:dt b j=false):el k (dQ b (j:Int))=el k b-1:=by
 have hs:=dV k
 have he:=jH (k:=k)
 have:=CH (w:=b) (i:=(j:Int)) (pq (by omega)) (by simpa using hb) (dR (am k)) (j2 _)
 rw[if_pos (by omega)] at this
 unfold el fC
 omega
theorem s9 {b k:Int}(h:1≤el k b):∃j:Nat,co b (am k)=(j:Int)∧(j:Int)<am k∧dt b j=false∧el k (dQ b (j:Int))=el k b-1:=by
 have he:=jH (k:=k)
 rcases vt b (dR (am k)) with⟨_,ha⟩|⟨j,hj,e,hb,_⟩
 ·have:=CG ha
  unfold el fC at h
  omega
 ·exact⟨j,e,by omega,hb,re (by omega) hb⟩
theorem mH {k:Int}(h:am k≠0):co 0 (am k)=0:=by
 have hs:=dV k
 have he:=jH (k:=k)
 exact ja (w:=0) (k:=dR (am k)) (j:=0) (by omega) (iT 0) (fun i hi=>by omega)
def NoL (pg st i:Int):Prop:=¬bZ pg st i∧∀p,ah pg p=true→i≠nA pg st p∧i≠vA pg st p
section
variable {pg st:Int}{n:Nat}(H:dh pg st n)
include H
theorem zg {q:Int}(h:ah pg q=true):NoL pg st (kA pg st q):=by
 have:=ai.1 h
 refine⟨fun z=>?_,fun p hp=>?_⟩
 ·unfold bZ aQ kA at z;omega
 ·have:=ai.1 hp;unfold kA nA vA;omega
theorem uq {q:Int}(h:ah pg q=true):NoL pg st (cA pg st q):=by
 have:=ai.1 h
 refine⟨fun z=>?_,fun p hp=>?_⟩
 ·unfold bZ aQ cA at z;omega
 ·have:=ai.1 hp;unfold cA nA vA;omega
theorem ur {q:Int}(h:ah pg q=true):NoL pg st (bA pg st q):=by
 have:=ai.1 h
 refine⟨fun z=>?_,fun p hp=>?_⟩
 ·unfold bZ aQ bA at z;omega
 ·have:=ai.1 hp;unfold bA nA vA;omega
theorem zh {j:Int}(h:aP pg j=true):NoL pg st (ce pg st j):=by
 have:=bz.1 h
 have h1:=H.pg1
 rw[gA h]
 refine⟨fun z=>?_,fun p hp=>?_⟩
 ·unfold bZ aQ at z;omega
 ·have:=ai.1 hp;unfold nA vA;omega
theorem du.kind {a b:List Int}(o:du pg st a b)(p:Int):aE pg st b p=aE pg st a p:=by
 cases h:ah pg p with
 |false=>rw[dA h,dA h]
 |true =>
  have h0:=(cH H.toPgIn h).1.1
  rw[fO h,fO h,o.off _ (by omega) (zg H h).1 (zg H h).2]
theorem du.cnt {a b:List Int}(o:du pg st a b){p:Int}(h:ah pg p=true):bH pg st b p=bH pg st a p :=
 o.off _ (ig H h).1.1 (uq H h).1 (uq H h).2
theorem du.bit {a b:List Int}(o:du pg st a b){p:Int}(h:ah pg p=true):cE pg st b p=cE pg st a p :=
 o.off _ (ig H h).2.1 (ur H h).1 (ur H h).2
theorem du.map {a b:List Int}(o:du pg st a b)(j:Int):aF pg st b j=aF pg st a j:=by
 unfold aF
 cases h:aP pg j with
 |false=>rfl
 |true =>
  have h0:=(iw H.toTblIn h).1
  rw[o.off _ (by omega) (zh H h).1 (zh H h).2]
theorem Ln.same {G:Int→List Int}{a b:List Int}(L:Ln pg st G a)(h:∀i,0≤i→¬NoL pg st i→wAt b i=wAt a i):Ln pg st G b:=by
 have hh:∀i,bZ pg st i→wAt b i=wAt a i:=fun i hi=>h i (by have:=(ix H hi).1;omega) (fun z=>z.1 hi)
 have hn:∀p,ah pg p=true→wAt b (nA pg st p)=wAt a (nA pg st p)∧wAt b (vA pg st p)=wAt a (vA pg st p):=fun p hp =>
  ⟨h _ (by have:=(fN H hp).1.1;omega) (fun z=>(z.2 p hp).1 rfl),h _ (by have:=(fN H hp).2.1;omega) (fun z=>(z.2 p hp).2 rfl)⟩
 refine⟨fun i hi=>by rw[hh i hi];exact L.head i hi,L.page,L.nodup,L.apart,fun i p hi hp=>?_,fun i p hi hp=>?_,fun p hp hf=>?_⟩
 ·rw[(hn p (L.page i hi p hp)).1];exact L.next i p hi hp
 ·rw[(hn p (L.page i hi p hp)).2];exact L.prev i p hi hp
 ·rw[(hn p hp).1,(hn p hp).2];exact L.free p hp hf
structure Mod (pg st:Int)(n:Nat)(q f':Int)(T:List Int→List Int):Prop where
 len:∀a,a.length=n→(T a).length=n
 off:∀a b,a.length=n→b.length=n→du pg st a b→du pg st (T a) (T b)
 no:∀a,a.length=n→∀i,0≤i→¬NoL pg st i→wAt (T a) i=wAt a i
 cnt:∀a,a.length=n→bH pg st (T a) q=f'
def dP (pg st q b f:Int)(ws:List Int):List Int:=(ws.set (bA pg st q).toNat b).set (cA pg st q).toNat f
theorem fP {q:Int}(h:ah pg q=true)(b f:Int){ws:List Int}(hn:ws.length=n){i:Int}(hi:0≤i):wAt (dP pg st q b f ws) i=if i=cA pg st q then f else if i=bA pg st q then b else wAt ws i:=by
 obtain⟨⟨b0,b1,_⟩,c0,c1,_⟩:=ig H h
 unfold dP
 rw[bo b0 hi (by simp[hn];exact b1),bo c0 hi (by rw[hn];exact c1)]
theorem rf {q:Int}(h:ah pg q=true)(b f:Int):Mod pg st n q f (dP pg st q b f):=by
 refine⟨fun a e=>by simp[dP,e],fun a a' e e' o=>⟨by simp[dP,e,e'],fun i h0 h1 h2=>?_⟩,fun a e i h0 h1=>?_,fun a e=>?_⟩
 ·rw[fP H h b f e' h0,fP H h b f e h0,o.off i h0 h1 h2]
 ·have k1:i≠cA pg st q:=fun z=>h1 (by rw[z];exact uq H h)
  have k2:i≠bA pg st q:=fun z=>h1 (by rw[z];exact ur H h)
  rw[fP H h b f e h0,if_neg k1,if_neg k2]
 ·show wAt (dP pg st q b f a) (cA pg st q)=f
  rw[fP H h b f e (ig H h).1.1,if_pos rfl]
def rg (pg st:Int)(G:Int→List Int)(k f:Int)(s t:List Int):Int→List Int:=if ay pg st k f=0 then G else mD G (ay pg st k f) (s++t)
def zi (pg st:Int)(G:Int→List Int)(q k f:Int):Int→List Int:=if ay pg st k f=0 then G else mD G (ay pg st k f) (q::G (ay pg st k f))
theorem zj {q k f:Int}(hq:ah pg q=true){G:Int→List Int}{ws:List Int}(L:Ln pg st G ws)(hn:ws.length=n)(hf:∀a,bZ pg st a→q∉G a):
 Ln pg st (zi pg st G q k f) (bJ pg st q k f ws).2∧du pg st ws (bJ pg st q k f ws).2:=by
 unfold zi
 by_cases hz:ay pg st k f=0
 ·have e:bJ pg st q k f ws=(false,ws):=by unfold bJ;exact if_neg (fun z=>z.1 hz)
  rw[if_pos hz,e]
  exact⟨L,du.refl _ _ _⟩
 ·rw[if_neg hz]
  exact um H L hn hz hq hf
theorem zk {q k f:Int}{G:Int→List Int}{s t:List Int}(hin:ay pg st k f≠0→G (ay pg st k f)=s++q::t∧q∉s){ws:List Int}(L:Ln pg st G ws)(hn:ws.length=n):
 Ln pg st (rg pg st G k f s t) (aU pg st q k f ws).2∧du pg st ws (aU pg st q k f ws).2:=by
 unfold rg
 by_cases hz:ay pg st k f=0
 ·rw[if_pos hz,jc H L (fun _ z=>absurd hz z)]
  exact⟨L,du.refl _ _ _⟩
 ·rw[if_neg hz]
  obtain⟨h1,h2⟩:=hin hz
  exact(kN H L hn hz h1 h2).2
theorem DN {q k f f':Int}{T:List Int→List Int}(M:Mod pg st n q f' T)(hq:ah pg q=true){G:Int→List Int}{ws:List Int}(L:Ln pg st G ws)(hn:ws.length=n)
 (hin:∀a,bZ pg st a→(q∈G a↔ay pg st k f=a)):
 ∃G1 G2,Ln pg st G1 (aU pg st q k f ws).2∧du pg st ws (aU pg st q k f ws).2∧(aU pg st q k f ws).2.length=n∧(∀a,bZ pg st a→q∉G1 a) ∧
  Ln pg st G2 (iR pg st q k f (T ws))∧du pg st (T ws) (iR pg st q k f (T ws)) ∧
  (bJ pg st q k f' (T (aU pg st q k f ws).2)).2=iR pg st q k f (T ws) ∧
  (∀a p,bZ pg st a→p≠q→(p∈G2 a↔p∈G a))∧∀a,bZ pg st a→(q∈G2 a↔ay pg st k f'=a):=by
 obtain⟨s,t,hst⟩:∃s t,ay pg st k f≠0→G (ay pg st k f)=s++q::t∧q∉s:=by
  by_cases hz:ay pg st k f=0
  ·exact⟨[],[],fun z=>absurd hz z⟩
  ·obtain⟨s,t,h1,h2⟩:=fT ((hin _ (cW hz).1).2 rfl)
   exact⟨s,t,fun _=>⟨h1,h2⟩⟩
 have m1:∀a,bZ pg st a→q∉rg pg st G k f s t a:=fun a ha hm=>by
  unfold rg at hm
  by_cases hz:ay pg st k f=0
  ·rw[if_pos hz] at hm
   have:=(hin a ha).1 hm
   rw[hz] at this
   have:=(ix H ha).1
   omega
  ·rw[if_neg hz] at hm
   obtain⟨h1,h2⟩:=hst hz
   by_cases e:a=ay pg st k f
   ·subst e
    rw[bu] at hm
    have nd:=L.nodup _ (cW hz).1
    rw[h1] at nd
    rcases List.mem_append.1 hm with z|z
    ·exact h2 z
    ·exact(List.nodup_cons.1 (List.nodup_append.1 nd).2.1).1 z
   ·rw[bm _ _ _ e] at hm
    exact e ((hin a ha).1 hm).symm
 have m2:∀a p,bZ pg st a→p≠q→(p∈rg pg st G k f s t a↔p∈G a):=fun a p ha hp=>by
  unfold rg
  by_cases hz:ay pg st k f=0
  ·rw[if_pos hz]
  ·rw[if_neg hz]
   obtain⟨h1,h2⟩:=hst hz
   by_cases e:a=ay pg st k f
   ·subst e
    rw[bu,h1]
    simp[hp]
   ·rw[bm _ _ _ e]
 obtain⟨L1,o1⟩:=zk H hst L hn
 have hB:(T ws).length=n:=M.len _ hn
 have LB:Ln pg st G (T ws):=L.same H (M.no ws hn)
 obtain⟨L2,o2⟩:=zk H hst LB hB
 have n1:(aU pg st q k f ws).2.length=n:=o1.len.trans hn
 have n2:(aU pg st q k f (T ws)).2.length=n:=o2.len.trans hB
 have ec:bH pg st (aU pg st q k f (T ws)).2 q=f':=by rw[o2.cnt H hq,M.cnt ws hn]
 have em:iR pg st q k f (T ws)=(bJ pg st q k f' (aU pg st q k f (T ws)).2).2:=by unfold iR;rw[ec]
 obtain⟨L3,o3⟩:=zj H (k:=k) (f:=f') hq L2 n2 m1
 have LT:Ln pg st (rg pg st G k f s t) (T (aU pg st q k f ws).2):=L1.same H (M.no _ n1)
 obtain⟨L4,o4⟩:=zj H (k:=k) (f:=f') hq LT (M.len _ n1) m1
 have oB:=o2.trans o3
 have oY:=(M.off _ _ hn n1 o1).trans o4
 refine⟨_,zi pg st (rg pg st G k f s t) q k f',L1,o1,n1,m1,by rw[em];exact L3,by rw[em];exact oB,?_,fun a p ha hp=>?_,fun a ha=>?_⟩
 ·rw[em]
  exact Ln.uniq L3 L4 (oB.symm.trans oY)
 ·rw[←m2 a p ha hp]
  unfold zi
  by_cases hz:ay pg st k f'=0
  ·rw[if_pos hz]
  ·rw[if_neg hz]
   by_cases e:a=ay pg st k f'
   ·subst e;rw[bu];simp[hp]
   ·rw[bm _ _ _ e]
 ·unfold zi
  by_cases hz:ay pg st k f'=0
  ·rw[if_pos hz]
   exact⟨fun z=>absurd z (m1 a ha),fun z=>by have:=(ix H ha).1;omega⟩
  ·rw[if_neg hz]
   by_cases e:a=ay pg st k f'
   ·subst e;rw[bu];simp
   ·rw[bm _ _ _ e]
    exact⟨fun z=>absurd z (m1 a ha),fun z=>absurd z.symm e⟩
end
structure PgF (pg st:Int)(G:Int→List Int)(ws:List Int):Prop where
 wf:Wf pg st ws
 cnt:∀p,ah pg p=true→1≤aE pg st ws p∧aE pg st ws p≤5→bH pg st ws p=el (aE pg st ws p-1) (cE pg st ws p)∧bH pg st ws p<am (aE pg st ws p-1)
 mem:∀a p,bZ pg st a→(p∈G a↔ah pg p=true∧(1≤aE pg st ws p∧aE pg st ws p≤5)∧ay pg st (aE pg st ws p-1) (bH pg st ws p)=a)
structure PgW (pg st:Int)(G:Int→List Int)(ws:List Int):Prop where
 ln:Ln pg st G ws
 f:PgF pg st G ws
theorem PgF.kd {pg st:Int}{G:Int→List Int}{ws:List Int}(F:PgF pg st G ws):∀p,ah pg p=true→0≤aE pg st ws p∧aE pg st ws p≤7:=F.wf.b
theorem PgF.free {pg st:Int}{G:Int→List Int}{ws:List Int}(F:PgF pg st G ws):∀p,ah pg p=true→aE pg st ws p=0→bH pg st ws p=0∧cE pg st ws p=0:=fun p _=>F.wf.free p
theorem PgF.map {pg st:Int}{G:Int→List Int}{ws:List Int}(F:PgF pg st G ws):∀p,ah pg p=true→aE pg st ws p≠0→aF pg st ws (p / 4)=true:=F.wf.map
theorem Wf.alike {pg st:Int}{a b:List Int}(w:Wf pg st a)(hk:∀p,aE pg st b p=aE pg st a p)(hc:∀p,ah pg p=true→bH pg st b p=bH pg st a p)(hb:∀p,ah pg p=true→cE pg st b p=cE pg st a p)(hm:∀p,ah pg p=true→aF pg st b (p / 4)=aF pg st a (p / 4)):Wf pg st b:=by
 refine⟨fun p hp=>by rw[hk];exact w.b p hp,fun p e=>by rw[hk] at e⊢;exact w.rest p e,fun p e=>?_,fun p e=>?_,fun p hp e=>by rw[hk] at e;rw[hm p hp];exact w.map p hp e⟩
 ·rw[hk] at e
  have hp:=ai.2 (py (pg:=pg) (ws:=a) (st:=st) (p:=p) (by omega))
  obtain⟨r0,r1,r2,r3⟩:=w.run p e
  rw[hc p hp]
  exact⟨r0,r1,fun i i0 i1=>by rw[hk];exact r2 i i0 i1,by rw[hk];exact r3⟩
 ·rw[hk] at e
  have hp:=ai.2 (py (pg:=pg) (ws:=a) (st:=st) (p:=p) (by omega))
  rw[hc p hp,hb p hp]
  exact w.free p e
theorem Wf.turn {pg st:Int}{a b:List Int}(w:Wf pg st a){q:Int}(hq:ah pg q=true){k f c:Int}(kq:aE pg st a q≤5)
 (hk:∀p,ah pg p=true→aE pg st b p=if p=q then k else aE pg st a p) (hc:∀p,ah pg p=true→bH pg st b p=if p=q then f else bH pg st a p) (hb:∀p,ah pg p=true→cE pg st b p=if p=q then c else cE pg st a p)
 (hm:∀p,ah pg p=true→p≠q→aF pg st a (p / 4)=true→aF pg st b (p / 4)=true) (hmq:k≠0→aF pg st b (q / 4)=true)
 (k0:0≤k∧k≤5) (kf:k=0→f=0∧c=0):Wf pg st b:=by
 have hout:∀p,p≠q→aE pg st b p=aE pg st a p:=fun p e=>by
  cases hp:ah pg p with
  |true=>rw[hk p hp,if_neg e]
  |false=>rw[dA hp,dA hp]
 have hqq:aE pg st b q=k:=by rw[hk q hq,if_pos rfl]
 have pg_of:∀p,aE pg st b p≠ -1→ah pg p=true:=fun p e=>ai.2 (py (pg:=pg) (ws:=b) (st:=st) (p:=p) e)
 refine⟨fun p hp=>?_,fun p e=>?_,fun p e=>?_,fun p e=>?_,fun p hp e=>?_⟩
 ·rw[hk p hp];split
  ·omega
  ·exact w.b p hp
 ·have hpq:p≠q:=fun z=>by rw[z,hqq] at e;omega
  rw[hout p hpq] at e
  have h1:=w.rest p e
  have:p-1≠q:=fun z=>by rw[z] at h1;omega
  rw[hout _ this];exact h1
 ·have hpq:p≠q:=fun z=>by rw[z,hqq] at e;omega
  rw[hc p (pg_of p (by omega)),if_neg hpq]
  rw[hout p hpq] at e
  obtain⟨r0,r1,r2,r3⟩:=w.run p e
  refine⟨r0,r1,fun i i0 i1=>?_,fun z=>r3 ?_⟩
  ·have h1:=r2 i i0 i1
   have:i≠q:=fun z=>by rw[z] at h1;omega
   rw[hout i this];exact h1
  ·have:p+bH pg st a p≠q:=fun y=>by rw[y,hqq] at z;omega
   rwa [hout _ this] at z
 ·have hp:=pg_of p (by omega)
  rw[hc p hp,hb p hp]
  by_cases z:p=q
  ·rw[if_pos z,if_pos z];rw[z,hqq] at e;exact kf e
  ·rw[if_neg z,if_neg z];rw[hout p z] at e;exact w.free p e
 ·rw[hk p hp] at e
  by_cases z:p=q
  ·rw[if_pos z] at e;rw[z];exact hmq e
  ·rw[if_neg z] at e;exact hm p hp z (w.map p hp e)
section
variable {pg st:Int}{n:Nat}(H:dh pg st n)
include H
theorem PgF.off {G:Int→List Int}{a b:List Int}(F:PgF pg st G a)(o:du pg st a b):PgF pg st G b:=by
 refine⟨F.wf.alike (fun p=>o.kind H p) (fun p hp=>o.cnt H hp) (fun p hp=>o.bit H hp) (fun p hp=>o.map H _),fun p hp=>by rw[o.kind H,o.cnt H hp,o.bit H hp];exact F.cnt p hp,fun x p hx=>?_⟩
 rw[F.mem x p hx]
 constructor
 ·rintro⟨h1,h2,h3⟩
  exact⟨h1,by rw[o.kind H];exact h2,by rw[o.kind H,o.cnt H h1];exact h3⟩
 ·rintro⟨h1,h2,h3⟩
  rw[o.kind H] at h2
  rw[o.kind H,o.cnt H h1] at h3
  exact⟨h1,h2,h3⟩
theorem PgF.turn {G G2:Int→List Int}{a b:List Int}(F:PgF pg st G a){q:Int}(hq:ah pg q=true){k f c:Int}(kq:aE pg st a q≤5)
 (hk:∀p,ah pg p=true→aE pg st b p=if p=q then k else aE pg st a p) (hc:∀p,ah pg p=true→bH pg st b p=if p=q then f else bH pg st a p) (hb:∀p,ah pg p=true→cE pg st b p=if p=q then c else cE pg st a p)
 (hm:∀p,ah pg p=true→p≠q→aF pg st a (p / 4)=true→aF pg st b (p / 4)=true) (hmq:k≠0→aF pg st b (q / 4)=true)
 (k0:0≤k∧k≤5) (kf:k=0→f=0∧c=0) (kc:1≤k→f=el (k-1) c∧f<am (k-1))
 (g1:∀x p,bZ pg st x→p≠q→(p∈G2 x↔p∈G x)) (g2:∀x,bZ pg st x→(q∈G2 x↔1≤k∧ay pg st (k-1) f=x)):PgF pg st G2 b:=by
 refine⟨F.wf.turn hq kq hk hc hb hm hmq k0 kf,fun p hp=>?_,fun x p hx=>?_⟩
 ·rw[hk p hp,hc p hp,hb p hp];split
  ·exact fun z=>kc z.1
  ·exact F.cnt p hp
 ·by_cases e:p=q
  ·subst e
   rw[g2 x hx,hk p hq,hc p hq,if_pos rfl,if_pos rfl]
   exact⟨fun z=>⟨hq,⟨z.1,k0.2⟩,z.2⟩,fun z=>⟨z.2.1.1,z.2.2⟩⟩
  ·rw[g1 x p hx e,F.mem x p hx]
   constructor
   ·rintro⟨h1,h2⟩
    rw[hk p h1,hc p h1,if_neg e,if_neg e];exact⟨h1,h2⟩
   ·rintro⟨h1,h2⟩
    rw[hk p h1,hc p h1,if_neg e,if_neg e] at h2;exact⟨h1,h2⟩
theorem jd {q:Int}(h:ah pg q=true)(b f:Int){ws:List Int}(hn:ws.length=n)(p:Int):aE pg st (dP pg st q b f ws) p=aE pg st ws p:=by
 cases hp:ah pg p with
 |false=>rw[dA hp,dA hp]
 |true =>
  have h0:=(cH H.toPgIn hp).1.1
  have:=ai.1 h;have:=ai.1 hp
  rw[fO hp,fO hp,fP H h b f hn (by omega),if_neg (by unfold kA cA;omega),if_neg (by unfold kA bA;omega)]
theorem j8 {q:Int}(h:ah pg q=true)(b f:Int){ws:List Int}(hn:ws.length=n){p:Int}(hp:ah pg p=true):bH pg st (dP pg st q b f ws) p=if p=q then f else bH pg st ws p:=by
 have:=ai.1 h;have:=ai.1 hp
 unfold bH
 rw[fP H h b f hn (ig H hp).1.1]
 by_cases e:p=q
 ·rw[if_pos e,if_pos (by rw[e])]
 ·rw[if_neg e,if_neg (by unfold cA;omega),if_neg (by unfold cA bA;omega)]
theorem j9 {q:Int}(h:ah pg q=true)(b f:Int){ws:List Int}(hn:ws.length=n){p:Int}(hp:ah pg p=true):cE pg st (dP pg st q b f ws) p=if p=q then b else cE pg st ws p:=by
 have:=ai.1 h;have:=ai.1 hp
 unfold cE
 rw[fP H h b f hn (ig H hp).2.1,if_neg (by unfold cA bA;omega)]
 by_cases e:p=q
 ·rw[if_pos e,if_pos (by rw[e])]
 ·rw[if_neg e,if_neg (by unfold bA;omega)]
theorem kb {q:Int}(h:ah pg q=true)(b f:Int){ws:List Int}(hn:ws.length=n)(j:Int):aF pg st (dP pg st q b f ws) j=aF pg st ws j:=by
 unfold aF
 cases hj:aP pg j with
 |false=>rfl
 |true =>
  have h0:=(iw H.toTblIn hj).1
  obtain⟨t0,t1,t2⟩:=iO H.toPgIn hj h
  rw[fP H h b f hn (by omega),if_neg t1,if_neg t2]
theorem CW {G:Int→List Int}{ws:List Int}(L:Ln pg st G ws){k f:Int}(h0:ay pg st k f≠0):aR pg (ay pg st k f) ws=dW (G (ay pg st k f)):=by
 have ha:=(cW h0).1
 have:=(ix H ha).1
 exact j6 H (by omega) (L.head _ ha) (L.page _ ha)
theorem zm {G:Int→List Int}{ws:List Int}(L:Ln pg st G ws){k:Int}(hk:0≤k∧k≤4)(m:Nat):∀f:Int,1≤f→f+m=am k+1 →
 (aY pg st k m f ws= -1∧∀x,f≤x→x≤am k→G (ay pg st k x)= []) ∨
 ∃x t,f≤x∧x≤am k∧ay pg st k x≠0∧G (ay pg st k x)=aY pg st k m f ws::t∧∀y,f≤y→y<x→G (ay pg st k y)= []:=by
 have hs:=nZ hk
 have hh:∀x,1≤x→x≤am k→ay pg st k x≠0:=fun x h1 h2=>by
  have h3:=H.st1;have h4:=H.pg1
  unfold ay;rw[if_pos ⟨hk.1,hk.2,h1,by omega⟩]
  unfold aQ aK aA cX
  (repeat' split)<;>omega
 induction m with
 |zero=>intro f h1 h2;exact .inl ⟨rfl,fun x h3 h4=>by omega⟩
 |succ m ih =>
  intro f h1 h2
  have hz:=hh f h1 (by omega)
  have hl:=CW H L hz
  show(((if aR pg (ay pg st k f) ws= -1 then aY pg st k m (f+1) ws else aR pg (ay pg st k f) ws)= -1)∧_)∨∃x t,f≤x∧x≤am k∧ay pg st k x≠0∧G (ay pg st k x)=(if aR pg (ay pg st k f) ws= -1 then aY pg st k m (f+1) ws else aR pg (ay pg st k f) ws)::t∧_
  rw[hl]
  cases hG:G (ay pg st k f) with
  |nil =>
   rw[show dW ([]:List Int)= -1 from rfl,if_pos rfl]
   rcases ih (f+1) (by omega) (by omega) with⟨h3,h4⟩|⟨x,t,h3,h4,h5,h6,h7⟩
   ·refine .inl ⟨h3,fun x h5 h6=>?_⟩
    by_cases e:x=f
    ·rw[e];exact hG
    ·exact h4 x (by omega) h6
   ·refine .inr ⟨x,t,by omega,h4,h5,h6,fun y h8 h9=>?_⟩
    by_cases e:y=f
    ·rw[e];exact hG
    ·exact h7 y (by omega) h9
  |cons p t =>
   have hp:=ai.1 (L.page _ (cW hz).1 p (by rw[hG];simp))
   rw[show dW (p::t)=p from rfl,if_neg (by omega)]
   exact .inr ⟨f,t,Int.le_refl _,by omega,hz,hG,fun y h8 h9=>by omega⟩
theorem zn (ws:List Int):(dm pg st 1 1 ws= -1∧∀p,ah pg p=true→aE pg st ws p≠0)∨(ah pg (dm pg st 1 1 ws)=true∧aE pg st ws (dm pg st 1 1 ws)=0):=by
 have h1:=H.pg1
 have key:∀f:Int→Bool,(bQ f pg 1 1= -1∧∀p,ah pg p=true→f p=false)∨(ah pg (bQ f pg 1 1)=true∧f (bQ f pg 1 1)=true):=fun f=>by
  rcases ib (f:=f) (pg:=pg) (m:=1) (step:=1) (by omega) (by omega) (pg.toNat+1) 0 0 rfl (by omega) (by omega) with⟨e,hn⟩|⟨k,e,h0,hh,_⟩
  ·refine .inl ⟨e,fun p hp=>?_⟩
   have hp:=ai.1 hp
   cases hf:f p with
   |false=>rfl
   |true =>
    refine absurd ?_ (hn p (by omega))
    rw[Int.mul_one]
    exact⟨by omega,fun i i0 i1=>by rw[show i=p by omega];exact hf⟩
  ·rw[Int.mul_one] at e hh h0
   have e:bQ f pg 1 1=k:=e
   rw[e]
   exact .inr ⟨ai.2 ⟨h0,by have:=hh.1;omega⟩,hh.2 k (by omega) (by omega)⟩
 unfold dm
 rw[if_pos ⟨by omega,by omega⟩]
 rcases key (dr pg st ws) with⟨e,hn⟩|⟨e,hf⟩
 ·rw[if_pos e]
  rcases key (eD pg st ws) with⟨e2,hn2⟩|⟨e2,hf2⟩
  ·refine .inl ⟨e2,fun p hp=>?_⟩
   have:=hn2 p hp
   simpa [eD] using this
  ·refine .inr ⟨e2,?_⟩
   simpa [eD] using hf2
 ·have:=ai.1 e
  rw[if_neg (by omega)]
  refine .inr ⟨e,?_⟩
  simp[dr] at hf
  exact hf.2
theorem zo {y k:Int}(hk:0≤k∧k≤4){ws:List Int}(hn:ws.length=n)(hy:ah pg y=true)(h0:aE pg st ws y=0):(dF pg st y 1 (k+1) ws).1=true∧yV pg st y 1 (k+1) ws (dF pg st y 1 (k+1) ws).2:=by
 have hp:=ai.1 hy
 have ht:aV pg y 1=true:=bx.2 ⟨hp.1,by omega,by omega⟩
 have hv:jh pg st y 1 ws=true:=gg.2 ⟨ht,fun i i0 i1=>by rw[show i=y by omega];exact h0⟩
 have hf:qI (k+1) 1=true:=pn.2 (.inr ⟨by omega,by omega,rfl⟩)
 have T:=vF H.toPgIn (p:=y) (m:=1) (k:=k+1) hn ht
 unfold dF
 rw[hf,hv]
 exact⟨rfl,T⟩
theorem Bk {y m k:Int}{a b:List Int}(T:yV pg st y m k a b):∀i,0≤i→¬NoL pg st i→wAt b i=wAt a i:=fun i h0 h1 =>
 T.off i h0 (fun p hp=>⟨fun z=>h1 (by rw[z];exact zg H hp),fun z=>h1 (by rw[z];exact uq H hp),fun z=>h1 (by rw[z];exact ur H hp)⟩) (fun j hj z=>h1 (by rw[z];exact zh H hj))
theorem rh {α:Type}{p:Prg α}{g:List Int→α×List Int}(hF:bL n p g){ws:List Int}(hn:ws.length=n)(ho:OkW ws):OkW (g ws).2∧(g ws).2.length=n:=by
 obtain⟨D,_,a,i⟩:=hF ws [] hn ho (fW _)
 have a:bE ws D=(g ws).2:=a
 rw[←a]
 exact⟨un ho i hn,by rw[dp];exact hn⟩
end
section
variable {pg st:Int}{n:Nat}(H:dh pg st n)
include H
theorem jI (us:Int){k:Int}(h:am k=0)(ws:List Int):dn us pg st k ws=((0,false),ws):=by
 unfold dn eT
 rw[if_pos h]
 unfold jG
 rw[if_pos rfl]
theorem vS {m k:Int}(ws:List Int):dF pg st (-1) m k ws=(false,ws):=by
 have:jh pg st (-1) m ws=false:=by
  cases e:jh pg st (-1) m ws with
  |false=>rfl
  |true=>have:=bx.1 (gg.1 e).1;omega
 unfold dF
 rw[this]
 simp
theorem jJ (us:Int){k:Int}(hs:am k≠0){ws:List Int}(h1:aY pg st k (am k).toNat 1 ws= -1)(h2:dm pg st 1 1 ws= -1):dn us pg st k ws=((0,false),ws):=by
 have e:eT pg st k ws=(-1,ws):=by
  unfold eT ie
  rw[if_neg hs,h1,if_pos rfl,h2,vS H]
  rfl
 unfold dn
 rw[e]
 unfold jG
 rw[if_pos rfl]
theorem vT {k:Int}(hs:am k≠0){ws:List Int}{q:Int}(h1:aY pg st k (am k).toNat 1 ws=q)(hq:q≠ -1):eT pg st k ws=(q,ws):=by
 unfold eT ie
 rw[if_neg hs,h1,if_neg hq]
theorem vU {k:Int}(hs:am k≠0){ws:List Int}{y:Int}(h1:aY pg st k (am k).toNat 1 ws= -1)(h2:dm pg st 1 1 ws=y)(h3:(dF pg st y 1 (k+1) ws).1=true):eT pg st k ws=(y,(dF pg st y 1 (k+1) ws).2):=by
 unfold eT ie
 rw[if_neg hs,h1,if_pos rfl,h2,h3]
 rfl
theorem ri {q k b f:Int}(ho:el k b=f)(hf:f≠am k)(ws:List Int):mF pg st q k b ws=dP pg st q b f ws:=by
 unfold mF dP
 rw[if_neg (by rw[ho];exact hf),ho]
structure pE (pg st:Int)(n:Nat)(q k f f':Int)(T:List Int→List Int)(ws:List Int)(G G1 G2:Int→List Int)(u X:List Int):Prop where
 eu:(aU pg st q k f ws).2=u
 l1:Ln pg st G1 u
 nu:u.length=n
 o1:du pg st ws u
 m1:∀a,bZ pg st a→q∉G1 a
 lt:Ln pg st G1 (T u)
 nt:(T u).length=n
 eX:(bJ pg st q k f' (T u)).2=X
 eM:iR pg st q k f (T ws)=X
 l2:Ln pg st G2 X
 o2:du pg st (T ws) X
 m2:∀a p,bZ pg st a→p≠q→(p∈G2 a↔p∈G a)
 m3:∀a,bZ pg st a→(q∈G2 a↔ay pg st k f'=a)
theorem zp {q k f f':Int}{T:List Int→List Int}(M:Mod pg st n q f' T)(hq:ah pg q=true){G:Int→List Int}{ws:List Int}(L:Ln pg st G ws)(hn:ws.length=n)
 (hin:∀a,bZ pg st a→(q∈G a↔ay pg st k f=a)):∃G1 G2 u X,pE pg st n q k f f' T ws G G1 G2 u X:=by
 obtain⟨G1,G2,h1,h2,h3,h4,h5,h6,h7,h8,h9⟩:=DN H M hq L hn hin
 exact⟨G1,G2,_,_,⟨rfl,h1,h3,h2,h4,h1.same H (M.no _ h3),M.len _ h3,h7,rfl,h5,h6,h8,h9⟩⟩
theorem mI (us:Int){k:Int}(hs:am k≠0){G:Int→List Int}{ws:List Int}(P:PgW pg st G ws)(hn:ws.length=n){q:Int}(h1:aY pg st k (am k).toNat 1 ws=q)(hq:q≠ -1):
 ∃(j:Nat) (G1 G2:Int→List Int) (u X:List Int),ah pg q=true∧aE pg st ws q=k+1∧1≤bH pg st ws q∧(∀y,1≤y→y<bH pg st ws q→G (ay pg st k y)= []) ∧
  co (cE pg st ws q) (am k)=(j:Int)∧(j:Int)<am k∧dt (cE pg st ws q) j=false ∧
  pE pg st n q k (bH pg st ws q) (bH pg st ws q-1) (dP pg st q (dQ (cE pg st ws q) j) (bH pg st ws q-1)) ws G G1 G2 u X ∧
  dn us pg st k ws=((us+32 * q+j * szV k,true),X)∧PgW pg st G2 X:=by
 have hk:=fS hs
 obtain⟨L,F⟩:=P
 rcases zm H L hk (am k).toNat 1 (by omega) (by have:=dV k;omega) with⟨e,_⟩|⟨x,t,x1,x2,hz,hG,hno⟩
 ·exact absurd (h1.symm.trans e) hq
 rw[h1] at hG
 have ha:=(cW hz).1
 have hm:=(F.mem _ q ha).1 (by rw[hG];simp)
 obtain⟨hqp,hk1,hh⟩:=hm
 have hkb:=F.kd q hqp
 have hc:=F.cnt q hqp hk1
 have inj:=yX hz hh.symm
 have ek:aE pg st ws q=k+1:=by omega
 have ef:bH pg st ws q=x:=inj.2.symm
 rw[ek] at hc
 have hop:el k (cE pg st ws q)=bH pg st ws q:=by rw[hc.1];congr 1;omega
 obtain⟨j,hj1,hj2,hj3,hj4⟩:=s9 (b:=cE pg st ws q) (k:=k) (by omega)
 have hlt:bH pg st ws q<am k:=by have:=hc.2;rwa [show k+1-1=k by omega] at this
 obtain⟨G1,G2,u,X,M⟩:=zp H (rf H hqp (dQ (cE pg st ws q) j) (bH pg st ws q-1)) hqp L hn (k:=k) (f:=bH pg st ws q) (fun a h=>by
  rw[F.mem a q h,ek,show k+1-1=k by omega]
  exact⟨fun z=>z.2.2,fun z=>⟨hqp,by omega,z⟩⟩)
 refine⟨j,G1,G2,u,X,hqp,ek,by omega,fun y y1 y2=>hno y y1 (by omega),hj1,hj2,hj3,M,?_,M.l2,?_⟩
 ·unfold dn
  rw[vT H hs h1 hq]
  unfold jG
  rw[if_neg hq,if_neg (by rw[hj1];omega),hj1]
  unfold mG
  rw[ri H (f:=bH pg st ws q-1) (by rw[hj4,hop]) (by omega),M.eM]
 ·refine PgF.off H (a:=dP pg st q (dQ (cE pg st ws q) j) (bH pg st ws q-1) ws) ?_ M.o2
  refine F.turn H hqp (k:=k+1) (f:=bH pg st ws q-1) (c:=dQ (cE pg st ws q) j) (by omega) (fun p hp=>?_) (fun p hp=>j8 H hqp _ _ hn hp) (fun p hp=>j9 H hqp _ _ hn hp) (fun p _ _ h=>by rw[kb H hqp _ _ hn];exact h) (fun _=>by rw[kb H hqp _ _ hn];exact F.map q hqp (by omega)) (by omega) (by omega) (fun _=>?_) M.m2 (fun a h=>?_)
  ·rw[jd H hqp _ _ hn];split
   ·rename_i e;rw[e];exact ek
   ·rfl
  ·rw[show k+1-1=k by omega,hj4,hop];omega
  ·rw[M.m3 a h,show k+1-1=k by omega]
   exact⟨fun z=>⟨by omega,z⟩,fun z=>z.2⟩
theorem mJ (us:Int){k:Int}(hs:am k≠0){G:Int→List Int}{ws:List Int}(P:PgW pg st G ws)(hn:ws.length=n){y:Int}(h1:aY pg st k (am k).toNat 1 ws= -1)(h2:dm pg st 1 1 ws=y)(hy:y≠ -1):
 ∃(G1 G2:Int→List Int) (w1 X:List Int),ah pg y=true∧aE pg st ws y=0∧dF pg st y 1 (k+1) ws=(true,w1)∧yV pg st y 1 (k+1) ws w1∧w1.length=n∧Ln pg st G w1 ∧
  pE pg st n y k 0 (am k-1) (dP pg st y (dQ 0 0) (am k-1)) w1 G G1 G2 w1 X ∧
  dn us pg st k ws=((us+32 * y,true),X)∧PgW pg st G2 X:=by
 have hk:=fS hs
 have hsl:=dV k
 obtain⟨L,F⟩:=P
 have hfy:=(zn H ws).resolve_left (fun z=>hy (h2.symm.trans z.1))
 rw[h2] at hfy
 obtain⟨hyp,hk0⟩:=hfy
 obtain⟨t1,T⟩:=zo H hk hn hyp hk0
 obtain⟨w1,ew⟩:∃w1,(dF pg st y 1 (k+1) ws).2=w1:=⟨_,rfl⟩
 rw[ew] at T
 have n1:w1.length=n:=T.len.trans hn
 have L1:Ln pg st G w1:=L.same H (Bk H T)
 have hno:∀a,bZ pg st a→y∉G a:=fun a h z=>by have:=((F.mem a y h).1 z).2.1;omega
 have hb1:cE pg st w1 y=0:=by rw[T.bit y hyp,if_pos (by omega)]
 have hc1:bH pg st w1 y=0:=by rw[T.cnt y hyp,if_pos rfl,if_neg (by omega)]
 have hz0:ay pg st k 0=0:=by unfold ay;rw[if_neg (by omega)]
 have hos:el k (dQ 0 0)=am k-1:=by
  have:=re (b:=0) (k:=k) (j:=0) (by omega) (iT 0)
  rw[vR] at this
  exact this
 obtain⟨G1,G2,u,X,M⟩:=zp H (rf H hyp (dQ 0 0) (am k-1)) hyp L1 n1 (k:=k) (f:=0) (fun a h=>⟨fun z=>absurd z (hno a h),fun z=>by have:=(ix H h).1;omega⟩)
 have eu:u=w1:=by rw[←M.eu,jc H L1 (fun _ z=>absurd hz0 z)]
 subst eu
 refine⟨G1,G2,u,X,hyp,hk0,Prod.ext t1 ew,T,n1,L1,M,?_,M.l2,?_⟩
 ·unfold dn
  rw[vU H hs h1 h2 t1,ew]
  unfold jG
  rw[if_neg hy]
  show(if co (cE pg st u y) (am k)= -1 then _ else _)=_
  rw[hb1,mH hs,if_neg (by omega),hc1]
  unfold mG
  rw[ri H (f:=am k-1) hos (by omega),M.eM]
  simp
 ·refine PgF.off H (a:=dP pg st y (dQ 0 0) (am k-1) u) ?_ M.o2
  refine F.turn H hyp (k:=k+1) (f:=am k-1) (c:=dQ 0 0) (by omega) (fun p hp=>?_) (fun p hp=>?_) (fun p hp=>?_) (fun p hp hne h=>?_) (fun _=>?_) (by omega) (by omega) (fun _=>?_) M.m2 (fun a h=>?_)
  ·rw[jd H hyp _ _ n1,T.kind]
   by_cases e:p=y
   ·rw[if_pos e,if_pos e]
   ·rw[if_neg e,if_neg e,if_neg (by omega)]
  ·rw[j8 H hyp _ _ n1 hp,T.cnt p hp]
   by_cases e:p=y
   ·rw[if_pos e,if_pos e]
   ·rw[if_neg e,if_neg e,if_neg e,if_neg (by omega)]
  ·rw[j9 H hyp _ _ n1 hp,T.bit p hp]
   by_cases e:p=y
   ·rw[if_pos e,if_pos e]
   ·rw[if_neg e,if_neg e,if_neg (by omega)]
  ·rw[kb H hyp _ _ n1,T.map _ (qT hp),h];rfl
  ·rw[kb H hyp _ _ n1,T.map _ (qT hyp)]
   simp
  ·rw[show k+1-1=k by omega,hos]
   exact⟨rfl,by omega⟩
  ·rw[M.m3 a h,show k+1-1=k by omega]
   exact⟨fun z=>⟨by omega,z⟩,fun z=>z.2⟩
theorem zq {us a:Int}{G:Int→List Int}{ws:List Int}(F:PgF pg st G ws){q k i:Int}{t:Bool}(h:kQ us pg st a ws=some (q,k,i,t)):
 ah pg q=true∧aE pg st ws q=k+1∧0≤k∧k≤4∧0≤i∧i<am k∧t=eS (cE pg st ws q) i∧a=us+32 * q+i * szV k:=by
 unfold kQ at h
 split at h
 ·rename_i hin
  obtain⟨hq,hw⟩:=Ba hin
  have hkd:=F.kd _ hq
  have hwr:IntKind.i64.wrap (aE pg st ws ((a-us) / 32)-1)=aE pg st ws ((a-us) / 32)-1:=aj (by omega) (by omega)
  unfold pD at h
  rw[hwr] at h
  split at h
  ·cases h
  ·rename_i hz
   split at h
   ·cases h
   ·rename_i hm
    have hk:=fS hz
    obtain⟨z,hzk⟩:∃z:Nat,aE pg st ws ((a-us) / 32)-1=(z:Int):=⟨_,(Int.toNat_of_nonneg hk.1).symm⟩
    simp only[Option.some.injEq,Prod.mk.injEq] at h
    obtain⟨rfl,rfl,rfl,rfl⟩:=h
    rw[hzk] at hk hm⊢
    have hsb:=A9 (k:=z) (by omega)
    have hm:(a-us) % 32 % szV (z:Int)=0:=by simpa using hm
    have hsz:=iM (k:=z) (by omega)
    have hd:=Int.emod_add_mul_ediv ((a-us) % 32) (szV (z:Int))
    rw[hm] at hd
    refine⟨hq,by omega,hk.1,hk.2,Int.ediv_nonneg hw.1 (by omega),?_,rfl,?_⟩
    ·have hz4:z=0∨z=1∨z=2∨z=3∨z=4:=by omega
     generalize (a-us) % 32=wd at hw hm⊢
     rcases hz4 with rfl|rfl|rfl|rfl|rfl
     ·show wd / 1<32;omega
     ·show wd / 2<16;omega
     ·show wd / 4<8;omega
     ·show wd / 8<4;omega
     ·show wd / 16<2;omega
    ·rw[Int.mul_comm ((a-us) % 32 / szV (z:Int)) (szV (z:Int))]
     omega
 ·cases h
end
theorem kS (c:Nat)(h4:c≤4)(w:World):
 Calls Tryz.prog 164 #[.int .i64 c] w (aD w (.int .i64 (cU c))):=by
 go_enter Tryz.func164,Tryz.ntmps164
 go_wp2_with fail
 go_loop [3,4] (fun n i=>∃k:Nat,k≤c∧i=.int .i64 k∧n=.int .i64 (cU k)) (fun _ i=>c-(intOf i).toNat)
 case atStart=>exact⟨0,Nat.zero_le _,rfl,rfl⟩
 case round =>
  obtain⟨k,hk,rfl,rfl⟩:=hrel
  by_cases hlt:k<c
  ·have d5:decide ((k:Int)<5)=true:=by simp;omega
   obtain⟨s1,s2,s3⟩:=rJ k (by omega) (by omega)
   have HS:=hQQ s1;clear s1
   go_wp2_with fail
   go_round
   case rel=>exact⟨k+1,by omega,by go_num,by rw[HS.o];go_num⟩
   case measure=>simp[intOf];omega
  ·have he:k=c:=by omega
   subst he
   go_wp2_with fail
   go_ret
   exact⟨rfl,ac.refl _⟩
variable (wk cp pg st tr wt ck pr ca bi ba:Int)(w:World)
end Go.Proofs.YtfddhogffpkhcaaGreatDoor
