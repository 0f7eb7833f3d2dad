/-
  Contracts of the document's own answers for layout: heads of lists, and which configurations may be.
-/
import Derived.Test.YtfddhogffpkhcaaGreatDoorTsAe
import Derived.Test.YtfddhogffpkhcaaGreatDoorTsAd
import Derived.WalkKit
import Derived.WalkSpells
import Derived.WalkLawsBesides
import Derived.Outline
import Derived.IntWalk
import Derived.Lib.Hide
set_option maxRecDepth 100000
set_option maxHeartbeats 8000000
set_option linter.all false
namespace Go.Proofs.YtfddhogffpkhcaaGreatDoor
open Go.RowKit
variable (wk cp pg st tr wt ck pr ca bi ba:Int)(w:World)
theorem ta (c f:Int)(h:c<0∨4<c):
 Calls Tryz.prog 162 #[.agg #[.int .i64 wk,.int .i64 cp,.int .i64 pg,.int .i64 st,.int .i64 tr,.int .i64 wt,.int .i64 ck,.int .i64 pr,.int .i64 ca,.int .i64 bi,.int .i64 ba],.int .i64 c,.int .i64 f] w (aD w (.int .i64 (ay pg st c f))):=by
 rw[show ay pg st c f=0 from if_neg (by omega)]
 by_cases c0:c<0
 ·have d0:decide (c<0)=true:=by simp;omega
  clear h
  go_enter Tryz.func162,Tryz.ntmps162
  go_wp2_with fail
  go_ret
  exact⟨rfl,(ac.refl _).alloc _⟩
 ·have d0:decide (c<0)=false:=by simp;omega
  have d1:decide (4<c)=true:=by simp;omega
  clear h
  go_enter Tryz.func162,Tryz.ntmps162
  go_wp2_with fail
  go_ret
  exact⟨rfl,(ac.refl _).alloc _⟩
theorem zr (c:Nat)(f:Int)(R:bG wk cp pg st tr wt ck pr ca bi ba)(hc4:c≤4)(f0:1≤f)(f1:f≤cU c):
 Calls Tryz.prog 162 #[.agg #[.int .i64 wk,.int .i64 cp,.int .i64 pg,.int .i64 st,.int .i64 tr,.int .i64 wt,.int .i64 ck,.int .i64 pr,.int .i64 ca,.int .i64 bi,.int .i64 ba],.int .i64 c,.int .i64 f] w (aD w (.int .i64 (ay pg st c f))):=by
 rw[show ay pg st c f=aQ st pg+cX c+f-1 from if_pos (by omega)]
 have HR:=hQQ R
 have b1:=jx R
 have b2:=fY c (by omega) (by omega)
 have b3:=oG c (by omega) (by omega)
 have d0:decide ((c:Int)<0)=false:=by simp
 have d1:decide ((4:Int)<(c:Int))=false:=by simp;omega
 have t0:decide ((1:Int)≤f)=true:=by simp;omega
 have t1:decide (f≤cU c)=true:=by simp;omega
 have q0:IntKind.i64.wrap (aQ st pg+cX c)=aQ st pg+cX c:=aj (by omega) (by omega)
 have q1:IntKind.i64.wrap (aQ st pg+cX c+f)=aQ st pg+cX c+f:=aj (by omega) (by omega)
 have q2:IntKind.i64.wrap (aQ st pg+cX c+f-1)=aQ st pg+cX c+f-1:=aj (by omega) (by omega)
 have HC:=hQQ (aM w 27 wk cp pg st tr wt ck pr ca bi ba)
 have HM:Hq (ac w (w.alloc (.cells #[.int .i64 wk,.int .i64 cp,.int .i64 pg,.int .i64 st,.int .i64 tr,.int .i64 wt,.int .i64 ck,.int .i64 pr,.int .i64 ca,.int .i64 bi,.int .i64 ba] 27))):=(ac.refl w).alloc _
 clear R
 go_enter Tryz.func162,Tryz.ntmps162
 go_wp2_with fail
 generalize w.alloc (.cells #[.int .i64 wk,.int .i64 cp,.int .i64 pg,.int .i64 st,.int .i64 tr,.int .i64 wt,.int .i64 ck,.int .i64 pr,.int .i64 ca,.int .i64 bi,.int .i64 ba] 27)=W0 at *
 go_loopw [7,8] (fun n i wr=>∃k:Nat,k≤c∧i=.int .i64 k∧n=.int .i64 (cX k)∧ac W0 wr) (fun _ i _=>c-(intOf i).toNat)
 case atStart=>exact⟨0,Nat.zero_le _,rfl,rfl,ac.refl _⟩
 case round =>
  obtain⟨k,hk,rfl,rfl,hm⟩:=hrel
  by_cases hlt:k<c
  ·obtain⟨a1,a2,a3⟩:=jy k (by omega) (by omega)
   have b4:=fY k (by omega) (by omega)
   have HA:=hQQ a1;clear a1
   have Hm:=hQQ hm;clear hm
   go_wp2_with fail
   refine(kS k (by omega) _).mono ?_
   rintro e w1 ⟨rfl,h1⟩
   have H2:=hQQ (Hm.o.trans h1);clear h1
   go_wp2_with fail
   go_roundw
   case rel=>exact⟨k+1,by omega,by go_num,by rw[HA.o];go_num,H2.o⟩
   case measure=>simp[intOf];omega
  ·have he:k=c:=by omega
   subst he
   have HMr:=hQQ hm;clear hm
   have hne:∃W,ac wr W:=⟨wr,ac.refl _⟩
   go_wp2_with fail
   refine au (by kernel_rfl) (by kernel_rfl) ?_
   iterate 17
    with_reducible refine wpQuiet_step (fun K hK=>?_)
    go_simp
    first
    |(refine hK _ ?_;clear hK K)
    |(apply Exists.intro
      refine⟨fun W hW=>?_,hK _ ?_⟩
      first
      |(go_at_call 143;exact Calls.more hW (pd _ _ _ _ _ _ _ _ _ _ _ _ HR.o))
      |(go_at_call 87;exact Calls.more hW (ia _ _))
      |(go_at_call 164;exact Calls.more hW (kS k hc4 _))
      |(obtain⟨e0,e1,e2,e3,e4,e5,e6,e7,e8,e9,e10⟩:=HC.o.cells (HMr.o.trans hW);go_simp;try rfl)
      clear hK K)
   refine wpQuiet_nil ?_
   intro W hW
   have HW:=hQQ hW
   clear hW
   go_wp2_with fail
   go_ret
   exact⟨rfl,(HM.o.trans HMr.o).trans HW.o⟩
theorem vV (c:Nat)(f:Int)(R:bG wk cp pg st tr wt ck pr ca bi ba)(hc4:c≤4)(f0:¬1≤f):
 Calls Tryz.prog 162 #[.agg #[.int .i64 wk,.int .i64 cp,.int .i64 pg,.int .i64 st,.int .i64 tr,.int .i64 wt,.int .i64 ck,.int .i64 pr,.int .i64 ca,.int .i64 bi,.int .i64 ba],.int .i64 c,.int .i64 f] w (aD w (.int .i64 (ay pg st c f))):=by
 rw[show ay pg st c f=0 from if_neg (by omega)]
 have HR:=hQQ R
 have b1:=jx R
 have b2:=fY c (by omega) (by omega)
 have b3:=oG c (by omega) (by omega)
 have d0:decide ((c:Int)<0)=false:=by simp
 have d1:decide ((4:Int)<(c:Int))=false:=by simp;omega
 have t0:decide ((1:Int)≤f)=false:=by simp;omega
 have HC:=hQQ (aM w 27 wk cp pg st tr wt ck pr ca bi ba)
 have HM:Hq (ac w (w.alloc (.cells #[.int .i64 wk,.int .i64 cp,.int .i64 pg,.int .i64 st,.int .i64 tr,.int .i64 wt,.int .i64 ck,.int .i64 pr,.int .i64 ca,.int .i64 bi,.int .i64 ba] 27))):=(ac.refl w).alloc _
 clear R
 go_enter Tryz.func162,Tryz.ntmps162
 go_wp2_with fail
 generalize w.alloc (.cells #[.int .i64 wk,.int .i64 cp,.int .i64 pg,.int .i64 st,.int .i64 tr,.int .i64 wt,.int .i64 ck,.int .i64 pr,.int .i64 ca,.int .i64 bi,.int .i64 ba] 27)=W0 at *
 go_loopw [7,8] (fun n i wr=>∃k:Nat,k≤c∧i=.int .i64 k∧n=.int .i64 (cX k)∧ac W0 wr) (fun _ i _=>c-(intOf i).toNat)
 case atStart=>exact⟨0,Nat.zero_le _,rfl,rfl,ac.refl _⟩
 case round =>
  obtain⟨k,hk,rfl,rfl,hm⟩:=hrel
  by_cases hlt:k<c
  ·obtain⟨a1,a2,a3⟩:=jy k (by omega) (by omega)
   have b4:=fY k (by omega) (by omega)
   have HA:=hQQ a1;clear a1
   have Hm:=hQQ hm;clear hm
   go_wp2_with fail
   refine(kS k (by omega) _).mono ?_
   rintro e w1 ⟨rfl,h1⟩
   have H2:=hQQ (Hm.o.trans h1);clear h1
   go_wp2_with fail
   go_roundw
   case rel=>exact⟨k+1,by omega,by go_num,by rw[HA.o];go_num,H2.o⟩
   case measure=>simp[intOf];omega
  ·have he:k=c:=by omega
   subst he
   have HMr:=hQQ hm;clear hm
   have hne:∃W,ac wr W:=⟨wr,ac.refl _⟩
   go_wp2_with fail
   refine au (by kernel_rfl) (by kernel_rfl) ?_
   iterate 17
    with_reducible refine wpQuiet_step (fun K hK=>?_)
    go_simp
    first
    |(refine hK _ ?_;clear hK K)
    |(apply Exists.intro
      refine⟨fun W hW=>?_,hK _ ?_⟩
      first
      |(go_at_call 143;exact Calls.more hW (pd _ _ _ _ _ _ _ _ _ _ _ _ HR.o))
      |(go_at_call 87;exact Calls.more hW (ep _ _))
      |(go_at_call 164;exact Calls.more hW (kS k hc4 _))
      |(obtain⟨e0,e1,e2,e3,e4,e5,e6,e7,e8,e9,e10⟩:=HC.o.cells (HMr.o.trans hW);go_simp;try rfl)
      clear hK K)
   refine wpQuiet_nil ?_
   intro W hW
   have HW:=hQQ hW
   clear hW
   go_wp2_with fail
   go_ret
   exact⟨rfl,(HM.o.trans HMr.o).trans HW.o⟩
theorem td (c:Nat)(f:Int)(R:bG wk cp pg st tr wt ck pr ca bi ba)(hc4:c≤4)(f0:1≤f)(f1:¬f≤cU c):
 Calls Tryz.prog 162 #[.agg #[.int .i64 wk,.int .i64 cp,.int .i64 pg,.int .i64 st,.int .i64 tr,.int .i64 wt,.int .i64 ck,.int .i64 pr,.int .i64 ca,.int .i64 bi,.int .i64 ba],.int .i64 c,.int .i64 f] w (aD w (.int .i64 (ay pg st c f))):=by
 rw[show ay pg st c f=0 from if_neg (by omega)]
 have HR:=hQQ R
 have b1:=jx R
 have b2:=fY c (by omega) (by omega)
 have b3:=oG c (by omega) (by omega)
 have d0:decide ((c:Int)<0)=false:=by simp
 have d1:decide ((4:Int)<(c:Int))=false:=by simp;omega
 have t0:decide ((1:Int)≤f)=true:=by simp;omega
 have t1:decide (f≤cU c)=false:=by simp;omega
 have HC:=hQQ (aM w 27 wk cp pg st tr wt ck pr ca bi ba)
 have HM:Hq (ac w (w.alloc (.cells #[.int .i64 wk,.int .i64 cp,.int .i64 pg,.int .i64 st,.int .i64 tr,.int .i64 wt,.int .i64 ck,.int .i64 pr,.int .i64 ca,.int .i64 bi,.int .i64 ba] 27))):=(ac.refl w).alloc _
 clear R
 go_enter Tryz.func162,Tryz.ntmps162
 go_wp2_with fail
 generalize w.alloc (.cells #[.int .i64 wk,.int .i64 cp,.int .i64 pg,.int .i64 st,.int .i64 tr,.int .i64 wt,.int .i64 ck,.int .i64 pr,.int .i64 ca,.int .i64 bi,.int .i64 ba] 27)=W0 at *
 go_loopw [7,8] (fun n i wr=>∃k:Nat,k≤c∧i=.int .i64 k∧n=.int .i64 (cX k)∧ac W0 wr) (fun _ i _=>c-(intOf i).toNat)
 case atStart=>exact⟨0,Nat.zero_le _,rfl,rfl,ac.refl _⟩
 case round =>
  obtain⟨k,hk,rfl,rfl,hm⟩:=hrel
  by_cases hlt:k<c
  ·obtain⟨a1,a2,a3⟩:=jy k (by omega) (by omega)
   have b4:=fY k (by omega) (by omega)
   have HA:=hQQ a1;clear a1
   have Hm:=hQQ hm;clear hm
   go_wp2_with fail
   refine(kS k (by omega) _).mono ?_
   rintro e w1 ⟨rfl,h1⟩
   have H2:=hQQ (Hm.o.trans h1);clear h1
   go_wp2_with fail
   go_roundw
   case rel=>exact⟨k+1,by omega,by go_num,by rw[HA.o];go_num,H2.o⟩
   case measure=>simp[intOf];omega
  ·have he:k=c:=by omega
   subst he
   have HMr:=hQQ hm;clear hm
   have hne:∃W,ac wr W:=⟨wr,ac.refl _⟩
   go_wp2_with fail
   refine au (by kernel_rfl) (by kernel_rfl) ?_
   iterate 17
    with_reducible refine wpQuiet_step (fun K hK=>?_)
    go_simp
    first
    |(refine hK _ ?_;clear hK K)
    |(apply Exists.intro
      refine⟨fun W hW=>?_,hK _ ?_⟩
      first
      |(go_at_call 143;exact Calls.more hW (pd _ _ _ _ _ _ _ _ _ _ _ _ HR.o))
      |(go_at_call 87;exact Calls.more hW (ep _ _))
      |(go_at_call 164;exact Calls.more hW (kS k hc4 _))
      |(obtain⟨e0,e1,e2,e3,e4,e5,e6,e7,e8,e9,e10⟩:=HC.o.cells (HMr.o.trans hW);go_simp;try rfl)
      clear hK K)
   refine wpQuiet_nil ?_
   intro W hW
   have HW:=hQQ hW
   clear hW
   go_wp2_with fail
   go_ret
   exact⟨rfl,(HM.o.trans HMr.o).trans HW.o⟩
theorem DP (c f:Int)(R:bG wk cp pg st tr wt ck pr ca bi ba):
 Calls Tryz.prog 162 #[.agg #[.int .i64 wk,.int .i64 cp,.int .i64 pg,.int .i64 st,.int .i64 tr,.int .i64 wt,.int .i64 ck,.int .i64 pr,.int .i64 ca,.int .i64 bi,.int .i64 ba],.int .i64 c,.int .i64 f] w (aD w (.int .i64 (ay pg st c f))):=by
 by_cases h:c<0∨4<c
 ·exact ta wk cp pg st tr wt ck pr ca bi ba w c f h
 obtain⟨k,rfl⟩:∃k:Nat,c=k:=⟨c.toNat,by omega⟩
 by_cases f0:1≤f
 ·by_cases f1:f≤cU k
  ·exact zr wk cp pg st tr wt ck pr ca bi ba w k f R (by omega) f0 f1
  ·exact td wk cp pg st tr wt ck pr ca bi ba w k f R (by omega) f0 f1
 ·exact vV wk cp pg st tr wt ck pr ca bi ba w k f R (by omega) f0
open Go.Sort Go.Maps Go.Shelf
theorem lN {c:Cfg}(R:c.Ok)(w:World)(k f:Int):Calls Tryz.prog 162 #[.agg c.cells,.int .i64 k,.int .i64 f] w (aD w (.int .i64 (ay c.pg c.st k f))):=DP c.wk c.cp c.pg c.st c.tr c.wt c.ck c.pr c.ca c.bi c.ba w k f R
theorem kg {c:Cfg}(R:c.Ok)(w:World)(k:Int):Calls Tryz.prog 155 #[.agg c.cells,.int .i64 k] w (aD w (.int .i64 (cm c.pg c.st 3 k))):=DC c.wk c.cp c.pg c.st c.tr c.wt c.ck c.pr c.ca c.bi c.ba w k R
theorem pF {c:Cfg}(R:c.Ok)(w:World)(k:Int):Calls Tryz.prog 156 #[.agg c.cells,.int .i64 k] w (aD w (.int .i64 (cm c.pg c.st 4 k))):=DE c.wk c.cp c.pg c.st c.tr c.wt c.ck c.pr c.ca c.bi c.ba w k R
theorem je {c:Cfg}(R:c.Ok)(q k f:Int)(w:World):Calls Tryz.prog 154 #[.agg c.cells,.int .i64 q,.int .i64 k,.int .i64 f] w (aD w (.bool (ah c.pg q && (ay c.pg c.st k f != 0)))):=by
 have hc:=aI w c.cells 27
 have HC:=hQQ hc
 have x2:(w.alloc (.cells c.cells 27)).cell? ⟨w.heap.size,2,none⟩=some (.int .i64 c.pg):=aB hc (ac.refl _) rfl
 have HM:Hq (ac w (w.alloc (.cells c.cells 27))):=(ac.refl w).alloc _
 have HR:=hQQ R
 unfold ah
 clear hc R
 by_cases a:0≤q
 ·have d1:decide (0≤q)=true:=by simpa using a
  by_cases b:q<c.pg
  ·have d2:decide (q<c.pg)=true:=by simpa using b
   rw[d1,d2]
   simp only[Bool.true_and]
   clear a b
   go_enter Tryz.func154,Tryz.ntmps154
   go_wp2_with (first|(refine aH rfl rfl rfl HC.o (by kernel_rfl) ?_)|(refine aH rfl rfl rfl HC.o (by kernel_rfl) ?_))
   refine(lN HR.o _ k f).mono ?_
   rintro e w1 ⟨rfl,h1⟩
   have HM1:=hQQ (HM.o.trans h1)
   clear h1
   go_wp2_with fail
   go_ret
   exact⟨rfl,HM1.o⟩
  ·have d2:decide (q<c.pg)=false:=by simpa using b
   rw[d1,d2]
   simp only[Bool.true_and,Bool.false_and]
   clear a b
   go_enter Tryz.func154,Tryz.ntmps154
   go_wp2_with fail
   go_ret
   exact⟨rfl,HM.o⟩
 ·have d1:decide (0≤q)=false:=by simpa using a
  rw[d1]
  simp only[Bool.false_and]
  clear a
  go_enter Tryz.func154,Tryz.ntmps154
  go_wp2_with fail
  go_ret
  exact⟨rfl,HM.o⟩
theorem Bl {l:List Int}(hd:l.Nodup){k:Nat}(hk:k<l.length):nxL l (l.getD k 0)=hd1 (l.drop (k+1)):=by
 have hs:l=l.take k++l.getD k 0::l.drop (k+1):=by
  rw[List.getD_eq_getElem?_getD,List.getElem?_eq_getElem hk];simp
 have hnd:l.getD k 0∉l.take k:=by
  have hh:=hd
  rw[hs] at hh
  intro q
  exact(List.nodup_append.1 hh).2.2 _ q _ (by simp) rfl
 have h1:=gB (l.take k) (l.drop (k+1)) _ hnd
 rw[←hs] at h1
 exact h1
theorem vW {l:List Int}{k:Nat}(hk:k<l.length):l.drop k=l.getD k 0::l.drop (k+1):=by
 rw[List.drop_eq_getElem_cons hk,List.getD_eq_getElem?_getD,List.getElem?_eq_getElem hk];rfl
theorem oe {l:List Int}{k:Nat}(hk:k<l.length):l.take (k+1)=l.take k++ [l.getD k 0]:=by
 rw[List.take_add_one,List.getElem?_eq_getElem hk,List.getD_eq_getElem?_getD,List.getElem?_eq_getElem hk];rfl
def Cf (w:World)(xs:List Int)(e:Ending)(w':World):Prop:=∃v,e=.returned v∧Rw w.heap.size w' v xs∧ac w w'∧(xs= []→v=.slice none 0 0)
def listG (pg st:Int)(G:Int→List Int)(k f:Int):List Int:=if ay pg st k f=0 then [] else G (ay pg st k f)
theorem kh {c:Cfg}(R:c.Ok)(ws:List Int)(H:dh c.pg c.st ws.length)(hl:ws.length≤1000){G:Int→List Int}(L:Ln c.pg c.st G ws)(g cap:Nat)(k f:Int)(w:World)(hw:Ws w g cap ws):
 Calls Tryz.prog 153 #[.agg c.cells,.slice (some ⟨g,0,none⟩) ws.length cap,.int .i64 k,.int .i64 f] w (Cf w (listG c.pg c.st G k f)):=by
 have hc:=aI w c.cells 27
 have HC:=hQQ hc
 have HM:Hq (ac w (w.alloc (.cells c.cells 27))):=hQQ ((ac.refl w).alloc _)
 have HR:=hQQ R
 have HW:=hQQ hw
 by_cases hz:ay c.pg c.st k f=0
 ·have YH:Hq (∀W,Calls Tryz.prog 162 #[.agg c.cells,.int .i64 k,.int .i64 f] W (aD W (.int .i64 0))):=hQQ fun W=>by have:=lN R W k f;rwa [hz] at this
  rw[show listG c.pg c.st G k f= [] from if_pos hz]
  clear hc R hw hz
  go_enter Tryz.func153,Tryz.ntmps153
  go_wp2_with (first|(refine aH rfl rfl rfl HC.o (by kernel_rfl) ?_)|(refine aH rfl rfl rfl HC.o (by kernel_rfl) ?_))
  refine(YH.o _).mono ?_
  rintro e w1 ⟨rfl,h1⟩
  have HM1:=hQQ (HM.o.trans h1)
  clear h1
  go_wp2_with fail
  go_ret
  exact⟨_,rfl,Rw.nil _ _,HM1.o,fun _=>rfl⟩
 obtain⟨ha,k0,k1,f0,f1⟩:=cW hz
 obtain⟨b0,b1,_⟩:=ix H ha
 rw[show listG c.pg c.st G k f=G (ay c.pg c.st k f) from if_neg hz]
 have hz':(ay c.pg c.st k f==0)=false:=by simpa using hz
 have hsh:=qW H (L.page _ ha) (L.nodup _ ha)
 have hhd:=L.head _ ha
 have hpg:=L.page _ ha
 have hnx:=fun p hp=>L.next _ p ha hp
 have hnd:=L.nodup _ ha
 have YH:Hq (∀W,Calls Tryz.prog 162 #[.agg c.cells,.int .i64 k,.int .i64 f] W (aD W (.int .i64 (ay c.pg c.st k f)))):=hQQ fun W=>lN R W k f
 obtain⟨a,hae⟩:∃a,ay c.pg c.st k f=a:=⟨_,rfl⟩
 rw[hae] at b0 b1 hz' hsh hhd hpg hnx hnd YH
 rw[hae]
 obtain⟨l,hle⟩:∃l,G a=l:=⟨_,rfl⟩
 rw[hle] at hsh hhd hpg hnx hnd
 rw[hle]
 obtain⟨m,rfl⟩:∃m:Nat,a=(m:Int):=⟨a.toNat,by omega⟩
 have hm:m<ws.length:=by omega
 have CA:Hq (∀W,ac w W→W.cell? ⟨g,m,none⟩=some (.int .i64 (hd1 l))):=hQQ fun W hW=>by
  have:=(hw.more hW).cell hm
  rw[this]
  have:ws.getD m 0=hd1 l:=hhd
  rw[this]
 have NX:Hq (∀p,p∈l→∃b:Nat,nA c.pg c.st p=(b:Int)∧b<ws.length∧∀W,ac w W→W.cell? ⟨g,b,none⟩=some (.int .i64 (nxL l p))):=hQQ fun p hp=>by
  obtain⟨⟨q0,q1,_⟩,_⟩:=fN H (hpg p hp)
  obtain⟨b,hb⟩:∃b:Nat,nA c.pg c.st p=(b:Int):=⟨(nA c.pg c.st p).toNat,by omega⟩
  refine⟨b,hb,by omega,fun W hW=>?_⟩
  have h1:=(hw.more hW).cell (i:=b) (by omega)
  have h2:=hnx p hp
  rw[hb] at h2
  have h2:ws.getD b 0=nxL l p:=h2
  rw[h1,h2]
 have HPG:=hQQ hpg
 have HND:=hQQ hnd
 have pg1:=R.pg1
 have pg2:=R.pg2
 have x2:(w.alloc (.cells c.cells 27)).cell? ⟨w.heap.size,2,none⟩=some (.int .i64 c.pg):=aB hc (ac.refl _) rfl
 have X2:=hQQ x2
 clear hc R hw hz L ha k0 k1 f0 f1 b0 hhd hpg hnx hnd hae hle HW x2 b1
 go_enter Tryz.func153,Tryz.ntmps153
 go_wp2_with (first|(refine aH rfl rfl rfl HC.o (by kernel_rfl) ?_)|(refine aH rfl rfl rfl HC.o (by kernel_rfl) ?_))
 refine(YH.o _).mono ?_
 rintro e w1 ⟨rfl,h1⟩
 have M1:=hQQ (HM.o.trans h1)
 have ca:=CA.o _ M1.o
 have HC1:=hQQ (h1.block HC.o)
 have X3:=hQQ (h1.cell X2.o)
 clear h1 YH CA HC X2
 go_wp2_with fail
 clear ca
 go_loopw [10,11,12] (fun v10 v11 v12 wr=>∃j:Nat,v12=.int .i64 (j:Int)∧j≤l.length∧v11=.int .i64 (hd1 (l.drop j))∧Rw w1.heap.size wr v10 (l.take j)∧ac w1 wr∧(j=0→v10=.slice none 0 0)) (fun _ _ v12 _=>l.length-(intOf v12).toNat)
 case atStart=>exact⟨0,rfl,by omega,rfl,Rw.nil _ _,ac.refl _,fun _=>rfl⟩
 case round =>
  obtain⟨j,rfl,hj,rfl,hr,ht,hv0⟩:=hrel
  have q1:IntKind.i64.wrap ((j:Int)+1)=(j:Int)+1:=aj (by omega) (by omega)
  have x3:=ht.cell X3.o
  by_cases hlt:j<l.length
  ·have d1:decide ((j:Int)<c.pg)=true:=by simp;omega
   have hmem:=cu hlt
   obtain⟨b,hb,hbl,cb⟩:=NX.o _ hmem
   have hP:=ai.1 (HPG.o _ hmem)
   have P3:=(yw (st:=c.st) (HPG.o _ hmem)).trans hb
   have hnext:=Bl HND.o hlt
   have hts:=oe hlt
   rw[vW hlt]
   obtain⟨P,hPe⟩:∃P,l.getD j 0=P:=⟨_,rfl⟩
   rw[hPe] at hb cb hP P3 hnext hts⊢
   rw[hnext] at cb
   have hd1e:hd1 (P::l.drop (j+1))=P+1:=rfl
   rw[hd1e]
   have d2:decide ((0:Int)<P+1)=true:=by simp;omega
   have q2:IntKind.i64.wrap (P+1-1)=P:=by rw[show P+1-1=P by omega];exact aj (by omega) (by omega)
   have CB:=hQQ cb
   have PP3:=hQQ P3
   have HRW:=hQQ hr
   have HT:=hQQ ht
   have HTS:=hQQ hts
   have HX3:=hQQ x3
   clear hmem cb P3 hnext hts hPe hr ht hd1e hv0
   go_wp2_with (first|(at_builtin;refine iG _ rfl _ _ rfl rfl HRW.o HT.o (by simp;omega) rfl ?_;intro v' w2 hr2 hm2;have HR2:=hQQ hr2;have HM2:=hQQ hm2;have HC2:=hQQ (hm2.block HC1.o);clear hr2 hm2)|(first|(refine aH rfl rfl rfl HC2.o (by kernel_rfl) ?_)|(refine aH rfl rfl rfl HC2.o (by kernel_rfl) ?_)))
   refine(kg HR.o _ P).mono ?_
   rw[PP3.o]
   rintro e w3 ⟨rfl,h3⟩
   have HM3:=hQQ (HM2.o.trans h3)
   have HR3:=hQQ (HR2.o.more h3)
   have cb:=CB.o _ (M1.o.trans HM3.o)
   clear h3
   go_wp2_with fail
   go_roundw
   case rel=>exact⟨j+1,by go_num,by omega,rfl,by rw[HTS.o];exact HR3.o,HM3.o,fun e=>by omega⟩
   case measure=>simp[intOf];omega
  ·obtain rfl:j=l.length:=by omega
   rw[List.drop_length]
   rw[List.take_length] at hr
   have hd0:hd1 []=0:=rfl
   rw[hd0]
   have FIN:=hQQ (show Cf w l (.returned _) wr from⟨_,rfl,hr.mono M1.o.size,M1.o.trans ht,fun e=>hv0 (by rw[e];rfl)⟩)
   clear hr ht hv0
   by_cases hp:(l.length:Int)<c.pg
   ·have d1:decide ((l.length:Int)<c.pg)=true:=by simpa using hp
    clear hp
    go_wp2_with fail
    go_ret
    exact FIN.o
   ·have d1:decide ((l.length:Int)<c.pg)=false:=by simpa using hp
    clear hp
    go_wp2_with fail
    go_ret
    exact FIN.o
theorem Bn {pg st:Int}{n:Nat}(H:dh pg st n){G:Int→List Int}{ws:List Int}(L:Ln pg st G ws){q f:Int}(h0:ay pg st q f≠0):aR pg (ay pg st q f) ws=dW (G (ay pg st q f)):=by
 have ha:=(cW h0).1
 exact j6 H (by have:=(ix H ha).1;omega) (L.head _ ha) (L.page _ ha)
theorem og {c:Cfg}(R:c.Ok)(ws:List Int)(H:dh c.pg c.st ws.length)(hl:ws.length≤1000){G:Int→List Int}(L:Ln c.pg c.st G ws)(g cap:Nat)(k:Int)(w:World)(hw:Ws w g cap ws):
 Calls Tryz.prog 144 #[.agg c.cells,.slice (some ⟨g,0,none⟩) ws.length cap,.int .i64 k] w (aD w (.int .i64 (aY c.pg c.st k (am k).toNat 1 ws))):=by
 have hc:=aI w c.cells 27
 have HC:=hQQ hc
 have HM:Hq (ac w (w.alloc (.cells c.cells 27))):=hQQ ((ac.refl w).alloc _)
 have HR:=hQQ R
 have HW:=hQQ hw
 have HH:=hQQ H
 have HLn:=hQQ L
 obtain⟨res,hres⟩:∃res,aY c.pg c.st k (am k).toNat 1 ws=res:=⟨_,rfl⟩
 rw[hres]
 have HRES:=hQQ hres
 have hsl:=yN k
 obtain⟨w1,e1⟩:∃w1,w.alloc (.cells c.cells 27)=w1:=⟨_,rfl⟩
 rw[e1] at HC HM
 clear hc R hw H L hres
 go_enter Tryz.func144,Tryz.ntmps144
 go_wp2_with fail
 clear e1
 go_loopw [7] (fun v7 wr=>∃f:Int,v7=.int .i64 f∧1≤f∧f≤33∧ac w1 wr∧aY c.pg c.st k (am k+1-f).toNat f ws=res) (fun v7 _=>(33-intOf v7).toNat)
 case atStart=>exact⟨1,rfl,by omega,by omega,ac.refl _,by rw[show am k+1-1=am k by omega];exact HRES.o⟩
 case round =>
  clear HRES
  obtain⟨f,rfl,f1,f2,ht,hrest⟩:=hrel
  have MW:=hQQ (HM.o.trans ht)
  have HC1:=hQQ (ht.block HC.o)
  have HT:=hQQ ht
  have qf:IntKind.i64.wrap (f+1)=f+1:=aj (by omega) (by omega)
  by_cases hf:f≤32
  ·have d1:decide (f≤32)=true:=by simpa using hf
   have REST:=hQQ hrest
   clear ht hrest
   go_wp2_with (first|(refine aH rfl rfl rfl HC1.o (by kernel_rfl) ?_)|(refine aH rfl rfl rfl HC1.o (by kernel_rfl) ?_))
   refine(kh HR.o ws HH.o hl HLn.o g cap k f wr (HW.o.more MW.o)).mono ?_
   rintro e w2 ⟨v,rfl,hr,h2,_⟩
   have MW2:=hQQ (MW.o.trans h2)
   have HT2:=hQQ (HT.o.trans h2)
   obtain⟨a1,c1,rfl,hrd⟩:=hr.reads
   clear h2
   have hcase:(listG c.pg c.st G k f= []∧aY c.pg c.st k (am k+1-(f+1)).toNat (f+1) ws=res)∨(0<(listG c.pg c.st G k f).length∧(listG c.pg c.st G k f).getD 0 0=res):=by
    have hrest:=REST.o
    by_cases hz:ay c.pg c.st k f=0
    ·refine .inl ⟨if_pos hz,?_⟩
     by_cases hm:f≤am k
     ·obtain⟨m,hm2⟩:∃m:Nat,(am k+1-f).toNat=m+1:=⟨(am k-f).toNat,by omega⟩
      rw[hm2] at hrest
      have hrest:(if aR c.pg (ay c.pg c.st k f) ws= -1 then aY c.pg c.st k m (f+1) ws else aR c.pg (ay c.pg c.st k f) ws)=res:=hrest
      rw[hz] at hrest
      have h0:aR c.pg 0 ws= -1:=if_pos rfl
      rw[if_pos h0] at hrest
      rw[show(am k+1-(f+1)).toNat=m by omega]
      exact hrest
     ·rw[show(am k+1-f).toNat=0 by omega] at hrest
      rw[show(am k+1-(f+1)).toNat=0 by omega]
      exact hrest
    ·obtain⟨ha,k0,k1,_,f3⟩:=cW hz
     have hse:=nZ ⟨k0,k1⟩
     obtain⟨m,hm2⟩:∃m:Nat,(am k+1-f).toNat=m+1:=⟨(am k-f).toNat,by omega⟩
     rw[hm2] at hrest
     have hrest:(if aR c.pg (ay c.pg c.st k f) ws= -1 then aY c.pg c.st k m (f+1) ws else aR c.pg (ay c.pg c.st k f) ws)=res:=hrest
     rw[Bn HH.o HLn.o hz] at hrest
     rw[show listG c.pg c.st G k f=G (ay c.pg c.st k f) from if_neg hz]
     have hpg:=HLn.o.page _ ha
     match G (ay c.pg c.st k f),hrest,hpg with
     | [],hrest,_ =>
       refine .inl ⟨rfl,?_⟩
       rw[show(am k+1-(f+1)).toNat=m by omega]
       simpa [dW] using hrest
     |x::l,hrest,hpg =>
      have hx:=(ai.1 (hpg x (by simp))).1
      refine .inr ⟨by simp,?_⟩
      have hrest:(if x= -1 then aY c.pg c.st k m (f+1) ws else x)=res:=hrest
      rw[if_neg (by omega)] at hrest
      exact hrest
   generalize listG c.pg c.st G k f=l at hcase hrd
   clear REST
   rcases hcase with⟨h0,hn⟩|⟨h0,hn⟩
   ·subst h0
    have HN:=hQQ hn
    clear hn hrd hr
    go_wp2_with fail
    go_roundw
    case rel=>exact⟨f+1,by go_num,by omega,by omega,HT2.o,HN.o⟩
    case measure=>simp[intOf];omega
   ·obtain⟨ga,rfl,_,_,hcell⟩:=hrd 0 h0
    have ca:=hcell 0 h0
    rw[hn] at ca
    have d2:decide ((0:Int)<(l.length:Int))=true:=by simp;omega
    have d3:decide (0<l.length)=true:=by simp;omega
    clear hn hrd hcell hr
    go_wp2_with fail
    go_ret
    exact⟨rfl,MW2.o⟩
  ·have d1:decide (f≤32)=false:=by simpa using hf
   have hres:(-1:Int)=res:=by
    rw[←hrest,show(am k+1-f).toNat=0 by omega];rfl
   subst hres
   clear hrest ht
   go_wp2_with fail
   go_ret
   exact⟨rfl,MW.o⟩
theorem ki {c:Cfg}(R:c.Ok)(ws:List Int)(H:dh c.pg c.st ws.length)(hl:ws.length≤1000)(k f:Int)(hz:ay c.pg c.st k f≠0)(ps:List Int)(hp:∀p∈ps,ah c.pg p=true)(hpl:ps.length≤1000)(g cap:Nat)(vp:Value)(bp:Nat)(w:World)(hw:Ws w g cap ws)(hr:Rw bp w vp ps)(hno:∀kk,vp.ownBlock=some kk→kk≠g):
 Calls Tryz.prog 157 #[.agg c.cells,.slice (some ⟨g,0,none⟩) ws.length cap,.int .i64 k,.int .i64 f,vp] w (fun e w'=>e=.returned (.tuple #[])∧Ws w' g cap (kP c.pg c.st (ay c.pg c.st k f) ps ws)∧Turned (fun b=>b=g) w w'):=by
 have hc:=aI w c.cells 27
 have HR:=hQQ R
 have hgl:=hw.lt
 have HPG:=hQQ hp
 have pg1:=R.pg1
 have pg2:=R.pg2
 obtain⟨ha,_,_,_,_⟩:=cW hz
 obtain⟨b0,b1,_⟩:=ix H ha
 have YH:Hq (∀W,Calls Tryz.prog 162 #[.agg c.cells,.int .i64 k,.int .i64 f] W (aD W (.int .i64 (ay c.pg c.st k f)))):=hQQ fun W=>lN R W k f
 obtain⟨h,hhe⟩:∃h,ay c.pg c.st k f=h:=⟨_,rfl⟩
 rw[hhe] at YH b0 b1 ha⊢
 obtain⟨m,hm⟩:∃m:Nat,h=(m:Int):=⟨h.toNat,by omega⟩
 have hml:m<ws.length:=by omega
 have NV:Hq (∀p,ah c.pg p=true→∃b3 b4:Nat,nA c.pg c.st p=(b3:Int)∧vA c.pg c.st p=(b4:Int)∧b3<ws.length∧b4<ws.length):=hQQ fun p hp=>by
  obtain⟨⟨q0,q1,_⟩,⟨q2,q3,_⟩⟩:=fN H hp
  exact⟨(nA c.pg c.st p).toNat,(vA c.pg c.st p).toNat,by omega,by omega,by omega,by omega⟩
 obtain⟨w1,e1⟩:∃w1,w.alloc (.cells c.cells 27)=w1:=⟨_,rfl⟩
 have m1:ac w w1:=by rw[←e1];exact(ac.refl w).alloc _
 rw[e1] at hc
 have KL:Hq (∀wr,Turned (fun b=>b=g) w1 wr→wr.heap[w.heap.size]?=some (.cells c.cells 27 (0,0))∧Rw bp wr vp ps):=hQQ fun wr t=>⟨(t.block _ (af hc) (by omega)).trans hc,Rw.keepT (Rw.more hr m1) t (fun kk q=>hno kk q)⟩
 obtain⟨ap,cp,rfl,_⟩:=hr.reads
 have X1:=hQQ (hw.more m1)
 have T1:Hq (Turned (fun b=>b=g) w1 w1):=hQQ (Turned.refl _ _)
 have HC1:=hQQ hc
 have M1:=hQQ m1
 have HE:=hQQ hhe
 have HMm:=hQQ hm
 clear hc R hw hr hno hz H ha hp m1 b0 b1 hhe
 go_enter Tryz.func157,Tryz.ntmps157
 go_wp2_with (first|(refine aH rfl rfl rfl HC1.o (by kernel_rfl) ?_)|(refine aH rfl rfl rfl HC1.o (by kernel_rfl) ?_))
 clear e1
 rw[hm] at YH
 refine(YH.o _).mono ?_
 rintro e w2 ⟨rfl,h2⟩
 have T2:Hq (Turned (fun b=>b=g) w1 w2):=hQQ (Turned.mono h2 (fun _ _ q=>q.elim))
 have X2:=hQQ (X1.o.more h2)
 clear h2
 have c3:=X2.o.cell (i:=m) hml
 have f3:=X2.o.froz m
 have l3:=X2.o.lt
 obtain⟨w3,e3⟩:∃w3,World.setCell w2 ⟨g,m,none⟩ (.int .i64 0)=w3:=⟨_,rfl⟩
 have X3:Hq (Ws w3 g cap (ws.set m 0)):=hQQ (by rw[←e3];exact X2.o.set hml _)
 have T3:Hq (Turned (fun b=>b=g) w1 w3):=hQQ (by rw[←e3];exact Turned.setCell T2.o _ _ (fun _=>rfl))
 go_wp2_with fail
 clear c3 f3 l3 e3
 have START:=hQQ (show Ws w3 g cap (fD c.pg c.st h ps 0 ws) from by
  have:fD c.pg c.st h ps 0 ws=ws.set m 0:=by unfold fD;rw[HMm.o];rfl
  rw[this];exact X3.o)
 go_loopw [10] (fun v10 wr=>∃j:Nat,v10=.int .i64 (j:Int)∧j≤ps.length∧Ws wr g cap (fD c.pg c.st h ps j ws)∧Turned (fun b=>b=g) w1 wr) (fun v10 _=>ps.length-(intOf v10).toNat)
 case atStart=>exact⟨0,rfl,by omega,START.o,T3.o⟩
 case round =>
  clear START X3 T3 X2 T2 X1 T1
  obtain⟨j,rfl,hj,hX,hT⟩:=hrel
  have X:=hQQ hX
  have T:=hQQ hT
  have q1:IntKind.i64.wrap ((j:Int)+1)=(j:Int)+1:=aj (by omega) (by omega)
  obtain⟨hL,hR⟩:=KL.o _ hT
  by_cases hlt:j<ps.length
  ·have d1:decide ((j:Int)<(ps.length:Int))=true:=by simp;omega
   obtain⟨ap',cp',e',hrd⟩:=hR.reads
   simp only[Value.slice.injEq] at e'
   obtain⟨rfl,_,rfl⟩:=e'
   obtain⟨gp,rfl,_,_,hcell⟩:=hrd j hlt
   have KR:Hq (∀wx,Turned (fun b=>b=g) w1 wx→∀i,i<ps.length→wx.cell? ⟨gp,i,none⟩=some (.int .i64 (ps.getD i 0))):=hQQ fun wx t i hi=>by
    obtain⟨ap',cp',e',hrd'⟩:=(KL.o _ t).2.reads
    simp only[Value.slice.injEq] at e'
    obtain⟨ea,_,_⟩:=e'
    obtain⟨g2,e2,_,_,hc2⟩:=hrd' i hi
    rw[←ea] at e2
    simp only[Option.some.injEq,Addr.mk.injEq,and_true] at e2
    rw[e2]
    exact hc2 i hi
   have cP:=hcell j hlt
   have HCELL:=hQQ hcell
   clear hcell
   have hmem:=cu hlt
   obtain⟨P,hPe⟩:∃P,ps.getD j 0=P:=⟨_,rfl⟩
   rw[hPe] at cP hmem
   obtain⟨b3,b4,hb3,hb4,l3,l4⟩:=NV.o P (HPG.o P hmem)
   have P3:=hQQ ((yw (st:=c.st) (HPG.o P hmem)).trans hb3)
   have P4:=hQQ ((Cd (st:=c.st) (HPG.o P hmem)).trans hb4)
   have HL:=hQQ hL
   have hPp:=ai.1 (HPG.o P hmem)
   have qP:IntKind.i64.wrap (P+1)=P+1:=aj (by omega) (by omega)
   obtain⟨xs,hxs⟩:∃xs,fD c.pg c.st h ps j ws=xs:=⟨_,rfl⟩
   have hxl:xs.length=ws.length:=by rw[←hxs];exact mE _ _ _ _ _ _
   have hnext:fD c.pg c.st h ps (j+1) ws=jF c.pg c.st h ps j (kO c.pg c.st h ps j ((xs.set b3 0).set b4 0)):=by
    show jF c.pg c.st h ps j (kO c.pg c.st h ps j (lC c.pg c.st h ps j (fD c.pg c.st h ps j ws)))=_
    rw[hxs];unfold lC;rw[hPe,hb3,hb4];rfl
   rw[hxs] at X
   clear hX hT hL hR hrd hxs
   go_wp2_with (first|(refine aH rfl rfl rfl HL.o (by kernel_rfl) ?_)|(refine aH rfl rfl rfl HL.o (by kernel_rfl) ?_))
   refine(kg HR.o _ P).mono ?_
   rw[P3.o]
   rintro e wa ⟨rfl,ha⟩
   have Ta:Hq (Turned (fun b=>b=g) w1 wa):=hQQ (T.o.trans (Turned.mono ha (fun _ _ q=>q.elim)))
   have Xa:=hQQ (X.o.more ha)
   clear ha
   have cb:=Xa.o.cell (i:=b3) (by omega)
   have fb:=Xa.o.froz b3
   have lb:=Xa.o.lt
   obtain⟨wb,eb⟩:∃wb,World.setCell wa ⟨g,b3,none⟩ (.int .i64 0)=wb:=⟨_,rfl⟩
   have Xb:Hq (Ws wb g cap (xs.set b3 0)):=hQQ (by rw[←eb];exact Xa.o.set (by omega) _)
   have Tb:Hq (Turned (fun b=>b=g) w1 wb):=hQQ (by rw[←eb];exact Turned.setCell Ta.o _ _ (fun _=>rfl))
   have HLb:=hQQ (KL.o _ Tb.o).1
   clear cP
   go_wp2_with (first|(refine aH rfl rfl rfl HLb.o (by kernel_rfl) ?_)|(refine aH rfl rfl rfl HLb.o (by kernel_rfl) ?_))
   clear cb fb lb eb
   refine(pF HR.o _ P).mono ?_
   rw[P4.o]
   rintro e wc ⟨rfl,hc⟩
   have Tc:Hq (Turned (fun b=>b=g) w1 wc):=hQQ (Tb.o.trans (Turned.mono hc (fun _ _ q=>q.elim)))
   have Xc:=hQQ (Xb.o.more hc)
   clear hc
   have cd:=Xc.o.cell (i:=b4) (by simp;omega)
   have fd:=Xc.o.froz b4
   have ld:=Xc.o.lt
   obtain⟨wd,ed⟩:∃wd,World.setCell wc ⟨g,b4,none⟩ (.int .i64 0)=wd:=⟨_,rfl⟩
   have Xd:Hq (Ws wd g cap ((xs.set b3 0).set b4 0)):=hQQ (by rw[←ed];exact Xc.o.set (by simp;omega) _)
   have Td:Hq (Turned (fun b=>b=g) w1 wd):=hQQ (by rw[←ed];exact Turned.setCell Tc.o _ _ (fun _=>rfl))
   have HLd:=hQQ (KL.o _ Td.o).1
   by_cases hj0:j=0
   ·have dj:((j:Int)==0)=true:=by simp[hj0]
    have hB:kO c.pg c.st h ps j ((xs.set b3 0).set b4 0)=((xs.set b3 0).set b4 0).set m (P+1):=by unfold kO;rw[if_pos hj0,hPe,HMm.o];rfl
    rw[hB] at hnext
    have HN:=hQQ hnext
    clear hj0 hB hnext
    go_wp2_with (first|(refine aH rfl rfl rfl HLd.o (by kernel_rfl) ?_)|(refine aH rfl rfl rfl HLd.o (by kernel_rfl) ?_))
    clear cd fd ld ed
    refine(YH.o _).mono ?_
    rintro e we ⟨rfl,he⟩
    have Te:Hq (Turned (fun b=>b=g) w1 we):=hQQ (Td.o.trans (Turned.mono he (fun _ _ q=>q.elim)))
    have Xe:=hQQ (Xd.o.more he)
    clear he
    have ck:=Xe.o.cell (i:=m) (by simp;omega)
    have fk:=Xe.o.froz m
    have lk:=Xe.o.lt
    obtain⟨wk,ek⟩:∃wk,World.setCell we ⟨g,m,none⟩ (.int .i64 (P+1))=wk:=⟨_,rfl⟩
    have Xk:Hq (Ws wk g cap (((xs.set b3 0).set b4 0).set m (P+1))):=hQQ (by rw[←ek];exact Xe.o.set (by simp;omega) _)
    have Tk:Hq (Turned (fun b=>b=g) w1 wk):=hQQ (by rw[←ek];exact Turned.setCell Te.o _ _ (fun _=>rfl))
    by_cases hlast:j+1<ps.length
    ·have d8:decide (((j:Int)+1)<(ps.length:Int))=true:=by simp;omega
     have cz5:=KR.o _ Tk.o (j+1) hlast
     obtain⟨zv,hzv⟩:∃zv,ps.getD (j+1) 0=zv:=⟨_,rfl⟩
     rw[hzv] at cz5
     have hzp:=ai.1 (HPG.o zv (by rw[←hzv];exact cu hlast))
     have qz:IntKind.i64.wrap (zv+1)=zv+1:=aj (by omega) (by omega)
     have hC:jF c.pg c.st h ps j ((((xs.set b3 0).set b4 0).set m (P+1)))=((((xs.set b3 0).set b4 0).set m (P+1))).set b3 (zv+1):=by unfold jF;rw[if_pos hlast,hPe,hb3,hzv];rfl
     have HC':=hQQ hC
     have HL5:=hQQ (KL.o _ Tk.o).1
     have hjx:(j:Int)+1<(ps.length:Int):=by omega
     have hjy:(0:Int)≤(j:Int)+1:=by omega
     clear hC hlast hzv
     go_wp2_with fail
     refine aq 11 (by kernel_rfl) (by kernel_rfl) ?_
     simp only[List.take_succ_cons,List.take_zero,List.drop_succ_cons,List.drop_zero]
     iterate 1
      with_reducible refine wpQuiet_step (fun K hK=>?_)
      go_simp
      first
      |(refine hK _ ?_;clear hK K)
      |(apply Exists.intro
        refine⟨fun W hW=>?_,hK _ ?_⟩
        first
        |(go_simp;try rfl)
        clear hK K)
     refine ae rfl 27 _ rfl _ rfl 27 _ _ _ (fun W hW=>hW.block HL5.o) Tryz.underlying27 rfl (by kernel_rfl) ?_
     iterate 9
      with_reducible refine wpQuiet_step (fun K hK=>?_)
      go_simp
      first
      |(refine hK _ ?_;clear hK K)
      |(apply Exists.intro
        refine⟨fun W hW=>?_,hK _ ?_⟩
        first
        |(go_at_call 155;have:=kg HR.o W P;rw[P3.o] at this;exact Calls.more hW this)
        |(have cz':=hW.cell cz5;go_simp;try rfl)
        clear hK K)
     refine wpQuiet_nil ?_
     intro w6 m6
     have T6:Hq (Turned (fun b=>b=g) w1 w6):=hQQ (Tk.o.trans (Turned.mono m6 (fun _ _ q=>q.elim)))
     have X6:=hQQ (Xk.o.more m6)
     clear m6
     have c7:=X6.o.cell (i:=b3) (by simp;omega)
     have f7:=X6.o.froz b3
     have l7:=X6.o.lt
     obtain⟨w7,e7⟩:∃w7,World.setCell w6 ⟨g,b3,none⟩ (.int .i64 (zv+1))=w7:=⟨_,rfl⟩
     have X7:Hq (Ws w7 g cap (((((xs.set b3 0).set b4 0).set m (P+1))).set b3 (zv+1))):=hQQ (by rw[←e7];exact X6.o.set (by simp;omega) _)
     have T7:Hq (Turned (fun b=>b=g) w1 w7):=hQQ (by rw[←e7];exact Turned.setCell T6.o _ _ (fun _=>rfl))
     go_wp2_with fail
     clear c7 f7 l7 e7
     go_roundw
     case rel=>exact⟨j+1,by go_num,by omega,by rw[HN.o,HC'.o];exact X7.o,T7.o⟩
     case measure=>simp[intOf];omega
    ·have d8:decide (((j:Int)+1)<(ps.length:Int))=false:=by simp;omega
     have hC:jF c.pg c.st h ps j ((((xs.set b3 0).set b4 0).set m (P+1)))=(((xs.set b3 0).set b4 0).set m (P+1)):=by unfold jF;rw[if_neg hlast]
     have HC':=hQQ hC
     clear hC hlast
     go_wp2_with fail
     go_roundw
     case rel=>exact⟨j+1,by go_num,by omega,by rw[HN.o,HC'.o];exact Xk.o,Tk.o⟩
     case measure=>simp[intOf];omega
   ·have dj:((j:Int)==0)=false:=by simpa using hj0
    have dj2:decide ((j:Int)=0)=false:=by simpa using hj0
    obtain⟨j1,hj1⟩:∃j1,j-1=j1:=⟨_,rfl⟩
    have cy5:=KR.o _ Td.o j1 (by omega)
    obtain⟨yv,hyv⟩:∃yv,ps.getD j1 0=yv:=⟨_,rfl⟩
    rw[hyv] at cy5
    have hyp:=ai.1 (HPG.o yv (by rw[←hyv];exact cu (by omega)))
    have qy:IntKind.i64.wrap (yv+1)=yv+1:=aj (by omega) (by omega)
    have qj1:IntKind.i64.wrap ((j:Int)-1)=(j1:Int):=by rw[aj (by omega) (by omega)];omega
    have hj1x:(j1:Int)<(ps.length:Int):=by omega
    have hj1n:j1<ps.length:=by omega
    have hB:kO c.pg c.st h ps j ((xs.set b3 0).set b4 0)=((xs.set b3 0).set b4 0).set b4 (yv+1):=by unfold kO;rw[if_neg hj0,hPe,hb4,hj1,hyv];rfl
    rw[hB] at hnext
    have HN:=hQQ hnext
    clear hj0 hB hnext hj1 hyv
    go_wp2_with fail
    clear cd fd ld ed
    refine aq 11 (by kernel_rfl) (by kernel_rfl) ?_
    simp only[List.take_succ_cons,List.take_zero,List.drop_succ_cons,List.drop_zero]
    iterate 1
     with_reducible refine wpQuiet_step (fun K hK=>?_)
     go_simp
     first
     |(refine hK _ ?_;clear hK K)
     |(apply Exists.intro
       refine⟨fun W hW=>?_,hK _ ?_⟩
       first
       |(go_simp;try rfl)
       clear hK K)
    refine ae rfl 27 _ rfl _ rfl 27 _ _ _ (fun W hW=>hW.block HLd.o) Tryz.underlying27 rfl (by kernel_rfl) ?_
    iterate 9
     with_reducible refine wpQuiet_step (fun K hK=>?_)
     go_simp
     first
     |(refine hK _ ?_;clear hK K)
     |(apply Exists.intro
       refine⟨fun W hW=>?_,hK _ ?_⟩
       first
       |(go_at_call 156;have:=pF HR.o W P;rw[P4.o] at this;exact Calls.more hW this)
       |(have cy':=hW.cell cy5;go_simp;try rfl)
       clear hK K)
    refine wpQuiet_nil ?_
    intro we me
    have Te:Hq (Turned (fun b=>b=g) w1 we):=hQQ (Td.o.trans (Turned.mono me (fun _ _ q=>q.elim)))
    have Xe:=hQQ (Xd.o.more me)
    clear me cy5
    have ck:=Xe.o.cell (i:=b4) (by simp;omega)
    have fk:=Xe.o.froz b4
    have lk:=Xe.o.lt
    obtain⟨wk,ek⟩:∃wk,World.setCell we ⟨g,b4,none⟩ (.int .i64 (yv+1))=wk:=⟨_,rfl⟩
    have Xk:Hq (Ws wk g cap (((xs.set b3 0).set b4 0).set b4 (yv+1))):=hQQ (by rw[←ek];exact Xe.o.set (by simp;omega) _)
    have Tk:Hq (Turned (fun b=>b=g) w1 wk):=hQQ (by rw[←ek];exact Turned.setCell Te.o _ _ (fun _=>rfl))
    by_cases hlast:j+1<ps.length
    ·have d8:decide (((j:Int)+1)<(ps.length:Int))=true:=by simp;omega
     have cz5:=KR.o _ Tk.o (j+1) hlast
     obtain⟨zv,hzv⟩:∃zv,ps.getD (j+1) 0=zv:=⟨_,rfl⟩
     rw[hzv] at cz5
     have hzp:=ai.1 (HPG.o zv (by rw[←hzv];exact cu hlast))
     have qz:IntKind.i64.wrap (zv+1)=zv+1:=aj (by omega) (by omega)
     have hC:jF c.pg c.st h ps j ((((xs.set b3 0).set b4 0).set b4 (yv+1)))=((((xs.set b3 0).set b4 0).set b4 (yv+1))).set b3 (zv+1):=by unfold jF;rw[if_pos hlast,hPe,hb3,hzv];rfl
     have HC':=hQQ hC
     have HL5:=hQQ (KL.o _ Tk.o).1
     have hjx:(j:Int)+1<(ps.length:Int):=by omega
     have hjy:(0:Int)≤(j:Int)+1:=by omega
     clear hC hlast hzv
     go_wp2_with fail
     refine aq 11 (by kernel_rfl) (by kernel_rfl) ?_
     simp only[List.take_succ_cons,List.take_zero,List.drop_succ_cons,List.drop_zero]
     iterate 1
      with_reducible refine wpQuiet_step (fun K hK=>?_)
      go_simp
      first
      |(refine hK _ ?_;clear hK K)
      |(apply Exists.intro
        refine⟨fun W hW=>?_,hK _ ?_⟩
        first
        |(go_simp;try rfl)
        clear hK K)
     refine ae rfl 27 _ rfl _ rfl 27 _ _ _ (fun W hW=>hW.block HL5.o) Tryz.underlying27 rfl (by kernel_rfl) ?_
     iterate 9
      with_reducible refine wpQuiet_step (fun K hK=>?_)
      go_simp
      first
      |(refine hK _ ?_;clear hK K)
      |(apply Exists.intro
        refine⟨fun W hW=>?_,hK _ ?_⟩
        first
        |(go_at_call 155;have:=kg HR.o W P;rw[P3.o] at this;exact Calls.more hW this)
        |(have cz':=hW.cell cz5;go_simp;try rfl)
        clear hK K)
     refine wpQuiet_nil ?_
     intro w6 m6
     have T6:Hq (Turned (fun b=>b=g) w1 w6):=hQQ (Tk.o.trans (Turned.mono m6 (fun _ _ q=>q.elim)))
     have X6:=hQQ (Xk.o.more m6)
     clear m6
     have c7:=X6.o.cell (i:=b3) (by simp;omega)
     have f7:=X6.o.froz b3
     have l7:=X6.o.lt
     obtain⟨w7,e7⟩:∃w7,World.setCell w6 ⟨g,b3,none⟩ (.int .i64 (zv+1))=w7:=⟨_,rfl⟩
     have X7:Hq (Ws w7 g cap (((((xs.set b3 0).set b4 0).set b4 (yv+1))).set b3 (zv+1))):=hQQ (by rw[←e7];exact X6.o.set (by simp;omega) _)
     have T7:Hq (Turned (fun b=>b=g) w1 w7):=hQQ (by rw[←e7];exact Turned.setCell T6.o _ _ (fun _=>rfl))
     go_wp2_with fail
     clear c7 f7 l7 e7
     go_roundw
     case rel=>exact⟨j+1,by go_num,by omega,by rw[HN.o,HC'.o];exact X7.o,T7.o⟩
     case measure=>simp[intOf];omega
    ·have d8:decide (((j:Int)+1)<(ps.length:Int))=false:=by simp;omega
     have hC:jF c.pg c.st h ps j ((((xs.set b3 0).set b4 0).set b4 (yv+1)))=(((xs.set b3 0).set b4 0).set b4 (yv+1)):=by unfold jF;rw[if_neg hlast]
     have HC':=hQQ hC
     clear hC hlast
     go_wp2_with fail
     go_roundw
     case rel=>exact⟨j+1,by go_num,by omega,by rw[HN.o,HC'.o];exact Xk.o,Tk.o⟩
     case measure=>simp[intOf];omega
  ·obtain rfl:j=ps.length:=by omega
   have d1:decide ((ps.length:Int)<(ps.length:Int))=false:=by simp
   have FIN:=hQQ (And.intro hX (Turned.trans (Turned.mono M1.o (fun _ _ q=>q.elim)) hT))
   clear hX hT hL hR
   go_wp2_with fail
   go_end0
   exact⟨rfl,FIN.o.1,FIN.o.2⟩
theorem RowP.turn {w w1 w2:World}{g:Nat}(m:ac w w1)(t:Turned (fun b=>b=g) w1 w2):Turned (fun b=>b=g) w w2:=(Turned.mono m (fun _ _ q=>q.elim)).trans t
theorem mK {o:Oper}{a:Act}{K:Act→World→Prop}{Q:Exit→Act→World→Prop}{w:World}{base b2:Nat}{v v2:Value}{xs ys:List Int}(s x:Operand)
 (ho:o.op=.call { callee:= .builtin .append,args:= #[s,x],argTypes:= #[28,28] })
 (hs:a.eval s=v) (hn:Rw base w v xs) (hb:base≤w.heap.size) (hl:xs.length≤1000000)
 (hx:a.eval x=v2) (hr:Rw b2 w v2 ys) (hy:0<ys.length∧ys.length≤1000000)
 (h:∀v' w',Rw base w' v' (xs++ys)→Turned (fun k=>v.ownBlock=some k) w w'→(∀k,v'.ownBlock=some k→v.ownBlock=some k∨k=w.heap.size)→K (a.put o.dst v') w'):o.wp Tryz.prog a w K Q:=by
 obtain⟨i,i1,i2,i3,i4⟩:=iE
 obtain⟨ax,cx,rfl,hrd⟩:=hr.reads
 obtain⟨gx,rfl,_,_,hc⟩:=hrd 0 hy.1
 refine wp_append_lies w s x 28 ho base 3 i _ 1 8 Tryz.underlying28 i1 i2 i3 i4 rfl (by omega) v xs.length _ hs hn ⟨gx,0,none⟩ ys.length cx (ys.map (Value.int .i64)) hx (by simp)
  (fun j u hu=>?_) (by intro u hu;obtain⟨z,_,rfl⟩:=List.mem_map.1 hu;rfl) hy.1 (by simp only[maxLen];omega) (by omega) hb _ rfl ?_
 ·rw[List.getElem?_map] at hu
  by_cases hj:j<ys.length
  ·rw[List.getElem?_eq_getElem hj] at hu
   simp only[Option.map_some,Option.some.injEq] at hu
   rw[fy,Nat.zero_add,hc j hj,←hu,List.getD_eq_getElem?_getD,List.getElem?_eq_getElem hj];rfl
  ·rw[List.getElem?_eq_none (by omega)] at hu;cases hu
 ·intro g' cap w1 hown hgrow h4 _
  have ht:Turned (fun k=>v.ownBlock=some k) w w1:=⟨hgrow.os,hgrow.tape,hgrow.output,hgrow.size,fun k hk hne=>hgrow.block k hk (fun e=>hne e.symm)⟩
  refine h _ w1 ?_ ht (fun k q=>?_)
  ·unfold Rw
   rw[List.length_append,List.map_append]
   exact hown
  ·have:k=g':=by simpa [Value.ownBlock,eq_comm] using q
   subst this
   exact h4
theorem ut (w:World)(a:Int):Rw 0 (w.alloc (.cells #[.int .i64 a] 3)) (.slice (some ⟨w.heap.size,0,none⟩) 1 1) [a]:=by
 have h:=bd w (.cells #[.int .i64 a] 3)
 exact Ws.rw' (base:=0) (zs:=[a]) (cap:=1) ⟨_,h,Nat.le_refl _,by unfold maxLen;omega,rfl,fun i hi=>by
  match i,hi with
  | 0,_=>rfl⟩ (Nat.zero_le _)
theorem fE {a:Act}{i j:Nat}{x y:Value}(h:i≠j):Act.put (Act.put a (some i) x) (some j) y=Act.put (Act.put a (some j) y) (some i) x:=by
 simp only[Act.put,Act.mk.injEq,and_true]
 exact Array.setIfInBounds_comm _ _ h
theorem rj {o:Oper}{a:Act}{K:Act→World→Prop}{Q:Exit→Act→World→Prop}{w:World}{g n cap:Nat}(s x:Operand)
 (ho:o.op=.call { callee:= .builtin .append,args:= #[s,x],argTypes:= #[28,28] })
 (hs:a.eval s=.slice (some ⟨g,0,none⟩) n cap) (hx:a.eval x=.slice none 0 0) (hn:n≤cap)
 (h:K (a.put o.dst (.slice (some ⟨g,0,none⟩) n cap)) w):o.wp Tryz.prog a w K Q:=by
 unfold Oper.wp execOp
 generalize a.eval=ρ at hs hx⊢
 simp only[ho,resolve,invoke,builtin,Sem.run_bind,Sem.run_pure,Result.andThen_ok,List.map_toArray,List.map_cons,List.map_nil,hs,hx]
 go_simp
 exact h
theorem Bo {c:Cfg}{ws:List Int}(H:dh c.pg c.st ws.length){G:Int→List Int}(L:Ln c.pg c.st G ws){q k f:Int}(hq:ah c.pg q=true)(hz:ay c.pg c.st k f≠0)(hf:∀a,bZ c.pg c.st a→q∉G a):bJ c.pg c.st q k f ws=(true,kP c.pg c.st (ay c.pg c.st k f) (q::listG c.pg c.st G k f) ws):=by
 have:=vO H L rfl hz hq hf
 rw[show listG c.pg c.st G k f=G (ay c.pg c.st k f) from if_neg hz,this]
 unfold bJ
 rw[if_pos ⟨hz,hq⟩]
theorem zt {c:Cfg}(R:c.Ok)(ws:List Int)(H:dh c.pg c.st ws.length)(hl:ws.length≤1000){G:Int→List Int}(L:Ln c.pg c.st G ws)(q k f:Int)(hf:ah c.pg q=true→∀a,bZ c.pg c.st a→q∉G a)(g cap:Nat)(w:World)(hw:Ws w g cap ws):
 Calls Tryz.prog 148 #[.agg c.cells,.slice (some ⟨g,0,none⟩) ws.length cap,.int .i64 q,.int .i64 k,.int .i64 f] w (fun e w'=>e=.returned (.bool (bJ c.pg c.st q k f ws).1)∧Ws w' g cap (bJ c.pg c.st q k f ws).2∧Turned (fun b=>b=g) w w'):=by
 have hc:=aI w c.cells 27
 have HC:=hQQ hc
 have HM:Hq (ac w (w.alloc (.cells c.cells 27))):=hQQ ((ac.refl w).alloc _)
 have HR:=hQQ R
 have HW:=hQQ hw
 have HH:=hQQ H
 have HLn:=hQQ L
 have hgl:=hw.lt
 obtain⟨w1,e1⟩:∃w1,w.alloc (.cells c.cells 27)=w1:=⟨_,rfl⟩
 rw[e1] at HC HM
 by_cases hth:ah c.pg q=true∧ay c.pg c.st k f≠0
 ·obtain⟨hq,hz⟩:=hth
  have hr:=Bo H L hq hz (hf hq)
  obtain⟨ha,_,_,_,_⟩:=cW hz
  have hsh:=qW H (L.page _ ha) (L.nodup _ ha)
  have pg1:=R.pg1
  have pg2:=R.pg2
  have hll:(listG c.pg c.st G k f).length≤256:=by rw[show listG c.pg c.st G k f=G (ay c.pg c.st k f) from if_neg hz];omega
  have HPS:Hq (∀p∈q::listG c.pg c.st G k f,ah c.pg p=true):=hQQ fun p hp=>by
   rcases List.mem_cons.1 hp with rfl|hp
   ·exact hq
   ·rw[show listG c.pg c.st G k f=G (ay c.pg c.st k f) from if_neg hz] at hp
    exact L.page _ ha p hp
  have hcond:(ah c.pg q && (ay c.pg c.st k f != 0))=true:=by simp[hq,hz]
  have YT:Hq (∀W,Calls Tryz.prog 154 #[.agg c.cells,.int .i64 q,.int .i64 k,.int .i64 f] W (aD W (.bool true))):=hQQ fun W=>by have:=je R q k f W;rwa [hcond] at this
  have HRES:=hQQ hr
  rw[e1] at hc
  have KC:Hq (∀W,ac w1 W→W.heap[w.heap.size]?=some (.cells c.cells 27 (0,0))):=hQQ fun W t=>t.block hc
  have KT:Hq (∀W,Turned (fun b=>b=g) w1 W→W.heap[w.heap.size]?=some (.cells c.cells 27 (0,0))):=hQQ fun W t=>(t.block _ (af hc) (by omega)).trans hc
  have HW1:=hQQ (HW.o.more HM.o)
  have s1:=HM.o.size
  have MM:=HM
  clear hc R hw H L hf hr ha hsh pg1 pg2 hcond hq
  go_enter Tryz.func148,Tryz.ntmps148
  go_wp2_with (first|(refine aH rfl rfl rfl HC.o (by kernel_rfl) ?_)|(refine aH rfl rfl rfl HC.o (by kernel_rfl) ?_))
  clear e1
  refine(YT.o _).mono ?_
  rintro e w3 ⟨rfl,h3⟩
  have M3:=hQQ h3
  clear h3
  go_wp2_with fail
  clear HM HW HC
  refine gb (fun W=>W.heap[w.heap.size]?=some (.cells c.cells 27 (0,0))) (by kernel_rfl) ?_
  have MR:=hQQ (M3.o.trans ((ac.refl w3).drewN 1))
  change eN _ _ _ _ _ _ _ _ (w3.drewN 1)
  generalize w3.drewN 1=wq at MR⊢
  generalize hA:Act.mk _ _=A
  have HF:AG 30 A [(1,.slice (some ⟨g,0,none⟩) ws.length cap),(2,.int .i64 q),(3,.int .i64 k),(4,.int .i64 f),(5,.pointer (some ⟨w.heap.size,0,none⟩))]:=by
   rw[←hA];try simp only[pts,List.foldl]
   refine⟨⟨Nat.le_of_ble_eq_true rfl,rfl⟩,?_⟩
   intro z hz;simp only[List.mem_cons,List.not_mem_nil,or_false] at hz;rcases hz with rfl|rfl|rfl|rfl|rfl<;>rfl
  refine jD (fun a W=>∃(u17 u18 u19 u20 u21 u23 u24 u25 u26 u22 u27 u28 u29:Value),a=(pts A [(17,u17),(18,u18),(19,u19),(20,u20),(21,u21),(23,u23),(24,u24),(25,u25),(26,u26),(22,u22),(27,u27),(28,u28),(29,u29)])∧Ws W g cap (kP c.pg c.st (ay c.pg c.st k f) (q::listG c.pg c.st G k f) ws)∧Turned (fun b=>b=g) w1 W) (fun _=>False) [] (fun a W hd h=>h.elim) (fun _ _ _ _ _ h=>h) ?_ ?_
  ·skip
   rintro a wa ⟨u17,u18,u19,u20,u21,u23,u24,u25,u26,u22,u27,u28,u29,rfl,hX,hT⟩
   rw[←hA];try simp only[pts,List.foldl]
   have FIN:=hQQ (And.intro hX hT)
   clear HF hA MR hX hT
   go_simp
   go_wp2_with fail
   go_ret
   exact⟨by rw[HRES.o];rfl,by rw[HRES.o];exact FIN.o.1,RowP.turn MM.o FIN.o.2⟩
  intro QQ FINE FIND FINQ
  clear hA
  refine tqC 0 17 (.agg c.cells) (by kernel_rfl) FINQ (KC.o _ MR.o) HF (by exact cG (ao rfl) 27 _ rfl w.heap.size (HF.get 4 rfl) 27 _ _ _ (fun W hW=>hW) Tryz.underlying27 rfl (by kernel_rfl)) fun A β1 HF=>?_
  refine tqM 1 18 1 rfl (.inl rfl) rfl (by kernel_rfl) FINQ (KC.o _ MR.o) HF fun A β2 HF=>?_
  refine tqM 2 19 4 rfl (.inl rfl) rfl (by kernel_rfl) FINQ (KC.o _ MR.o) HF fun A β3 HF=>?_
  refine tqM 3 20 6 rfl (.inl rfl) rfl (by kernel_rfl) FINQ (KC.o _ MR.o) HF fun A β4 HF=>?_
  refine tqM 4 21 5 rfl (.inl rfl) rfl (by kernel_rfl) FINQ (KC.o _ MR.o) HF fun A β5 HF=>?_
  refine tqC 6 23 (.agg c.cells) (by kernel_rfl) FINQ (KC.o _ MR.o) HF (by exact cG (ao rfl) 27 _ rfl w.heap.size (HF.get 9 rfl) 27 _ _ _ (fun W hW=>hW) Tryz.underlying27 rfl (by kernel_rfl)) fun A β6 HF=>?_
  refine tqM 7 24 6 rfl (.inl rfl) rfl (by kernel_rfl) FINQ (KC.o _ MR.o) HF fun A β7 HF=>?_
  refine tqM 8 25 9 rfl (.inl rfl) rfl (by kernel_rfl) FINQ (KC.o _ MR.o) HF fun A β8 HF=>?_
  refine tqM 9 26 11 rfl (.inl rfl) rfl (by kernel_rfl) FINQ (KC.o _ MR.o) HF fun A β9 HF=>?_
  refine yk (i:=5) (j:=10) (some 22) (some 27) (by kernel_rfl) rfl rfl (ao rfl) (ao rfl) rfl rfl (fun K hK=>?_) (fun K hK=>?_)
  ·refine nU rfl q (HF.get 4 rfl) ?_
   obtain⟨w4,e4⟩:∃w4,wq.alloc (.cells #[.int .i64 q] 3)=w4:=⟨_,rfl⟩
   have m4:ac wq w4:=by rw[←e4];exact(ac.refl _).alloc _
   have RB:Hq (Rw 0 w4 (.slice (some ⟨wq.heap.size,0,none⟩) 1 1) [q]):=hQQ (by rw[←e4];exact ut wq q)
   have M4:=hQQ (MR.o.trans m4)
   have hgb:w1.heap.size≤wq.heap.size:=MR.o.size
   rw[e4]
   refine hK _ _ (KC.o _ M4.o) ?_
   clear hK K
   replace HF:=HF.put 22 (.slice (some ⟨wq.heap.size,0,none⟩) 1 1) (by decide) rfl
   generalize β10:Act.put _ _ _=A at HF⊢
   refine tqO 10 27 (by kernel_rfl) HF fun K hK=>?_
   refine j0 (v0:=.agg c.cells) (v1:=.slice (some ⟨g,0,none⟩) ws.length cap) (v2:=.int .i64 k) (v3:=.int .i64 f) rfl (HF.get 4 rfl) (HF.get 3 rfl) (HF.get 2 rfl) (HF.get 1 rfl) (enters_of Tryz.func153 (by kernel_rfl) rfl) ?_
   refine(kh HR.o ws HH.o hl HLn.o g cap k f w4 (HW1.o.more M4.o)).mono ?_
   rintro e w5 ⟨vl,rfl,hrl,m5,hnil⟩
   have RL:=hQQ hrl
   have M5:=hQQ (M4.o.trans m5)
   have HNIL:=hQQ hnil
   clear hrl hnil
   replace RB:=hQQ (Rw.more RB.o m5)
   refine hK _ _ (KC.o _ M5.o) fun A β11 HF=>?_
   clear hK K
   by_cases hl0:listG c.pg c.st G k f= []
   ·have hv:=HNIL.o hl0
    subst hv
    refine tqO 11 28 (by kernel_rfl) HF fun K hK=>?_
    refine rj _ _ rfl (HF.get 1 rfl) (HF.get 0 rfl) (Nat.le_refl _) ?_
    refine hK _ _ (KC.o _ M5.o) fun A β12 HF=>?_
    clear hK K
    have RP:Hq (Rw 0 w5 (.slice (some ⟨wq.heap.size,0,none⟩) 1 1) (q::listG c.pg c.st G k f)):=hQQ (by rw[hl0];exact RB.o)
    have NP:Hq (∀kk,(Value.slice (some ⟨wq.heap.size,0,none⟩) 1 1).ownBlock=some kk→kk≠g):=hQQ (fun kk e=>by have hh:kk=wq.heap.size:=(by simpa [Value.ownBlock,eq_comm] using e);omega)
    have TP:Hq (Turned (fun b=>b=g) w1 w5):=hQQ (Turned.mono M5.o (fun _ _ z=>z.elim))
    refine tqO 12 29 (by kernel_rfl) HF fun K hK=>?_
    refine jZ (v0:=.agg c.cells) (v1:=.slice (some ⟨g,0,none⟩) ws.length cap) (v2:=.int .i64 k) (v3:=.int .i64 f) (v4:=.slice (some ⟨wq.heap.size,0,none⟩) 1 1) rfl (HF.get 11 rfl) (HF.get 10 rfl) (HF.get 9 rfl) (HF.get 8 rfl) (HF.get 0 rfl) (enters_of Tryz.func157 (by kernel_rfl) rfl) ?_
    refine(ki HR.o ws HH.o hl k f hz (q::listG c.pg c.st G k f) HPS.o (by simp;omega) g cap _ 0 w5 (HW1.o.more M5.o) RP.o NP.o).mono ?_
    rintro e w8 ⟨rfl,hw8,ht8⟩
    have T8:=TP.o.trans ht8
    refine hK _ _ (KT.o _ T8) fun A β13 HF=>?_
    clear hK K
    exact fR (by kernel_rfl) (FINE _ _ ⟨(.agg c.cells),(.slice (some ⟨g,0,none⟩) ws.length cap),(.int .i64 k),(.int .i64 f),(.int .i64 q),(.agg c.cells),(.slice (some ⟨g,0,none⟩) ws.length cap),(.int .i64 k),(.int .i64 f),(.slice (some ⟨wq.heap.size,0,none⟩) 1 1),(.slice none 0 0),(.slice (some ⟨wq.heap.size,0,none⟩) 1 1),(.tuple #[]),by rw[← β13,← β12,← β11,← β10,← β9,← β8,← β7,← β6,← β5,← β4,← β3,← β2,← β1]<;>rfl,hw8,T8⟩)
   ·refine tqO 11 28 (by kernel_rfl) HF fun K hK=>?_
    refine mK _ _ rfl (HF.get 1 rfl) RB.o (Nat.zero_le _) (by simp) (HF.get 0 rfl) RL.o ⟨List.length_pos_iff.2 hl0,by omega⟩ ?_
    intro vp wp hrp htp hvp
    have TP:Hq (Turned (fun b=>b=g) w1 wp):=hQQ (aw (Turned.mono M5.o (fun _ _ z=>z.elim)) htp (fun kk e=> .inr (by have hh:kk=wq.heap.size:=(by simpa [Value.ownBlock,eq_comm] using e);omega)))
    have RP:Hq (Rw 0 wp vp (q::listG c.pg c.st G k f)):=hQQ hrp
    have hsz:=M5.o.size
    have NP:Hq (∀kk,vp.ownBlock=some kk→kk≠g):=hQQ (fun kk e=>by
     rcases hvp kk e with z|z
     ·have:kk=wq.heap.size:=by simpa [Value.ownBlock,eq_comm] using z
      omega
     ·omega)
    have HTP:=hQQ htp
    have HGP:Hq (¬(Value.slice (some ⟨wq.heap.size,0,none⟩) 1 1).ownBlock=some g):=hQQ (fun e=>by have hh:g=wq.heap.size:=(by simpa [Value.ownBlock,eq_comm] using e);omega)
    clear hrp htp hvp
    refine hK _ _ (KT.o _ TP.o) fun A β12 HF=>?_
    clear hK K
    refine tqO 12 29 (by kernel_rfl) HF fun K hK=>?_
    refine jZ (v0:=.agg c.cells) (v1:=.slice (some ⟨g,0,none⟩) ws.length cap) (v2:=.int .i64 k) (v3:=.int .i64 f) (v4:=vp) rfl (HF.get 11 rfl) (HF.get 10 rfl) (HF.get 9 rfl) (HF.get 8 rfl) (HF.get 0 rfl) (enters_of Tryz.func157 (by kernel_rfl) rfl) ?_
    refine(ki HR.o ws HH.o hl k f hz (q::listG c.pg c.st G k f) HPS.o (by simp;omega) g cap _ 0 wp ((HW1.o.more M5.o).keep (Turned.mono HTP.o (fun _ _ z=>z)) HGP.o) RP.o NP.o).mono ?_
    rintro e w8 ⟨rfl,hw8,ht8⟩
    have T8:=TP.o.trans ht8
    refine hK _ _ (KT.o _ T8) fun A β13 HF=>?_
    clear hK K
    exact fR (by kernel_rfl) (FINE _ _ ⟨(.agg c.cells),(.slice (some ⟨g,0,none⟩) ws.length cap),(.int .i64 k),(.int .i64 f),(.int .i64 q),(.agg c.cells),(.slice (some ⟨g,0,none⟩) ws.length cap),(.int .i64 k),(.int .i64 f),(.slice (some ⟨wq.heap.size,0,none⟩) 1 1),(vl),(vp),(.tuple #[]),by rw[← β13,← β12,← β11,← β10,← β9,← β8,← β7,← β6,← β5,← β4,← β3,← β2,← β1]<;>rfl,hw8,T8⟩)
  ·refine j0 (v0:=.agg c.cells) (v1:=.slice (some ⟨g,0,none⟩) ws.length cap) (v2:=.int .i64 k) (v3:=.int .i64 f) rfl (HF.get 3 rfl) (HF.get 2 rfl) (HF.get 1 rfl) (HF.get 0 rfl) (enters_of Tryz.func153 (by kernel_rfl) rfl) ?_
   refine(kh HR.o ws HH.o hl HLn.o g cap k f wq (HW1.o.more MR.o)).mono ?_
   rintro e w4 ⟨vl,rfl,hrl,m4,hnil⟩
   have RL:=hQQ hrl
   have M4:=hQQ (MR.o.trans m4)
   have HNIL:=hQQ hnil
   clear hrl hnil
   refine hK _ _ (KC.o _ M4.o) ?_
   clear hK K
   replace HF:=HF.put 27 (vl) (by decide) rfl
   generalize β10:Act.put _ _ _=A at HF⊢
   refine tqO 5 22 (by kernel_rfl) HF fun K hK=>?_
   refine nU rfl q (HF.get 5 rfl) ?_
   obtain⟨w5,e5⟩:∃w5,w4.alloc (.cells #[.int .i64 q] 3)=w5:=⟨_,rfl⟩
   have m5:ac w4 w5:=by rw[←e5];exact(ac.refl _).alloc _
   have RB:Hq (Rw 0 w5 (.slice (some ⟨w4.heap.size,0,none⟩) 1 1) [q]):=hQQ (by rw[←e5];exact ut w4 q)
   have M5:=hQQ (M4.o.trans m5)
   have hgb:w1.heap.size≤w4.heap.size:=M4.o.size
   rw[e5]
   replace RL:=hQQ (Rw.more RL.o m5)
   refine hK _ _ (KC.o _ M5.o) fun A β11 HF=>?_
   clear hK K
   by_cases hl0:listG c.pg c.st G k f= []
   ·have hv:=HNIL.o hl0
    subst hv
    refine tqO 11 28 (by kernel_rfl) HF fun K hK=>?_
    refine rj _ _ rfl (HF.get 0 rfl) (HF.get 1 rfl) (Nat.le_refl _) ?_
    refine hK _ _ (KC.o _ M5.o) fun A β12 HF=>?_
    clear hK K
    have RP:Hq (Rw 0 w5 (.slice (some ⟨w4.heap.size,0,none⟩) 1 1) (q::listG c.pg c.st G k f)):=hQQ (by rw[hl0];exact RB.o)
    have NP:Hq (∀kk,(Value.slice (some ⟨w4.heap.size,0,none⟩) 1 1).ownBlock=some kk→kk≠g):=hQQ (fun kk e=>by have hh:kk=w4.heap.size:=(by simpa [Value.ownBlock,eq_comm] using e);omega)
    have TP:Hq (Turned (fun b=>b=g) w1 w5):=hQQ (Turned.mono M5.o (fun _ _ z=>z.elim))
    refine tqO 12 29 (by kernel_rfl) HF fun K hK=>?_
    refine jZ (v0:=.agg c.cells) (v1:=.slice (some ⟨g,0,none⟩) ws.length cap) (v2:=.int .i64 k) (v3:=.int .i64 f) (v4:=.slice (some ⟨w4.heap.size,0,none⟩) 1 1) rfl (HF.get 11 rfl) (HF.get 10 rfl) (HF.get 9 rfl) (HF.get 8 rfl) (HF.get 0 rfl) (enters_of Tryz.func157 (by kernel_rfl) rfl) ?_
    refine(ki HR.o ws HH.o hl k f hz (q::listG c.pg c.st G k f) HPS.o (by simp;omega) g cap _ 0 w5 (HW1.o.more M5.o) RP.o NP.o).mono ?_
    rintro e w8 ⟨rfl,hw8,ht8⟩
    have T8:=TP.o.trans ht8
    refine hK _ _ (KT.o _ T8) fun A β13 HF=>?_
    clear hK K
    exact fR (by kernel_rfl) (FINE _ _ ⟨(.agg c.cells),(.slice (some ⟨g,0,none⟩) ws.length cap),(.int .i64 k),(.int .i64 f),(.int .i64 q),(.agg c.cells),(.slice (some ⟨g,0,none⟩) ws.length cap),(.int .i64 k),(.int .i64 f),(.slice (some ⟨w4.heap.size,0,none⟩) 1 1),(.slice none 0 0),(.slice (some ⟨w4.heap.size,0,none⟩) 1 1),(.tuple #[]),by rw[← β13,← β12,← β11,← β10,← β9,← β8,← β7,← β6,← β5,← β4,← β3,← β2,← β1]; (try simp only[pts,List.foldl]);rw[fE (i:=27) (j:=22) (by decide)],hw8,T8⟩)
   ·refine tqO 11 28 (by kernel_rfl) HF fun K hK=>?_
    refine mK _ _ rfl (HF.get 0 rfl) RB.o (Nat.zero_le _) (by simp) (HF.get 1 rfl) RL.o ⟨List.length_pos_iff.2 hl0,by omega⟩ ?_
    intro vp wp hrp htp hvp
    have TP:Hq (Turned (fun b=>b=g) w1 wp):=hQQ (aw (Turned.mono M5.o (fun _ _ z=>z.elim)) htp (fun kk e=> .inr (by have hh:kk=w4.heap.size:=(by simpa [Value.ownBlock,eq_comm] using e);omega)))
    have RP:Hq (Rw 0 wp vp (q::listG c.pg c.st G k f)):=hQQ hrp
    have hsz:=M5.o.size
    have NP:Hq (∀kk,vp.ownBlock=some kk→kk≠g):=hQQ (fun kk e=>by
     rcases hvp kk e with z|z
     ·have:kk=w4.heap.size:=by simpa [Value.ownBlock,eq_comm] using z
      omega
     ·omega)
    have HTP:=hQQ htp
    have HGP:Hq (¬(Value.slice (some ⟨w4.heap.size,0,none⟩) 1 1).ownBlock=some g):=hQQ (fun e=>by have hh:g=w4.heap.size:=(by simpa [Value.ownBlock,eq_comm] using e);omega)
    clear hrp htp hvp
    refine hK _ _ (KT.o _ TP.o) fun A β12 HF=>?_
    clear hK K
    refine tqO 12 29 (by kernel_rfl) HF fun K hK=>?_
    refine jZ (v0:=.agg c.cells) (v1:=.slice (some ⟨g,0,none⟩) ws.length cap) (v2:=.int .i64 k) (v3:=.int .i64 f) (v4:=vp) rfl (HF.get 11 rfl) (HF.get 10 rfl) (HF.get 9 rfl) (HF.get 8 rfl) (HF.get 0 rfl) (enters_of Tryz.func157 (by kernel_rfl) rfl) ?_
    refine(ki HR.o ws HH.o hl k f hz (q::listG c.pg c.st G k f) HPS.o (by simp;omega) g cap _ 0 wp ((HW1.o.more M5.o).keep (Turned.mono HTP.o (fun _ _ z=>z)) HGP.o) RP.o NP.o).mono ?_
    rintro e w8 ⟨rfl,hw8,ht8⟩
    have T8:=TP.o.trans ht8
    refine hK _ _ (KT.o _ T8) fun A β13 HF=>?_
    clear hK K
    exact fR (by kernel_rfl) (FINE _ _ ⟨(.agg c.cells),(.slice (some ⟨g,0,none⟩) ws.length cap),(.int .i64 k),(.int .i64 f),(.int .i64 q),(.agg c.cells),(.slice (some ⟨g,0,none⟩) ws.length cap),(.int .i64 k),(.int .i64 f),(.slice (some ⟨w4.heap.size,0,none⟩) 1 1),(vl),(vp),(.tuple #[]),by rw[← β13,← β12,← β11,← β10,← β9,← β8,← β7,← β6,← β5,← β4,← β3,← β2,← β1]; (try simp only[pts,List.foldl]);rw[fE (i:=27) (j:=22) (by decide)],hw8,T8⟩)
 ·have hcond:(ah c.pg q && (ay c.pg c.st k f != 0))=false:=by
   cases e:ah c.pg q with
   |false=>rfl
   |true =>
    have:ay c.pg c.st k f=0:=Classical.byContradiction fun z=>hth ⟨e,z⟩
    simp[this]
  have YT:Hq (∀W,Calls Tryz.prog 154 #[.agg c.cells,.int .i64 q,.int .i64 k,.int .i64 f] W (aD W (.bool false))):=hQQ fun W=>by have:=je R q k f W;rwa [hcond] at this
  have hr:bJ c.pg c.st q k f ws=(false,ws):=by unfold bJ;rw[if_neg (fun z=>hth ⟨z.2,z.1⟩)]
  rw[hr]
  clear hc R hw H L hf hcond hth hr
  go_enter Tryz.func148,Tryz.ntmps148
  go_wp2_with (first|(refine aH rfl rfl rfl HC.o (by kernel_rfl) ?_)|(refine aH rfl rfl rfl HC.o (by kernel_rfl) ?_))
  clear e1
  refine(YT.o _).mono ?_
  rintro e w3 ⟨rfl,h3⟩
  have M3:=hQQ (HM.o.trans h3)
  clear h3
  go_wp2_with fail
  go_ret
  exact⟨rfl,HW.o.more M3.o,Turned.mono M3.o (fun _ _ z=>z.elim)⟩
theorem Bp {c:Cfg}{ws:List Int}(H:dh c.pg c.st ws.length){G:Int→List Int}(L:Ln c.pg c.st G ws){q k f:Int}(hz:ay c.pg c.st k f≠0){s t:List Int}(hG:G (ay c.pg c.st k f)=s++q::t)(hs:q∉s):aU c.pg c.st q k f ws=(true,kP c.pg c.st (ay c.pg c.st k f) (s++t) ((ws.set (nA c.pg c.st q).toNat 0).set (vA c.pg c.st q).toNat 0)):=by
 rw[q8 H L rfl hz hG hs]
 exact Prod.ext (kN H L rfl hz hG hs).1 rfl
def restL (l:List Int)(q:Int):List Int:=l.filter (fun x=>decide (x≠q))
theorem te {l:List Int}{q:Int}{j:Nat}(hj:j<l.length):restL (l.take (j+1)) q=if l.getD j 0=q then restL (l.take j) q else restL (l.take j) q++ [l.getD j 0]:=by
 rw[oe hj]
 unfold restL
 rw[List.filter_append]
 by_cases e:l.getD j 0=q
 ·rw[if_pos e,e];simp
 ·rw[if_neg e];simp only[List.filter_cons,List.filter_nil]
  have:decide (l.getD j 0≠q)=true:=by simpa using e
  rw[if_pos this]
theorem rk (l:List Int)(q:Int):(restL l q).length≤l.length:=List.length_filter_le _ _
theorem tg {c:Cfg}(R:c.Ok)(ws:List Int)(H:dh c.pg c.st ws.length)(hl:ws.length≤1000){G:Int→List Int}(L:Ln c.pg c.st G ws)(q k f:Int)(g cap:Nat)(w:World)(hw:Ws w g cap ws):
 Calls Tryz.prog 145 #[.agg c.cells,.slice (some ⟨g,0,none⟩) ws.length cap,.int .i64 q,.int .i64 k,.int .i64 f] w (fun e w'=>e=.returned (.bool (aU c.pg c.st q k f ws).1)∧Ws w' g cap (aU c.pg c.st q k f ws).2∧Turned (fun b=>b=g) w w'):=by
 have hc:=aI w c.cells 27
 have HC:=hQQ hc
 have HM:Hq (ac w (w.alloc (.cells c.cells 27))):=hQQ ((ac.refl w).alloc _)
 have HR:=hQQ R
 have HW:=hQQ hw
 have HH:=hQQ H
 have HLn:=hQQ L
 have hgl:=hw.lt
 obtain⟨w1,e1⟩:∃w1,w.alloc (.cells c.cells 27)=w1:=⟨_,rfl⟩
 rw[e1] at HC HM
 by_cases hth:ah c.pg q=true∧ay c.pg c.st k f≠0
 ·obtain⟨hq,hz⟩:=hth
  obtain⟨ha,_,_,_,_⟩:=cW hz
  have hsh:=qW H (L.page _ ha) (L.nodup _ ha)
  have pg1:=R.pg1
  have pg2:=R.pg2
  have hlG:listG c.pg c.st G k f=G (ay c.pg c.st k f):=if_neg hz
  have hll:(listG c.pg c.st G k f).length≤256:=by rw[hlG];omega
  have hcond:(ah c.pg q && (ay c.pg c.st k f != 0))=true:=by simp[hq,hz]
  have YT:Hq (∀W,Calls Tryz.prog 154 #[.agg c.cells,.int .i64 q,.int .i64 k,.int .i64 f] W (aD W (.bool true))):=hQQ fun W=>by have:=je R q k f W;rwa [hcond] at this
  rw[e1] at hc
  have hdec:(q∉G (ay c.pg c.st k f)∧restL (listG c.pg c.st G k f) q=listG c.pg c.st G k f∧aU c.pg c.st q k f ws=(false,ws)) ∨
   ((restL (listG c.pg c.st G k f) q).length<(listG c.pg c.st G k f).length∧aU c.pg c.st q k f ws=(true,kP c.pg c.st (ay c.pg c.st k f) (restL (listG c.pg c.st G k f) q) ((ws.set (nA c.pg c.st q).toNat 0).set (vA c.pg c.st q).toNat 0))):=by
   rw[hlG]
   by_cases hm:q∈G (ay c.pg c.st k f)
   ·obtain⟨s,t,hG,hs⟩:=fT hm
    have hnd:=L.nodup _ ha
    rw[hG] at hnd
    have ht:q∉t:=(List.nodup_cons.1 (List.nodup_append.1 hnd).2.1).1
    refine .inr ?_
    have hr:restL (G (ay c.pg c.st k f)) q=s++t:=by rw[hG];exact sW H hs ht
    rw[hr,Bp H L hz hG hs,hG]
    exact⟨by simp,rfl⟩
   ·exact .inl ⟨hm,List.filter_eq_self.2 (fun a h=>by simp;rintro rfl;exact hm h),jc H L (fun _ _=>hm)⟩
  have HPS:Hq (∀p∈restL (listG c.pg c.st G k f) q,ah c.pg p=true):=hQQ fun p hp=>by
   have:=(List.mem_filter.1 hp).1
   rw[hlG] at this
   exact L.page _ ha p this
  obtain⟨⟨q0,q1,_⟩,⟨q2,q3,_⟩⟩:=fN H hq
  obtain⟨b3,hb3⟩:∃b:Nat,nA c.pg c.st q=(b:Int):=⟨(nA c.pg c.st q).toNat,by omega⟩
  obtain⟨b4,hb4⟩:∃b:Nat,vA c.pg c.st q=(b:Int):=⟨(vA c.pg c.st q).toNat,by omega⟩
  have l3:b3<ws.length:=by omega
  have l4:b4<ws.length:=by omega
  have P3:=hQQ ((yw (st:=c.st) hq).trans hb3)
  have P4:=hQQ ((Cd (st:=c.st) hq).trans hb4)
  have HS:Hq ((ws.set (nA c.pg c.st q).toNat 0).set (vA c.pg c.st q).toNat 0=(ws.set b3 0).set b4 0):=hQQ (by rw[hb3,hb4];rfl)
  have KC:Hq (∀W,Turned (fun b=>b=g) w1 W→W.heap[w.heap.size]?=some (.cells c.cells 27 (0,0))):=hQQ fun W t=>(t.block _ (af hc) (by omega)).trans hc
  have HW1:=hQQ (HW.o.more HM.o)
  have s1:=HM.o.size
  have MM:=HM
  have HDEC:=hQQ hdec
  clear hc R hw H L ha hsh pg1 pg2 hcond hq hdec hlG hb3 hb4 q0 q1 q2 q3
  go_enter Tryz.func145,Tryz.ntmps145
  go_wp2_with (first|(refine aH rfl rfl rfl HC.o (by kernel_rfl) ?_)|(refine aH rfl rfl rfl HC.o (by kernel_rfl) ?_))
  clear e1
  refine(YT.o _).mono ?_
  rintro e w3 ⟨rfl,h3⟩
  have M3:=hQQ h3
  have HC3:=hQQ (h3.block HC.o)
  clear h3
  go_wp2_with (first|(refine aH rfl rfl rfl HC3.o (by kernel_rfl) ?_)|(refine aH rfl rfl rfl HC3.o (by kernel_rfl) ?_))
  refine(kh HR.o ws HH.o hl HLn.o g cap k f w3 (HW1.o.more M3.o)).mono ?_
  rintro e w4 ⟨vl,rfl,hrl,m4,_⟩
  have RL:=hQQ hrl
  have M4:=hQQ (M3.o.trans m4)
  obtain⟨l,hle⟩:∃l,listG c.pg c.st G k f=l:=⟨_,rfl⟩
  rw[hle] at hll HDEC HPS RL
  obtain⟨al,cl,rfl,hrd⟩:=RL.o.reads
  have HRD:=hQQ hrd
  clear hrl m4 hle hrd HC HC3 HM HW
  go_wp2_with fail
  go_loopw [11,13] (fun v11 v13 wr=>∃j:Nat,v13=.int .i64 (j:Int)∧j≤l.length∧Rw w4.heap.size wr v11 (restL (l.take j) q)∧ac w4 wr) (fun _ v13 _=>l.length-(intOf v13).toNat)
  case atStart=>exact⟨0,rfl,by omega,Rw.nil _ _,ac.refl _⟩
  case round =>
   obtain⟨j,rfl,hj,hr,ht⟩:=hrel
   have q1:IntKind.i64.wrap ((j:Int)+1)=(j:Int)+1:=aj (by omega) (by omega)
   have HRW:=hQQ hr
   have HT:=hQQ ht
   clear hr ht
   by_cases hlt:j<l.length
   ·have d1:decide ((j:Int)<(l.length:Int))=true:=by simp;omega
    obtain⟨ga,rfl,_,_,hcell⟩:=HRD.o j hlt
    have ca:=HT.o.cell (hcell j hlt)
    have hrt:=te (q:=q) hlt
    have hrl:=rk (l.take j) q
    have hlx:(l.take j).length≤256:=by simp;omega
    obtain⟨y,hy⟩:∃y,l.getD j 0=y:=⟨_,rfl⟩
    rw[hy] at ca hrt
    have HRT:=hQQ hrt
    have hjx:(j:Int)<(l.length:Int):=by omega
    clear hcell hy hrt
    by_cases e:y=q
    ·have d2:(y != q)=false:=by simp[e]
     have HE:=hQQ e
     clear e
     go_wp2_with fail
     go_roundw
     case rel=>exact⟨j+1,by go_num,by omega,by rw[HRT.o,if_pos HE.o];exact HRW.o,HT.o⟩
     case measure=>simp[intOf];omega
    ·have d2:(y != q)=true:=by simpa using e
     have HE:=hQQ e
     clear e
     go_wp2_with (first|(at_builtin;refine iG _ rfl _ _ rfl rfl HRW.o HT.o (by omega) rfl ?_;intro v' w5 hr5 hm5;have HR5:=hQQ hr5;have HM5:=hQQ hm5;clear hr5 hm5))
     go_roundw
     case rel=>exact⟨j+1,by go_num,by omega,by rw[HRT.o,if_neg HE.o];exact HR5.o,HM5.o⟩
     case measure=>simp[intOf];omega
   ·obtain rfl:j=l.length:=by omega
    have d1:decide ((l.length:Int)<(l.length:Int))=false:=by simp
    rw[List.take_length] at HRW
    obtain⟨ax,cx,rfl,_⟩:=HRW.o.reads
    have FW:=hQQ (HW1.o.more (M4.o.trans HT.o))
    have FT:=hQQ (M4.o.trans HT.o)
    rcases HDEC.o with⟨_,hre,hres⟩|⟨hre,hres⟩
    ·rw[hre] at HRW⊢
     have HRS:=hQQ hres
     clear hre hres
     go_wp2_with fail
     go_ret
     exact⟨by rw[HRS.o];rfl,by rw[HRS.o];exact FW.o,RowP.turn MM.o (Turned.mono FT.o (fun _ _ z=>z.elim))⟩
    ·have HRS:=hQQ hres
     have d2:(((restL l q).length:Int)==(l.length:Int))=false:=by simpa using (show ¬((restL l q).length:Int)=(l.length:Int) by omega)
     have d3:((restL l q).length==l.length)=false:=by simpa using (show ¬(restL l q).length=l.length by omega)
     have d4:decide ((restL l q).length=l.length)=false:=by simpa using (show ¬(restL l q).length=l.length by omega)
     have hrl:=rk l q
     obtain⟨rs,hrs⟩:∃rs,restL l q=rs:=⟨_,rfl⟩
     rw[hrs] at HRW d2 d3 d4 hrl HRS HPS
     rw[hrs]
     have T4:Hq (Turned (fun b=>b=g) w1 wr):=hQQ (Turned.mono FT.o (fun _ _ z=>z.elim))
     have HL4:=hQQ (KC.o _ T4.o)
     have UR:Hq (Turned (fun b=>b=g) wr wr):=hQQ (Turned.refl _ _)
     clear hre hres hrs
     go_wp2_with (first|(refine aH rfl rfl rfl HL4.o (by kernel_rfl) ?_)|(refine aH rfl rfl rfl HL4.o (by kernel_rfl) ?_))
     refine(kg HR.o _ q).mono ?_
     rw[P3.o]
     rintro e wa ⟨rfl,ha⟩
     have Ta:Hq (Turned (fun b=>b=g) w1 wa):=hQQ (T4.o.trans (Turned.mono ha (fun _ _ q=>q.elim)))
     have Ua:Hq (Turned (fun b=>b=g) wr wa):=hQQ (UR.o.trans (Turned.mono ha (fun _ _ q=>q.elim)))
     have Xa:=hQQ (FW.o.more ha)
     clear ha
     have cb:=Xa.o.cell (i:=b3) l3
     have fb:=Xa.o.froz b3
     have lb:=Xa.o.lt
     obtain⟨wb,eb⟩:∃wb,World.setCell wa ⟨g,b3,none⟩ (.int .i64 0)=wb:=⟨_,rfl⟩
     have Xb:Hq (Ws wb g cap (ws.set b3 0)):=hQQ (by rw[←eb];exact Xa.o.set l3 _)
     have Tb:Hq (Turned (fun b=>b=g) w1 wb):=hQQ (by rw[←eb];exact Turned.setCell Ta.o _ _ (fun _=>rfl))
     have HLb:=hQQ (KC.o _ Tb.o)
     have Ub:Hq (Turned (fun b=>b=g) wr wb):=hQQ (by rw[←eb];exact Turned.setCell Ua.o _ _ (fun _=>rfl))
     go_wp2_with (first|(refine aH rfl rfl rfl HLb.o (by kernel_rfl) ?_)|(refine aH rfl rfl rfl HLb.o (by kernel_rfl) ?_))
     clear cb fb lb eb
     refine(pF HR.o _ q).mono ?_
     rw[P4.o]
     rintro e wc ⟨rfl,hc⟩
     have Tc:Hq (Turned (fun b=>b=g) w1 wc):=hQQ (Tb.o.trans (Turned.mono hc (fun _ _ q=>q.elim)))
     have Uc:Hq (Turned (fun b=>b=g) wr wc):=hQQ (Ub.o.trans (Turned.mono hc (fun _ _ q=>q.elim)))
     have Xc:=hQQ (Xb.o.more hc)
     clear hc
     have cd:=Xc.o.cell (i:=b4) (by simp;omega)
     have fd:=Xc.o.froz b4
     have ld:=Xc.o.lt
     obtain⟨wd,ed⟩:∃wd,World.setCell wc ⟨g,b4,none⟩ (.int .i64 0)=wd:=⟨_,rfl⟩
     have Xd:Hq (Ws wd g cap ((ws.set b3 0).set b4 0)):=hQQ (by rw[←ed];exact Xc.o.set (by simp;omega) _)
     have Td:Hq (Turned (fun b=>b=g) w1 wd):=hQQ (by rw[←ed];exact Turned.setCell Tc.o _ _ (fun _=>rfl))
     have HLd:=hQQ (KC.o _ Td.o)
     have NP:Hq (∀kk,(Value.slice ax rs.length cx).ownBlock=some kk→kk≠g∧w4.heap.size≤kk):=hQQ fun kk e=>by
      have:=(Rw.own HRW.o e).1
      have:=M4.o.size
      omega
     have RD:Hq (Rw w4.heap.size wd (.slice ax rs.length cx) rs):=hQQ (by
      have t0:Turned (fun b=>b=g) wr wd:=by
       rw[←ed]
       refine Turned.setCell ?_ _ _ (fun _=>rfl)
       exact Uc.o
      exact HRW.o.keepT t0 (fun kk e=>(NP.o kk e).1))
     go_wp2_with (first|(refine aH rfl rfl rfl HLd.o (by kernel_rfl) ?_)|(refine aH rfl rfl rfl HLd.o (by kernel_rfl) ?_))
     clear cd fd ld ed
     have lay:=ki HR.o ((ws.set b3 0).set b4 0) (by simpa using HH.o) (by simpa using hl) k f hz rs HPS.o (by omega) g cap _ _ wd Xd.o RD.o (fun kk e=>(NP.o kk e).1)
     have hlen2:((ws.set b3 0).set b4 0).length=ws.length:=by simp
     rw[hlen2] at lay
     refine lay.mono ?_
     rintro e w9 ⟨rfl,h9,t9⟩
     have F9:=hQQ h9
     have G9:=hQQ (Td.o.trans t9)
     clear h9 t9 lay
     go_wp2_with fail
     go_ret
     exact⟨by rw[HRS.o];rfl,by rw[HRS.o,HS.o];exact F9.o,RowP.turn MM.o G9.o⟩
 ·have hcond:(ah c.pg q && (ay c.pg c.st k f != 0))=false:=by
   cases e:ah c.pg q with
   |false=>rfl
   |true =>
    have:ay c.pg c.st k f=0:=Classical.byContradiction fun z=>hth ⟨e,z⟩
    simp[this]
  have YT:Hq (∀W,Calls Tryz.prog 154 #[.agg c.cells,.int .i64 q,.int .i64 k,.int .i64 f] W (aD W (.bool false))):=hQQ fun W=>by have:=je R q k f W;rwa [hcond] at this
  have hr:=jc H L (c:=k) (f:=f) (p:=q) (fun a b=>absurd ⟨a,b⟩ hth)
  rw[hr]
  clear hc R hw H L hcond hth hr
  go_enter Tryz.func145,Tryz.ntmps145
  go_wp2_with (first|(refine aH rfl rfl rfl HC.o (by kernel_rfl) ?_)|(refine aH rfl rfl rfl HC.o (by kernel_rfl) ?_))
  clear e1
  refine(YT.o _).mono ?_
  rintro e w3 ⟨rfl,h3⟩
  have M3:=hQQ (HM.o.trans h3)
  clear h3
  go_wp2_with fail
  go_ret
  exact⟨rfl,HW.o.more M3.o,Turned.mono M3.o (fun _ _ z=>z.elim)⟩
theorem vX {c:Cfg}(R:c.Ok)(w:World):Calls Tryz.prog 124 #[.agg c.cells] w (aD w (.int .i64 (aA c.pg))):=gt c.wk c.cp c.pg c.st c.tr c.wt c.ck c.pr c.ca c.bi c.ba w R
theorem rm {c:Cfg}(R:c.Ok)(k:Int)(w:World):Calls Tryz.prog 86 #[.agg c.cells,.int .i64 k] w (aD w (.int .i64 (ce c.pg c.st k))):=Eb c.wk c.cp c.pg c.st c.tr c.wt c.ck c.pr c.ca c.bi c.ba w k R
theorem Ef (p:Int)(h0: -9223372036854775808≤p)(h1:p≤9223372036854775807)(w:World):Calls Tryz.prog 45 #[.int .i64 p] w fun e w'=>e=.returned (.int .i64 (ofV p))∧w'=w:=by
 by_cases c:p<0
 ·rw[show ofV p= -1 from if_pos c]
  go_enter Tryz.func45,Tryz.ntmps45
  go_wp2_with fail
  go_ret
  exact⟨rfl,rfl⟩
 ·rw[show ofV p=p / 4 from if_neg c]
  have q2:IntKind.i64.wrap (p.tdiv 4)=p / 4:=by rw[Int.tdiv_eq_ediv_of_nonneg (by omega)];exact aj (by omega) (by omega)
  have d0:decide (p<0)=false:=by simp;omega
  go_enter Tryz.func45,Tryz.ntmps45
  go_wp2_with fail
  go_ret
  exact⟨rfl,rfl⟩
theorem ii {c:Cfg}(R:c.Ok)(k:Int)(w:World):Calls Tryz.prog 85 #[.agg c.cells,.int .i64 k] w (aD w (.bool (aP c.pg k))):=by
 have HC:=hQQ (aI w c.cells 27)
 have HM:Hq (ac w (w.alloc (.cells c.cells 27))):=(ac.refl w).alloc _
 by_cases h:0≤k
 ·have d0:decide (0≤k)=true:=by simp[h]
  have hk:aP c.pg k=decide (k<aA c.pg):=by unfold aP;rw[d0];rfl
  rw[hk]
  go_enter Tryz.func85,Tryz.ntmps85
  go_wp2_with (refine aH rfl rfl rfl HC.o (by kernel_rfl) ?_)
  refine(vX R _).mono ?_
  rintro e w1 ⟨rfl,h1⟩
  go_wp2_with fail
  go_ret
  exact⟨rfl,HM.o.trans h1⟩
 ·have d0:decide (0≤k)=false:=by simp[h]
  have hk:aP c.pg k=false:=by unfold aP;rw[d0];rfl
  rw[hk]
  go_enter Tryz.func85,Tryz.ntmps85
  go_wp2_with fail
  go_ret
  exact⟨rfl,HM.o⟩
theorem mL {c:Cfg}(R:c.Ok)(ws:List Int)(H:TblIn c.pg c.st ws.length)(hl:ws.length≤1000)(g cap:Nat)(k:Int)(w:World)(hw:Ws w g cap ws):
 Calls Tryz.prog 44 #[.agg c.cells,.slice (some ⟨g,0,none⟩) ws.length cap,.int .i64 k] w (aD w (.bool (aF c.pg c.st ws k))):=by
 have HC:=hQQ (aI w c.cells 27)
 have HM:Hq (ac w (w.alloc (.cells c.cells 27))):=(ac.refl w).alloc _
 have R':=hQQ R
 have HW:=hQQ hw
 cases h:aP c.pg k with
 |false =>
  rw[show aF c.pg c.st ws k=false by unfold aF;rw[h];rfl]
  clear hw R
  go_enter Tryz.func44,Tryz.ntmps44
  go_wp2_with (refine aH rfl rfl rfl HC.o (by kernel_rfl) ?_)
  refine(ii R'.o k _).mono ?_
  rw[h]
  rintro e w1 ⟨rfl,h1⟩
  have HM1:=hQQ (HM.o.trans h1)
  clear h1
  go_wp2_with fail
  go_ret
  exact⟨rfl,HM1.o⟩
 |true =>
  obtain⟨t0,t1,t2⟩:=iw H h
  obtain⟨m,hm⟩:∃m:Nat,ce c.pg c.st k=(m:Int):=⟨(ce c.pg c.st k).toNat,by omega⟩
  have hmj:m<ws.length:=by omega
  have hv:aF c.pg c.st ws k=decide (ws.getD m 0=1):=by unfold aF;rw[h,hm];rfl
  rw[hv]
  have YT:Hq (∀W,Calls Tryz.prog 86 #[.agg c.cells,.int .i64 k] W (aD W (.int .i64 (m:Int)))):=hQQ (fun W=>by have:=rm R k W;rw[hm] at this;exact this)
  have HX:Hq (∀W,ac w W→W.cell? ⟨g,m,none⟩=some (.int .i64 (ws.getD m 0))):=hQQ (fun W hW=>(hw.more hW).cell hmj)
  generalize ws.getD m 0=z at HX⊢
  have b1:(z==1)=decide (z=1):=by by_cases q:z=1<;>simp[q]
  clear hw R hm t0 t1 t2 hv HW
  go_enter Tryz.func44,Tryz.ntmps44
  go_wp2_with (refine aH rfl rfl rfl HC.o (by kernel_rfl) ?_)
  refine(ii R'.o k _).mono ?_
  rw[h]
  rintro e w1 ⟨rfl,h1⟩
  have HC1:=hQQ (h1.block HC.o)
  have HM1:=hQQ (HM.o.trans h1)
  clear h1
  go_wp2_with (refine aH rfl rfl rfl HC1.o (by kernel_rfl) ?_)
  refine(YT.o _).mono ?_
  rintro e w2 ⟨rfl,h2⟩
  have HM2:=hQQ (HM1.o.trans h2)
  have x1:=HX.o _ HM2.o
  clear h2
  go_wp2_with fail
  go_ret
  exact⟨rfl,HM2.o⟩
theorem DQ {c:Cfg}(R:c.Ok)(x y:Int)(hx:W64 x)(w:World):Calls Tryz.prog 132 #[.agg c.cells,.int .i64 x,.int .i64 y] w (aD w (.bool (aV c.pg x y))):=by
 have hc:=aI w c.cells 27
 have x2:(w.alloc (.cells c.cells 27)).cell? ⟨w.heap.size,2,none⟩=some (.int .i64 c.pg):=aB hc (ac.refl _) rfl
 have HM:Hq (ac w (w.alloc (.cells c.cells 27))):=(ac.refl w).alloc _
 have p1:=R.pg1
 have p2:=R.pg2
 have q0:aV c.pg x y=(decide (1≤y) && decide (0≤x) && decide (x<c.pg) && decide (y≤c.pg-x)):=by
  unfold aV
  by_cases a:1≤y<;>by_cases b:0≤x<;>by_cases d:y≤c.pg-x<;>simp[a,b,d]
  omega
 rw[q0]
 clear q0 hc
 unfold W64 at hx
 by_cases a:1≤y
 ·have d1:decide (1≤y)=true:=by simp[a]
  by_cases b:0≤x
  ·have d2:decide (0≤x)=true:=by simp[b]
   by_cases d:x<c.pg
   ·have d3:decide (x<c.pg)=true:=by simp[d]
    have q1:IntKind.i64.wrap (c.pg-x)=c.pg-x:=aj (by omega) (by omega)
    rw[d1,d2,d3]
    simp only[Bool.true_and,Bool.and_true]
    clear a b d p1 p2 hx R
    go_enter Tryz.func132,Tryz.ntmps132
    go_wp2_with fail
    go_ret
    exact⟨rfl,HM.o⟩
   ·have d3:decide (x<c.pg)=false:=by simp;omega
    rw[d1,d2,d3]
    simp only[Bool.true_and,Bool.and_true,Bool.false_and,Bool.and_false]
    clear a b d p1 p2 hx R
    go_enter Tryz.func132,Tryz.ntmps132
    go_wp2_with fail
    go_ret
    exact⟨rfl,HM.o⟩
  ·have d2:decide (0≤x)=false:=by simp[b]
   rw[d1,d2]
   simp only[Bool.true_and,Bool.and_true,Bool.false_and,Bool.and_false]
   clear a b p1 p2 hx R
   go_enter Tryz.func132,Tryz.ntmps132
   go_wp2_with fail
   go_ret
   exact⟨rfl,HM.o⟩
 ·have d1:decide (1≤y)=false:=by simp[a]
  rw[d1]
  simp only[Bool.true_and,Bool.and_true,Bool.false_and,Bool.and_false]
  clear a p1 p2 hx R
  go_enter Tryz.func132,Tryz.ntmps132
  go_wp2_with fail
  go_ret
  exact⟨rfl,HM.o⟩
def oh (w:World)(g cap:Nat)(v:Value)(ws:List Int)(e:Ending)(w':World):Prop:=e=.returned v∧Ws w' g cap ws∧Turned (fun b=>b=g) w w'
theorem turned_more {S:Nat→Prop}{w w':World}(m:ac w w'):Turned S w w':=Turned.mono m (fun _ _ q=>q.elim)
theorem CX {c:Cfg}(R:c.Ok)(ws:List Int)(H:TblIn c.pg c.st ws.length)(hl:ws.length≤1000)(g cap:Nat)(k x:Int)(w:World)(hw:Ws w g cap ws):
 Calls Tryz.prog 134 #[.agg c.cells,.slice (some ⟨g,0,none⟩) ws.length cap,.int .i64 k,.int .i64 x] w (oh w g cap (.bool (decide (0<(eC c.pg c.st k x ws).1))) (eC c.pg c.st k x ws).2):=by
 have HC:=hQQ (aI w c.cells 27)
 have HM:Hq (ac w (w.alloc (.cells c.cells 27))):=(ac.refl w).alloc _
 have R':=hQQ R
 have HW:=hQQ hw
 cases h:aP c.pg k with
 |false =>
  rw[show eC c.pg c.st k x ws=(0,ws) by unfold eC;rw[h];rfl]
  clear hw R
  go_enter Tryz.func134,Tryz.ntmps134
  go_wp2_with (refine aH rfl rfl rfl HC.o (by kernel_rfl) ?_)
  refine(ii R'.o k _).mono ?_
  rw[h]
  rintro e w1 ⟨rfl,h1⟩
  have HM1:=hQQ (HM.o.trans h1)
  clear h1
  go_wp2_with fail
  go_ret
  exact⟨rfl,HW.o.more HM1.o,turned_more HM1.o⟩
 |true =>
  obtain⟨t0,t1,t2⟩:=iw H h
  obtain⟨m,hm⟩:∃m:Nat,ce c.pg c.st k=(m:Int):=⟨(ce c.pg c.st k).toNat,by omega⟩
  have hmj:m<ws.length:=by omega
  have YT:Hq (∀W,Calls Tryz.prog 86 #[.agg c.cells,.int .i64 k] W (aD W (.int .i64 (m:Int)))):=hQQ (fun W=>by have:=rm R k W;rw[hm] at this;exact this)
  have RM:=hQQ (fun W (hW:ac w W)=>mL R ws H hl g cap k W (hw.more hW))
  have hs:=Cu h
  have e1:decide (0<cO c.pg k)=true:=by simp;omega
  have hT:eC c.pg c.st k x ws=if aF c.pg c.st ws k=decide (x=1) then(0,ws) else(cO c.pg k,ws.set m x):=by unfold eC;rw[h,hm];rfl
  rw[hT]
  generalize aF c.pg c.st ws k=b at RM⊢
  by_cases hx:x=1
  ·cases b with
   |false =>
    have d0:(x==1)=true:=by simp[hx]
    have d1:decide (x=1)=true:=by simp[hx]
    rw[d1]
    rw[if_neg (by decide)]
    show Calls _ _ _ _ (oh w g cap (.bool (decide (0<cO c.pg k))) (ws.set m x))
    rw[e1]
    clear hw R hm t0 t1 t2 hT hs e1 hx d1
    go_enter Tryz.func134,Tryz.ntmps134
    go_wp2_with (refine aH rfl rfl rfl HC.o (by kernel_rfl) ?_)
    refine(ii R'.o k _).mono ?_
    rw[h]
    rintro e w1 ⟨rfl,h1⟩
    have HC1:=hQQ (h1.block HC.o)
    have HM1:=hQQ (HM.o.trans h1)
    clear h1
    go_wp2_with (refine aH rfl rfl rfl HC1.o (by kernel_rfl) ?_)
    refine(RM.o _ HM1.o).mono ?_
    rintro e w2 ⟨rfl,h2⟩
    have HC2:=hQQ (h2.block HC1.o)
    have HM2:=hQQ (HM1.o.trans h2)
    clear h2
    go_wp2_with (refine aH rfl rfl rfl HC2.o (by kernel_rfl) ?_)
    refine(YT.o _).mono ?_
    rintro e w3 ⟨rfl,h3⟩
    have HM3:=hQQ (HM2.o.trans h3)
    have x1:=(HW.o.more HM3.o).cell hmj
    have x2:=(HW.o.more HM3.o).froz m
    have FIN:=hQQ (And.intro ((HW.o.more HM3.o).set hmj x) ((turned_more (S:=fun b=>b=g) HM3.o).setCell ⟨g,m,none⟩ (.int .i64 x) (fun _=>rfl)))
    clear h3
    go_wp2_with fail
    go_ret
    exact⟨rfl,FIN.o.1,FIN.o.2⟩
   |true =>
    have d0:(x==1)=true:=by simp[hx]
    have d1:decide (x=1)=true:=by simp[hx]
    rw[d1]
    rw[if_pos rfl]
    clear hw R hm t0 t1 t2 hT hs e1 hx d1
    go_enter Tryz.func134,Tryz.ntmps134
    go_wp2_with (refine aH rfl rfl rfl HC.o (by kernel_rfl) ?_)
    refine(ii R'.o k _).mono ?_
    rw[h]
    rintro e w1 ⟨rfl,h1⟩
    have HC1:=hQQ (h1.block HC.o)
    have HM1:=hQQ (HM.o.trans h1)
    clear h1
    go_wp2_with (refine aH rfl rfl rfl HC1.o (by kernel_rfl) ?_)
    refine(RM.o _ HM1.o).mono ?_
    rintro e w2 ⟨rfl,h2⟩
    have HC2:=hQQ (h2.block HC1.o)
    have HM2:=hQQ (HM1.o.trans h2)
    clear h2
    go_wp2_with fail
    go_ret
    exact⟨rfl,HW.o.more HM2.o,turned_more HM2.o⟩
  ·cases b with
   |false =>
    have d0:(x==1)=false:=by simp[hx]
    have d1:decide (x=1)=false:=by simp[hx]
    rw[d1]
    rw[if_pos rfl]
    clear hw R hm t0 t1 t2 hT hs e1 hx d1
    go_enter Tryz.func134,Tryz.ntmps134
    go_wp2_with (refine aH rfl rfl rfl HC.o (by kernel_rfl) ?_)
    refine(ii R'.o k _).mono ?_
    rw[h]
    rintro e w1 ⟨rfl,h1⟩
    have HC1:=hQQ (h1.block HC.o)
    have HM1:=hQQ (HM.o.trans h1)
    clear h1
    go_wp2_with (refine aH rfl rfl rfl HC1.o (by kernel_rfl) ?_)
    refine(RM.o _ HM1.o).mono ?_
    rintro e w2 ⟨rfl,h2⟩
    have HC2:=hQQ (h2.block HC1.o)
    have HM2:=hQQ (HM1.o.trans h2)
    clear h2
    go_wp2_with fail
    go_ret
    exact⟨rfl,HW.o.more HM2.o,turned_more HM2.o⟩
   |true =>
    have d0:(x==1)=false:=by simp[hx]
    have d1:decide (x=1)=false:=by simp[hx]
    rw[d1]
    rw[if_neg (by decide)]
    show Calls _ _ _ _ (oh w g cap (.bool (decide (0<cO c.pg k))) (ws.set m x))
    rw[e1]
    clear hw R hm t0 t1 t2 hT hs e1 hx d1
    go_enter Tryz.func134,Tryz.ntmps134
    go_wp2_with (refine aH rfl rfl rfl HC.o (by kernel_rfl) ?_)
    refine(ii R'.o k _).mono ?_
    rw[h]
    rintro e w1 ⟨rfl,h1⟩
    have HC1:=hQQ (h1.block HC.o)
    have HM1:=hQQ (HM.o.trans h1)
    clear h1
    go_wp2_with (refine aH rfl rfl rfl HC1.o (by kernel_rfl) ?_)
    refine(RM.o _ HM1.o).mono ?_
    rintro e w2 ⟨rfl,h2⟩
    have HC2:=hQQ (h2.block HC1.o)
    have HM2:=hQQ (HM1.o.trans h2)
    clear h2
    go_wp2_with (refine aH rfl rfl rfl HC2.o (by kernel_rfl) ?_)
    refine(YT.o _).mono ?_
    rintro e w3 ⟨rfl,h3⟩
    have HM3:=hQQ (HM2.o.trans h3)
    have x1:=(HW.o.more HM3.o).cell hmj
    have x2:=(HW.o.more HM3.o).froz m
    have FIN:=hQQ (And.intro ((HW.o.more HM3.o).set hmj x) ((turned_more (S:=fun b=>b=g) HM3.o).setCell ⟨g,m,none⟩ (.int .i64 x) (fun _=>rfl)))
    clear h3
    go_wp2_with fail
    go_ret
    exact⟨rfl,FIN.o.1,FIN.o.2⟩
theorem uu {p:Int}(h:0≤p):ofV p=p / 4:=if_neg (by omega)
theorem kT (p:Int)(h0: -9223372036854775808≤p)(h1:p≤9223372036854775807)(w:World):Calls Tryz.prog 45 #[.int .i64 p] w (aD w (.int .i64 (ofV p))):=by
 refine(Ef p h0 h1 w).mono ?_
 rintro e w' ⟨rfl,rfl⟩
 exact⟨rfl,ac.refl _⟩
theorem Bq {c:Cfg}(R:c.Ok)(ws:List Int)(H:TblIn c.pg c.st ws.length)(hl:ws.length≤1000)(g cap:Nat)(w:World)(hw:Ws w g cap ws):
 Calls Tryz.prog 133 #[.agg c.cells,.slice (some ⟨g,0,none⟩) ws.length cap] w (aD w (.int .i64 (dI c.pg c.st ws))):=by
 have HC:=hQQ (aI w c.cells 27)
 have HM:Hq (ac w (w.alloc (.cells c.cells 27))):=(ac.refl w).alloc _
 have p1:=R.pg1
 have p2:=R.pg2
 rw[←lq c.pg c.st ws p1]
 have RM:=hQQ (fun k W (hW:ac w W)=>mL R ws H hl g cap k W (hw.more hW))
 have CB:=hQQ (qH c.pg c.st ws)
 clear R H hw
 go_enter Tryz.func133,Tryz.ntmps133
 go_wp2_with fail
 go_loopw [5,6] (fun nv pv wr=>∃p:Nat,(p:Int)≤c.pg∧pv=.int .i64 p∧nv=.int .i64 (dy c.pg c.st ws p)∧ac (w.alloc (.cells c.cells 27)) wr) (fun _ pv _=>c.pg.toNat-(intOf pv).toNat)
 case atStart=>exact⟨0,by omega,rfl,rfl,ac.refl _⟩
 case round =>
  obtain⟨p,hp,rfl,rfl,ht⟩:=hrel
  have hc:=ht.block HC.o
  have x2:wr.cell? ⟨w.heap.size,2,none⟩=some (.int .i64 c.pg):=aB hc (ac.refl _) rfl
  have HC1:=hQQ hc
  have HT:=hQQ ht
  have cb:=CB.o p
  clear hc ht
  by_cases hlt:(p:Int)<c.pg
  ·have d0:decide ((p:Int)<c.pg)=true:=by simp[hlt]
   have hq:ofV (p:Int)=(p:Int) / 4:=uu (by omega)
   have q1:IntKind.i64.wrap ((p:Int)+1)=(p:Int)+1:=aj (by omega) (by omega)
   have q2:IntKind.i64.wrap (dy c.pg c.st ws p+1)=dy c.pg c.st ws p+1:=aj (by omega) (by omega)
   have OF:=hQQ (fun W=>by have:=kT (p:Int) (by omega) (by omega) W;rw[hq] at this;exact this)
   have hs:dy c.pg c.st ws (p+1)=dy c.pg c.st ws p+if aF c.pg c.st ws ((p:Int) / 4) then 1 else 0:=rfl
   have RK:=hQQ (RM.o ((p:Int) / 4))
   have HLT:=hQQ hlt
   generalize aF c.pg c.st ws ((p:Int) / 4)=b at RK hs
   have HS:=hQQ hs
   have CB0:=hQQ cb
   generalize dy c.pg c.st ws p=z at HS q2 CB0⊢
   clear hq hs hlt cb
   go_wp2_with fail
   refine au (by kernel_rfl) (by kernel_rfl) ?_
   iterate 5
    first
    |(refine ae rfl 27 _ rfl _ rfl 27 _ _ _ (fun W hW=>hW.block HC1.o) Tryz.underlying27 rfl (by kernel_rfl) ?_)
    |(with_reducible refine wpQuiet_step (fun K hK=>?_)
      go_simp
      first
      |(refine hK _ ?_;clear hK K)
      |(apply Exists.intro
        refine⟨fun W hW=>?_,hK _ ?_⟩
        first
        |(go_at_call 45;exact Calls.more hW (OF.o W))
        |(go_at_call 44;exact Calls.more hW (RK.o W ((HM.o.trans HT.o).trans hW)))
        |((try go_simp);try rfl)
        clear hK K))
   refine wpQuiet_nil ?_
   intro w2 m2
   have T2:=hQQ (HT.o.trans m2)
   clear m2
   cases b with
   |true =>
    go_wp2_with fail
    exact⟨⟨p+1,by have:=HLT.o;omega,by go_num,by rw[HS.o];rfl,T2.o⟩,by have:=HLT.o;simp[intOf];omega⟩
   |false =>
    go_wp2_with fail
    exact⟨⟨p+1,by have:=HLT.o;omega,by go_num,by rw[HS.o];simp,T2.o⟩,by have:=HLT.o;simp[intOf];omega⟩
  ·have d0:decide ((p:Int)<c.pg)=false:=by simp[hlt]
   have hpe:p=c.pg.toNat:=by omega
   have FIN:=hQQ (HM.o.trans HT.o)
   have HE:Hq (dy c.pg c.st ws p=dy c.pg c.st ws c.pg.toNat):=hQQ (by rw[←hpe])
   clear hlt hpe cb
   go_wp2_with fail
   go_ret
   exact⟨by rw[←HE.o];rfl,FIN.o⟩
theorem uv {pg st:Int}{n m:Nat}(H:TblIn pg st n)(e:m=n):TblIn pg st m:=e▸H
theorem zu {c:Cfg}(R:c.Ok)(ws:List Int)(H:TblIn c.pg c.st ws.length)(hl:ws.length≤1000)(g cap:Nat)(x y:Int)(hx:W64 x)(w:World)(hw:Ws w g cap ws):
 Calls Tryz.prog 106 #[.agg c.cells,.slice (some ⟨g,0,none⟩) ws.length cap,.int .i64 x,.int .i64 y] w (oh w g cap (.int .i64 (ci c.pg c.st x y ws).1) (ci c.pg c.st x y ws).2):=by
 have HC:=hQQ (aI w c.cells 27)
 have HM:Hq (ac w (w.alloc (.cells c.cells 27))):=(ac.refl w).alloc _
 have p1:=R.pg1
 have p2:=R.pg2
 have RA:=hQQ (fun W=>DQ R x y hx W)
 have RCN:=hQQ (fun(a:List Int) (e:a.length=ws.length) (W:World) (hW:Ws W g cap a)=>by have:=Bq R a (uv H e) (by omega) g cap W hW;rw[e] at this;exact this)
 have RT:=hQQ (fun(a:List Int) (e:a.length=ws.length) (k:Int) (W:World) (hW:Ws W g cap a)=>by have:=CX R a (uv H e) (by omega) g cap k 1 W hW;rw[e] at this;exact this)
 have HW:=hQQ hw
 have HH:=hQQ H
 have hgl:=hw.lt
 clear R H hw
 cases h:aV c.pg x y with
 |false =>
  rw[show ci c.pg c.st x y ws=(0,ws) by unfold ci;rw[h];rfl]
  rw[h] at RA
  clear h hx
  go_enter Tryz.func106,Tryz.ntmps106
  go_wp2_with (refine aH rfl rfl rfl HC.o (by kernel_rfl) ?_)
  refine(RA.o _).mono ?_
  rintro e w1 ⟨rfl,h1⟩
  have HM1:=hQQ (HM.o.trans h1)
  clear h1
  go_wp2_with fail
  go_ret
  exact⟨rfl,HW.o.more HM1.o,turned_more HM1.o⟩
 |true =>
  have hth:=h
  obtain⟨i0,i1,i2⟩:=bx.1 h
  rw[h] at RA
  have q3:IntKind.i64.wrap (x+y)=x+y:=aj (by omega) (by omega)
  have cb0:=tW (st:=c.st) ws p1 p2
  have cb1:=tW (st:=c.st) (ci c.pg c.st x y ws).2 p1 p2
  have hcd:=pl HH.o x y ws rfl
  have HTH:=hQQ hth
  clear h hx hth
  go_enter Tryz.func106,Tryz.ntmps106
  go_wp2_with (refine aH rfl rfl rfl HC.o (by kernel_rfl) ?_)
  refine(RA.o _).mono ?_
  rintro e w1 ⟨rfl,h1⟩
  have HC1:=hQQ (h1.block HC.o)
  have HM1:=hQQ (HM.o.trans h1)
  clear h1
  go_wp2_with (refine aH rfl rfl rfl HC1.o (by kernel_rfl) ?_)
  refine(RCN.o ws rfl _ (HW.o.more HM1.o)).mono ?_
  rintro e w2 ⟨rfl,h2⟩
  have HC2:=hQQ (h2.block HC1.o)
  have HM2:=hQQ (HM1.o.trans h2)
  clear h2
  have HCD:=hQQ (And.intro cb0 (And.intro cb1 hcd))
  generalize dI c.pg c.st ws=z0 at HCD⊢
  clear cb0 cb1 hcd
  go_wp2_with fail
  go_loopw [10] (fun pv wr=>∃(p:Int) (a:List Int),x≤p∧p≤x+y∧pv=.int .i64 p∧Ws wr g cap a∧Hq (lB ws a (fun i=>∃q:Int,x≤q∧q<p∧i=ce c.pg c.st (q / 4)))∧Turned (fun b=>b=g) w2 wr) (fun pv _=>(x+y-intOf pv).toNat)
  case atStart=>exact⟨x,ws,by omega,by omega,rfl,HW.o.more HM2.o,hQQ (kI ws _ (fun i=>by rintro⟨q,h0,h1,_⟩;omega)),Turned.refl _ _⟩
  case round =>
   obtain⟨p,a,hp0,hp1,rfl,hws,hon,ht⟩:=hrel
   have hal:=hon.out.len
   have HC3:=hQQ ((ht.block w.heap.size (af HC2.o) (by omega)).trans HC2.o)
   have HT:=hQQ ht
   have HWS:=hQQ hws
   clear ht hws
   by_cases hlt:p<x+y
   ·have d0:decide (p<x+y)=true:=by simp[hlt]
    have hq:ofV p=p / 4:=uu (by omega)
    have q1:IntKind.i64.wrap (p+1)=p+1:=aj (by omega) (by omega)
    have OF:=hQQ (fun W=>by have:=kT p (by omega) (by omega) W;rw[hq] at this;exact this)
    have hck:aP c.pg (p / 4)=true:=bz.2 (by unfold aA;omega)
    have hn1:=nW HH.o hon.out rfl hck
    have HNX:Hq (lB ws (eC c.pg c.st (p / 4) 1 a).2 (fun i=>∃q:Int,x≤q∧q<p+1∧i=ce c.pg c.st (q / 4))):=⟨hn1.len,fun i h0=>by
     have e:(∃q:Int,x≤q∧q<p+1∧i=ce c.pg c.st (q / 4))↔((∃q:Int,x≤q∧q<p∧i=ce c.pg c.st (q / 4))∨i=ce c.pg c.st (p / 4)):=by
      constructor
      ·rintro⟨q,a0,a1,a2⟩
       by_cases e:q=p
       ·subst e;exact .inr a2
       ·exact .inl ⟨q,a0,by omega,a2⟩
      ·rintro(⟨q,a0,a1,a2⟩|a2)
       ·exact⟨q,a0,by omega,a2⟩
       ·exact⟨p,hp0,by omega,a2⟩
     exact⟨fun r=>(hn1.eq i h0).1 (e.1 r),fun r=>(hn1.eq i h0).2 (fun s=>r (e.2 s))⟩⟩
    have HB:=hQQ (And.intro hp0 (And.intro hp1 hlt))
    have TT:=hQQ (fun W (hW:ac wr W)=>RT.o a hal (p / 4) W (HWS.o.more hW))
    clear hq hck hn1 hlt hp0 hp1 hon hal i1 i2
    go_wp2_with fail
    refine aq 4 (by kernel_rfl) (by kernel_rfl) ?_
    simp only[List.take_succ_cons,List.take_zero,List.drop_succ_cons,List.drop_zero]
    iterate 4
     first
     |(refine ae rfl 27 _ rfl _ rfl 27 _ _ _ (fun W hW=>hW.block HC3.o) Tryz.underlying27 rfl (by kernel_rfl) ?_)
     |(with_reducible refine wpQuiet_step (fun K hK=>?_)
       go_simp
       first
       |(refine hK _ ?_;clear hK K)
       |(apply Exists.intro
         refine⟨fun W hW=>?_,hK _ ?_⟩
         first
         |(go_at_call 45;exact Calls.more hW (OF.o W))
         |((try go_simp);try rfl)
         clear hK K))
    refine wpQuiet_nil ?_
    intro w4 m4
    have T4:=hQQ (HT.o.trans (turned_more m4))
    have TW:=hQQ (TT.o w4 m4)
    clear m4
    go_wp2_with fail
    refine TW.o.mono ?_
    rintro e w5 ⟨rfl,hw5,ht5⟩
    have T5:=hQQ (T4.o.trans ht5)
    have W5:=hQQ hw5
    clear ht5 hw5
    go_wp2_with fail
    exact⟨⟨p+1,_,by have:=HB.o;omega,by have:=HB.o;omega,by go_num,W5.o,HNX,T5.o⟩,by have:=HB.o;simp[intOf];omega⟩
   ·have d0:decide (p<x+y)=false:=by simp[hlt]
    obtain rfl:p=x+y:=by omega
    have ha:a=(ci c.pg c.st x y ws).2:=sx HH.o rfl HTH.o hon.out
    have RC2:=hQQ (RCN.o a hal wr HWS.o)
    have HAE:=hQQ ha
    have hz:=HCD.o
    rw[←ha] at hz
    have q5:IntKind.i64.wrap (dI c.pg c.st a-z0)=(ci c.pg c.st x y ws).1:=by rw[aj (by omega) (by omega)];omega
    have FT:=hQQ ((turned_more (S:=fun b=>b=g) HM2.o).trans HT.o)
    clear hlt hp0 hp1 hon ha hz hal i1 i2
    generalize dI c.pg c.st a=z1 at q5 RC2
    have Q5:=hQQ q5
    go_wp2_with (refine aH rfl rfl rfl HC3.o (by kernel_rfl) ?_)
    refine RC2.o.mono ?_
    rintro e w6 ⟨rfl,h6⟩
    have FW:=hQQ (HWS.o.more h6)
    have FT6:=hQQ (FT.o.trans (turned_more h6))
    clear h6
    go_wp2_with fail
    go_ret
    exact⟨rfl,by rw[←HAE.o];exact FW.o,FT6.o⟩
theorem uw {c:Cfg}(R:c.Ok)(k:Int)(w:World):Calls Tryz.prog 84 #[.agg c.cells,.int .i64 k] w (aD w (.int .i64 (cm c.pg c.st 0 k))):=DA c.wk c.cp c.pg c.st c.tr c.wt c.ck c.pr c.ca c.bi c.ba w k R
theorem mM {c:Cfg}(R:c.Ok)(k:Int)(w:World):Calls Tryz.prog 48 #[.agg c.cells,.int .i64 k] w (aD w (.int .i64 (cm c.pg c.st 1 k))):=Cw c.wk c.cp c.pg c.st c.tr c.wt c.ck c.pr c.ca c.bi c.ba w k R
theorem pG {c:Cfg}(R:c.Ok)(k:Int)(w:World):Calls Tryz.prog 52 #[.agg c.cells,.int .i64 k] w (aD w (.int .i64 (cm c.pg c.st 2 k))):=DB c.wk c.cp c.pg c.st c.tr c.wt c.ck c.pr c.ca c.bi c.ba w k R
theorem Br {c:Cfg}(R:c.Ok)(ws:List Int)(H:PgIn c.pg c.st ws.length)(hl:ws.length≤1000)(g cap:Nat)(p:Int)(w:World)(hw:Ws w g cap ws):
 Calls Tryz.prog 43 #[.agg c.cells,.slice (some ⟨g,0,none⟩) ws.length cap,.int .i64 p] w (aD w (.int .i64 (aE c.pg c.st ws p))):=by
 by_cases hp:ah c.pg p=true
 ·obtain⟨⟨q0,q1,_⟩,_⟩:=cH H hp
  obtain⟨b,hb⟩:∃b:Nat,kA c.pg c.st p=(b:Int):=⟨(kA c.pg c.st p).toNat,by omega⟩
  have hbl:b<ws.length:=by omega
  have P:=hQQ ((tX (st:=c.st) hp).trans hb)
  have hv:aE c.pg c.st ws p=ws.getD b 0:=by rw[fO hp,hb];rfl
  rw[hv]
  obtain⟨z,hz⟩:∃z,ws.getD b 0=z:=⟨_,rfl⟩
  rw[hz]
  have hpp:=ai.1 hp
  have hc:=aI w c.cells 27
  have HR:=hQQ R
  have HH:=hQQ H
  have hgl:=hw.lt
  obtain⟨w1,e1⟩:∃w1,w.alloc (.cells c.cells 27)=w1:=⟨_,rfl⟩
  have m1:ac w w1:=by rw[←e1];exact(ac.refl w).alloc _
  rw[e1] at hc
  have HC:=hQQ hc
  have HM:=hQQ m1
  have HW:=hQQ (hw.more m1)
  have x2:w1.cell? ⟨w.heap.size,2,none⟩=some (.int .i64 c.pg):=aB hc (ac.refl _) rfl
  have X2:=hQQ x2
  have pg1:=R.pg1
  have pg2:=R.pg2
  clear x2 m1 hw R H hc
  have CZ:Hq (∀W,ac w1 W→W.cell? ⟨g,b,none⟩=some (.int .i64 z)):=hQQ fun W hW=>by rw[←hz];exact(HW.o.more hW).cell hbl
  have x2:=X2.o
  have d1:decide (p<0)=false:=by simp;omega
  have d2:decide (c.pg≤p)=false:=by simp;omega
  clear hv hz hb q0 q1 hp
  go_enter Tryz.func43,Tryz.ntmps43
  go_wp2_with (first|(refine aH rfl rfl rfl HC.o (by kernel_rfl) ?_)|(refine aH rfl rfl rfl HC.o (by kernel_rfl) ?_))
  clear e1
  refine(uw HR.o p _).mono ?_
  rw[P.o]
  rintro e w3 ⟨rfl,h3⟩
  have cz:=CZ.o _ h3
  have M3:=hQQ (HM.o.trans h3)
  clear h3
  go_wp2_with fail
  go_ret
  exact⟨rfl,M3.o⟩
 ·have hp:ah c.pg p=false:=by simpa using hp
  rw[dA hp]
  have hpp:=jE.1 hp
  have hc:=aI w c.cells 27
  have HR:=hQQ R
  have HH:=hQQ H
  have hgl:=hw.lt
  obtain⟨w1,e1⟩:∃w1,w.alloc (.cells c.cells 27)=w1:=⟨_,rfl⟩
  have m1:ac w w1:=by rw[←e1];exact(ac.refl w).alloc _
  rw[e1] at hc
  have HC:=hQQ hc
  have HM:=hQQ m1
  have HW:=hQQ (hw.more m1)
  have x2:w1.cell? ⟨w.heap.size,2,none⟩=some (.int .i64 c.pg):=aB hc (ac.refl _) rfl
  have X2:=hQQ x2
  have pg1:=R.pg1
  have pg2:=R.pg2
  clear x2 m1 hw R H hc
  have x2:=X2.o
  clear hp
  by_cases h0:p<0
  ·have d1:decide (p<0)=true:=by simpa using h0
   go_enter Tryz.func43,Tryz.ntmps43
   go_wp2_with fail
   go_ret
   exact⟨rfl,HM.o⟩
  ·have d1:decide (p<0)=false:=by simpa using h0
   have d2:decide (c.pg≤p)=true:=by simp;omega
   go_enter Tryz.func43,Tryz.ntmps43
   go_wp2_with fail
   go_ret
   exact⟨rfl,HM.o⟩
theorem CY {c:Cfg}(R:c.Ok)(ws:List Int)(H:PgIn c.pg c.st ws.length)(hl:ws.length≤1000)(g cap:Nat)(p k x:Int)(hp:ah c.pg p=true)(w:World)(hw:Ws w g cap ws):
 Calls Tryz.prog 107 #[.agg c.cells,.slice (some ⟨g,0,none⟩) ws.length cap,.int .i64 p,.int .i64 k,.int .i64 x] w (oh w g cap (.tuple #[]) (bO c.pg c.st p k x ws)):=by
 obtain⟨⟨q0,q1,_⟩,⟨q2,q3,_⟩,⟨q4,q5,_⟩⟩:=cH H hp
 obtain⟨b0,hb0⟩:∃b:Nat,kA c.pg c.st p=(b:Int):=⟨(kA c.pg c.st p).toNat,by omega⟩
 obtain⟨b1,hb1⟩:∃b:Nat,cA c.pg c.st p=(b:Int):=⟨(cA c.pg c.st p).toNat,by omega⟩
 obtain⟨b2,hb2⟩:∃b:Nat,bA c.pg c.st p=(b:Int):=⟨(bA c.pg c.st p).toNat,by omega⟩
 have l0:b0<ws.length:=by omega
 have l1:b1<ws.length:=by omega
 have l2:b2<ws.length:=by omega
 have P0:=hQQ ((tX (st:=c.st) hp).trans hb0)
 have P1:=hQQ ((tY (st:=c.st) hp).trans hb1)
 have P2:=hQQ ((tZ (st:=c.st) hp).trans hb2)
 have hv:bO c.pg c.st p k x ws=((ws.set b0 k).set b1 x).set b2 0:=by unfold bO;rw[hb0,hb1,hb2];rfl
 rw[hv]
 clear hv hb0 hb1 hb2 q0 q1 q2 q3 q4 q5 hp
 have hc:=aI w c.cells 27
 have HR:=hQQ R
 have HH:=hQQ H
 have hgl:=hw.lt
 obtain⟨w1,e1⟩:∃w1,w.alloc (.cells c.cells 27)=w1:=⟨_,rfl⟩
 have m1:ac w w1:=by rw[←e1];exact(ac.refl w).alloc _
 rw[e1] at hc
 have HC:=hQQ hc
 have HM:=hQQ m1
 have HW:=hQQ (hw.more m1)
 have x2:w1.cell? ⟨w.heap.size,2,none⟩=some (.int .i64 c.pg):=aB hc (ac.refl _) rfl
 have X2:=hQQ x2
 have pg1:=R.pg1
 have pg2:=R.pg2
 clear x2 m1 hw R H hc
 have T1:Hq (Turned (fun b=>b=g) w1 w1):=hQQ (Turned.refl _ _)
 have KC:Hq (∀W,Turned (fun b=>b=g) w1 W→W.heap[w.heap.size]?=some (.cells c.cells 27 (0,0))):=hQQ fun W t=>(t.block _ (af HC.o) (by omega)).trans HC.o
 go_enter Tryz.func107,Tryz.ntmps107
 go_wp2_with (first|(refine aH rfl rfl rfl HC.o (by kernel_rfl) ?_)|(refine aH rfl rfl rfl HC.o (by kernel_rfl) ?_))
 clear e1
 refine(uw HR.o p _).mono ?_
 rw[P0.o]
 rintro e wa ⟨rfl,ha⟩
 have Ta:Hq (Turned (fun b=>b=g) w1 wa):=hQQ (T1.o.trans (turned_more ha))
 have Xa:=hQQ (HW.o.more ha)
 clear ha
 have cb:=Xa.o.cell (i:=b0) l0
 have fb:=Xa.o.froz b0
 have lb:=Xa.o.lt
 obtain⟨wb,eb⟩:∃wb,World.setCell wa ⟨g,b0,none⟩ (.int .i64 k)=wb:=⟨_,rfl⟩
 have Xb:Hq (Ws wb g cap (ws.set b0 k)):=hQQ (by rw[←eb];exact Xa.o.set l0 _)
 have Tb:Hq (Turned (fun b=>b=g) w1 wb):=hQQ (by rw[←eb];exact Turned.setCell Ta.o _ _ (fun _=>rfl))
 have HLb:=hQQ (KC.o _ Tb.o)
 go_wp2_with (first|(refine aH rfl rfl rfl HLb.o (by kernel_rfl) ?_)|(refine aH rfl rfl rfl HLb.o (by kernel_rfl) ?_))
 clear cb fb lb eb
 refine(mM HR.o p _).mono ?_
 rw[P1.o]
 rintro e wc ⟨rfl,hc⟩
 have Tc:Hq (Turned (fun b=>b=g) w1 wc):=hQQ (Tb.o.trans (turned_more hc))
 have Xc:=hQQ (Xb.o.more hc)
 clear hc
 have cd:=Xc.o.cell (i:=b1) (by simp;omega)
 have fd:=Xc.o.froz b1
 have ld:=Xc.o.lt
 obtain⟨wd,ed⟩:∃wd,World.setCell wc ⟨g,b1,none⟩ (.int .i64 x)=wd:=⟨_,rfl⟩
 have Xd:Hq (Ws wd g cap ((ws.set b0 k).set b1 x)):=hQQ (by rw[←ed];exact Xc.o.set (by simp;omega) _)
 have Td:Hq (Turned (fun b=>b=g) w1 wd):=hQQ (by rw[←ed];exact Turned.setCell Tc.o _ _ (fun _=>rfl))
 have HLd:=hQQ (KC.o _ Td.o)
 go_wp2_with (first|(refine aH rfl rfl rfl HLd.o (by kernel_rfl) ?_)|(refine aH rfl rfl rfl HLd.o (by kernel_rfl) ?_))
 clear cd fd ld ed
 refine(pG HR.o p _).mono ?_
 rw[P2.o]
 rintro e wf ⟨rfl,hf⟩
 have Tf:Hq (Turned (fun b=>b=g) w1 wf):=hQQ (Td.o.trans (turned_more hf))
 have Xf:=hQQ (Xd.o.more hf)
 clear hf
 have ch:=Xf.o.cell (i:=b2) (by simp;omega)
 have fh:=Xf.o.froz b2
 have lh:=Xf.o.lt
 obtain⟨wh,eh⟩:∃wh,World.setCell wf ⟨g,b2,none⟩ (.int .i64 0)=wh:=⟨_,rfl⟩
 have Xh:Hq (Ws wh g cap (((ws.set b0 k).set b1 x).set b2 0)):=hQQ (by rw[←eh];exact Xf.o.set (by simp;omega) _)
 have Th:Hq (Turned (fun b=>b=g) w1 wh):=hQQ (by rw[←eh];exact Turned.setCell Tf.o _ _ (fun _=>rfl))
 go_wp2_with fail
 clear ch fh lh eh
 go_end0
 exact⟨rfl,Xh.o,(turned_more HM.o).trans Th.o⟩
theorem pH {c:Cfg}(R:c.Ok)(ws:List Int)(H:PgIn c.pg c.st ws.length)(hl:ws.length≤1000)(g cap:Nat)(p n:Int)(mp:Bool)(w:World)(hw:Ws w g cap ws):
 Calls Tryz.prog 105 #[.agg c.cells,.slice (some ⟨g,0,none⟩) ws.length cap,.int .i64 p,.int .i64 n,.bool mp] w (aD w (.bool (opV c.pg c.st ws p n mp))):=by
 cases ht:aV c.pg p n with
 |false =>
  rw[show opV c.pg c.st ws p n mp=false by unfold opV;rw[ht];rfl]
  have hh:¬(0≤p∧1≤n∧n≤c.pg-p):=fun q=>by rw[bx.2 q] at ht;cases ht
  clear ht
  have hc:=aI w c.cells 27
  have HR:=hQQ R
  have HH:=hQQ H
  have hgl:=hw.lt
  obtain⟨w1,e1⟩:∃w1,w.alloc (.cells c.cells 27)=w1:=⟨_,rfl⟩
  have m1:ac w w1:=by rw[←e1];exact(ac.refl w).alloc _
  rw[e1] at hc
  have HC:=hQQ hc
  have HM:=hQQ m1
  have HW:=hQQ (hw.more m1)
  have x2:w1.cell? ⟨w.heap.size,2,none⟩=some (.int .i64 c.pg):=aB hc (ac.refl _) rfl
  have X2:=hQQ x2
  have pg1:=R.pg1
  have pg2:=R.pg2
  clear x2 m1 hw R H hc
  have x2:=X2.o
  by_cases h0:p<0
  ·have d1:decide (p<0)=true:=by simpa using h0
   clear hh h0
   go_enter Tryz.func105,Tryz.ntmps105
   go_wp2_with fail
   go_ret
   exact⟨rfl,HM.o⟩
  ·have d1:decide (p<0)=false:=by simp;omega
   by_cases h1:c.pg≤p
   ·have d2:decide (c.pg≤p)=true:=by simpa using h1
    clear hh h0 h1
    go_enter Tryz.func105,Tryz.ntmps105
    go_wp2_with fail
    go_ret
    exact⟨rfl,HM.o⟩
   ·have d2:decide (c.pg≤p)=false:=by simp;omega
    by_cases h2:n<1
    ·have d3:decide (n<1)=true:=by simpa using h2
     clear hh h0 h1 h2
     go_enter Tryz.func105,Tryz.ntmps105
     go_wp2_with fail
     go_ret
     exact⟨rfl,HM.o⟩
    ·have d3:decide (n<1)=false:=by simp;omega
     have d4:decide (c.pg-p<n)=true:=by simp;omega
     have q4:IntKind.i64.wrap (c.pg-p)=c.pg-p:=aj (by omega) (by omega)
     clear hh h0 h1 h2
     go_enter Tryz.func105,Tryz.ntmps105
     go_wp2_with fail
     go_ret
     exact⟨rfl,HM.o⟩
 |true =>
  obtain⟨t0,t1,t2⟩:=bx.1 ht
  obtain⟨res,hres⟩:∃res,opN c.pg c.st ws mp n.toNat p=res:=⟨_,rfl⟩
  rw[show opV c.pg c.st ws p n mp=res by unfold opV;rw[ht,hres];rfl]
  have HRES:=hQQ hres
  clear ht hres
  have hc:=aI w c.cells 27
  have HR:=hQQ R
  have HH:=hQQ H
  have hgl:=hw.lt
  obtain⟨w1,e1⟩:∃w1,w.alloc (.cells c.cells 27)=w1:=⟨_,rfl⟩
  have m1:ac w w1:=by rw[←e1];exact(ac.refl w).alloc _
  rw[e1] at hc
  have HC:=hQQ hc
  have HM:=hQQ m1
  have HW:=hQQ (hw.more m1)
  have x2:w1.cell? ⟨w.heap.size,2,none⟩=some (.int .i64 c.pg):=aB hc (ac.refl _) rfl
  have X2:=hQQ x2
  have pg1:=R.pg1
  have pg2:=R.pg2
  clear x2 m1 hw R H hc
  have x2:=X2.o
  have d1:decide (p<0)=false:=by simp;omega
  have d2:decide (c.pg≤p)=false:=by simp;omega
  have d3:decide (n<1)=false:=by simp;omega
  have d4:decide (c.pg-p<n)=false:=by simp;omega
  have q4:IntKind.i64.wrap (c.pg-p)=c.pg-p:=aj (by omega) (by omega)
  have q5:IntKind.i64.wrap (p+n)=p+n:=aj (by omega) (by omega)
  go_enter Tryz.func105,Tryz.ntmps105
  go_wp2_with fail
  clear e1 x2 d1 d2 d3 d4 q4
  go_loopw [11] (fun v11 wr=>∃j:Nat,v11=.int .i64 (p+(j:Int))∧(j:Int)≤n∧ac w1 wr∧opN c.pg c.st ws mp (n.toNat-j) (p+(j:Int))=res) (fun v11 _=>(p+n-intOf v11).toNat)
  case atStart=>exact⟨0,by simp,by omega,ac.refl _,by simpa using HRES.o⟩
  case round =>
   clear HRES
   obtain⟨j,rfl,hj,htw,hrest⟩:=hrel
   have HT:=hQQ htw
   have HC1:=hQQ (htw.block HC.o)
   have HW1:=hQQ (HW.o.more htw)
   clear htw
   obtain⟨i,hi⟩:∃i:Int,p+(j:Int)=i:=⟨_,rfl⟩
   rw[hi]
   have hi1:i=p+(j:Int):=hi.symm
   by_cases hlt:i<p+n
   ·have d1:decide (i<p+n)=true:=by simpa using hlt
    rw[show n.toNat-j=(n.toNat-(j+1))+1 by omega,hi] at hrest
    have REST:=hQQ (show((decide (aE c.pg c.st ws i=0) && (!mp ||aF c.pg c.st ws (ofV i))) && opN c.pg c.st ws mp (n.toNat-(j+1)) (i+1))=res from hrest)
    have q6:IntKind.i64.wrap (i+1)=i+1:=aj (by omega) (by omega)
    have OF:=hQQ (fun W=>kT i (by omega) (by omega) W)
    have KD:=hQQ (fun W (hW:ac wr W)=>Br HR.o ws HH.o hl g cap i W (HW1.o.more hW))
    have MD:=hQQ (fun W (hW:ac wr W)=>mL HR.o ws HH.o.toTblIn hl g cap (ofV i) W (HW1.o.more hW))
    have HI:=hQQ hi1
    clear hrest hi hi1
    by_cases hk:aE c.pg c.st ws i=0
    ·have dk:(aE c.pg c.st ws i != 0)=false:=by simp[hk]
     cases mp with
     |false =>
      have R3:=hQQ (show opN c.pg c.st ws false (n.toNat-(j+1)) (i+1)=res from by have h:=REST.o;simpa [hk] using h)
      clear hk REST
      go_wp2_with fail
      refine au (by kernel_rfl) (by kernel_rfl) ?_
      refine ae rfl 27 _ rfl _ rfl 27 _ _ _ (fun W hW=>hW.block HC1.o) Tryz.underlying27 rfl (by kernel_rfl) ?_
      iterate 7
       with_reducible refine wpQuiet_step (fun K hK=>?_)
       go_simp
       first
       |(refine hK _ ?_;clear hK K)
       |(apply Exists.intro
         refine⟨fun W hW=>?_,hK _ ?_⟩
         first
         |(go_at_call 43;exact Calls.more hW (KD.o W hW))
         |(go_simp;try rfl)
         clear hK K)
      iterate 8
       with_reducible refine wpQuiet_step (fun K hK=>?_)
       go_simp
       first
       |(refine hK _ ?_;clear hK K)
       |(apply Exists.intro
         refine⟨fun W hW=>?_,hK _ ?_⟩
         first
         |(go_simp;try rfl)
         clear hK K)
      refine wpQuiet_nil ?_
      intro w4 m4
      have M4:=hQQ (HT.o.trans m4)
      clear m4
      go_wp2_with fail
      go_roundw
      case rel=>exact⟨j+1,by rw[HI.o];go_num,by have:=HI.o;omega,M4.o,by have:=HI.o;rw[show p+((j+1:Nat):Int)=i+1 by omega];exact R3.o⟩
      case measure=>simp[intOf];omega
     |true =>
      cases hm:aF c.pg c.st ws (ofV i) with
      |true =>
       rw[hm] at MD
       have R3:=hQQ (show opN c.pg c.st ws true (n.toNat-(j+1)) (i+1)=res from by have h:=REST.o;simpa [hk,hm] using h)
       clear hk hm REST
       go_wp2_with fail
       refine au (by kernel_rfl) (by kernel_rfl) ?_
       refine ae rfl 27 _ rfl _ rfl 27 _ _ _ (fun W hW=>hW.block HC1.o) Tryz.underlying27 rfl (by kernel_rfl) ?_
       iterate 7
        with_reducible refine wpQuiet_step (fun K hK=>?_)
        go_simp
        first
        |(refine hK _ ?_;clear hK K)
        |(apply Exists.intro
          refine⟨fun W hW=>?_,hK _ ?_⟩
          first
          |(go_at_call 43;exact Calls.more hW (KD.o W hW))
          |(go_simp;try rfl)
          clear hK K)
       refine ae rfl 27 _ rfl _ rfl 27 _ _ _ (fun W hW=>hW.block HC1.o) Tryz.underlying27 rfl (by kernel_rfl) ?_
       iterate 7
        with_reducible refine wpQuiet_step (fun K hK=>?_)
        go_simp
        first
        |(refine hK _ ?_;clear hK K)
        |(apply Exists.intro
          refine⟨fun W hW=>?_,hK _ ?_⟩
          first
          |(go_at_call 45;exact Calls.more hW (OF.o W))
          |(go_at_call 44;exact Calls.more hW (MD.o W hW))
          |(go_simp;try rfl)
          clear hK K)
       refine wpQuiet_nil ?_
       intro w4 m4
       have M4:=hQQ (HT.o.trans m4)
       clear m4
       go_wp2_with fail
       go_roundw
       case rel=>exact⟨j+1,by rw[HI.o];go_num,by have:=HI.o;omega,M4.o,by have:=HI.o;rw[show p+((j+1:Nat):Int)=i+1 by omega];exact R3.o⟩
       case measure=>simp[intOf];omega
      |false =>
       rw[hm] at MD
       have HF:=hQQ (show false=res from by have h:=REST.o;simpa [hk,hm] using h)
       clear hk hm REST
       go_wp2_with fail
       refine au (by kernel_rfl) (by kernel_rfl) ?_
       refine ae rfl 27 _ rfl _ rfl 27 _ _ _ (fun W hW=>hW.block HC1.o) Tryz.underlying27 rfl (by kernel_rfl) ?_
       iterate 7
        with_reducible refine wpQuiet_step (fun K hK=>?_)
        go_simp
        first
        |(refine hK _ ?_;clear hK K)
        |(apply Exists.intro
          refine⟨fun W hW=>?_,hK _ ?_⟩
          first
          |(go_at_call 43;exact Calls.more hW (KD.o W hW))
          |(go_simp;try rfl)
          clear hK K)
       refine ae rfl 27 _ rfl _ rfl 27 _ _ _ (fun W hW=>hW.block HC1.o) Tryz.underlying27 rfl (by kernel_rfl) ?_
       iterate 7
        with_reducible refine wpQuiet_step (fun K hK=>?_)
        go_simp
        first
        |(refine hK _ ?_;clear hK K)
        |(apply Exists.intro
          refine⟨fun W hW=>?_,hK _ ?_⟩
          first
          |(go_at_call 45;exact Calls.more hW (OF.o W))
          |(go_at_call 44;exact Calls.more hW (MD.o W hW))
          |(go_simp;try rfl)
          clear hK K)
       refine wpQuiet_nil ?_
       intro w4 m4
       have M4:=hQQ (HT.o.trans m4)
       clear m4
       go_wp2_with fail
       go_ret
       exact⟨by have h:=HF.o;subst h;rfl,HM.o.trans M4.o⟩
    ·have dk:(aE c.pg c.st ws i != 0)=true:=by simpa using hk
     have HF:=hQQ (show false=res from by have h:=REST.o;simpa [hk] using h)
     clear hk REST
     go_wp2_with fail
     refine au (by kernel_rfl) (by kernel_rfl) ?_
     refine ae rfl 27 _ rfl _ rfl 27 _ _ _ (fun W hW=>hW.block HC1.o) Tryz.underlying27 rfl (by kernel_rfl) ?_
     iterate 7
      with_reducible refine wpQuiet_step (fun K hK=>?_)
      go_simp
      first
      |(refine hK _ ?_;clear hK K)
      |(apply Exists.intro
        refine⟨fun W hW=>?_,hK _ ?_⟩
        first
        |(go_at_call 43;exact Calls.more hW (KD.o W hW))
        |(go_simp;try rfl)
        clear hK K)
     iterate 8
      with_reducible refine wpQuiet_step (fun K hK=>?_)
      go_simp
      first
      |(refine hK _ ?_;clear hK K)
      |(apply Exists.intro
        refine⟨fun W hW=>?_,hK _ ?_⟩
        first
        |(go_simp;try rfl)
        clear hK K)
     refine wpQuiet_nil ?_
     intro w4 m4
     have M4:=hQQ (HT.o.trans m4)
     clear m4
     go_wp2_with fail
     go_ret
     exact⟨by have h:=HF.o;subst h;rfl,HM.o.trans M4.o⟩
   ·have d1:decide (i<p+n)=false:=by simpa using hlt
    rw[show n.toNat-j=0 by omega] at hrest
    have he:true=res:=hrest
    subst he
    have FIN:=hQQ (HM.o.trans HT.o)
    clear hrest hi hi1
    go_wp2_with fail
    go_ret
    exact⟨rfl,FIN.o⟩
section
variable {c:Cfg}{ws:List Int}{n step res:Int}
theorem Eg (n1:1≤n)(s1:1≤step)(hpg:0≤c.pg){p:Int}(p0:0≤p)(pm:p % step=0)(ho:opV c.pg c.st ws p n true=true)(hb:∀q,0≤q→q<p→q % step=0→opV c.pg c.st ws q n true=false)(hres:(if bQ (dr c.pg c.st ws) c.pg n step= -1 then bQ (eD c.pg c.st ws) c.pg n step else bQ (dr c.pg c.st ws) c.pg n step)=res):p=res:=by
 have h:bQ (dr c.pg c.st ws) c.pg n step=p:=mA n1 s1 hpg p0 pm true ho hb
 rw[h,if_neg (by omega)] at hres
 exact hres
theorem FIN2 (n1:1≤n)(s1:1≤step)(hpg:0≤c.pg)(hn:∀q,0≤q→q<c.pg→q % step=0→opV c.pg c.st ws q n true=false){p:Int}(p0:0≤p)(pm:p % step=0)(ho:opV c.pg c.st ws p n false=true)(hb:∀q,0≤q→q<p→q % step=0→opV c.pg c.st ws q n false=false)(hres:(if bQ (dr c.pg c.st ws) c.pg n step= -1 then bQ (eD c.pg c.st ws) c.pg n step else bQ (dr c.pg c.st ws) c.pg n step)=res):p=res:=by
 have h0:bQ (dr c.pg c.st ws) c.pg n step= -1:=kM n1 s1 hpg true hn
 have h:bQ (eD c.pg c.st ws) c.pg n step=p:=mA n1 s1 hpg p0 pm false ho hb
 rw[h0,if_pos rfl,h] at hres
 exact hres
theorem Eh (n1:1≤n)(s1:1≤step)(hpg:0≤c.pg)(hn:∀q,0≤q→q<c.pg→q % step=0→opV c.pg c.st ws q n true=false)(hb:∀q,0≤q→q<c.pg→q % step=0→opV c.pg c.st ws q n false=false)(hres:(if bQ (dr c.pg c.st ws) c.pg n step= -1 then bQ (eD c.pg c.st ws) c.pg n step else bQ (dr c.pg c.st ws) c.pg n step)=res): -1=res:=by
 have h0:bQ (dr c.pg c.st ws) c.pg n step= -1:=kM n1 s1 hpg true hn
 have h:bQ (eD c.pg c.st ws) c.pg n step= -1:=kM n1 s1 hpg false hb
 rw[h0,if_pos rfl,h] at hres
 exact hres
end
theorem ux {c:Cfg}(R:c.Ok)(ws:List Int)(H:PgIn c.pg c.st ws.length)(hl:ws.length≤1000)(g cap:Nat)(n step:Int)(w:World)(hw:Ws w g cap ws):
 Calls Tryz.prog 60 #[.agg c.cells,.slice (some ⟨g,0,none⟩) ws.length cap,.int .i64 n,.int .i64 step] w (aD w (.int .i64 (dm c.pg c.st n step ws))):=by
 by_cases hn:1≤n∧1≤step
 ·obtain⟨n1,s1⟩:=hn
  obtain⟨res,hres⟩:∃res,(if bQ (dr c.pg c.st ws) c.pg n step= -1 then bQ (eD c.pg c.st ws) c.pg n step else bQ (dr c.pg c.st ws) c.pg n step)=res:=⟨_,rfl⟩
  rw[show dm c.pg c.st n step ws=res by unfold dm;rw[if_pos ⟨n1,s1⟩,hres]]
  have HRES:=hQQ hres
  clear hres
  have hc:=aI w c.cells 27
  have HR:=hQQ R
  have HH:=hQQ H
  have hgl:=hw.lt
  obtain⟨w1,e1⟩:∃w1,w.alloc (.cells c.cells 27)=w1:=⟨_,rfl⟩
  have m1:ac w w1:=by rw[←e1];exact(ac.refl w).alloc _
  rw[e1] at hc
  have HC:=hQQ hc
  have HM:=hQQ m1
  have HW:=hQQ (hw.more m1)
  have x2:w1.cell? ⟨w.heap.size,2,none⟩=some (.int .i64 c.pg):=aB hc (ac.refl _) rfl
  have X2:=hQQ x2
  have pg1:=R.pg1
  have pg2:=R.pg2
  clear x2 m1 hw R H hc
  have d2:decide (n<1)=false:=by simp;omega
  have d3:decide (step<1)=false:=by simp;omega
  have nz:(step==0)=false:=by simp;omega
  have nz1:(step== -1)=false:=by simp;omega
  go_enter Tryz.func60,Tryz.ntmps60
  go_wp2_with fail
  clear e1 d2 d3
  go_loopw [9] (fun v wr=>∃j:Nat,v=.int .i64 (j:Int)∧(j:Int)≤c.pg∧ac w1 wr∧∀q,0≤q→q<(j:Int)→q % step=0→opV c.pg c.st ws q n true=false) (fun v _=>c.pg.toNat-(intOf v).toNat)
  case atStart=>exact⟨0,rfl,by omega,(ac.refl _),fun q h0 h1=>by omega⟩
  case round =>
   obtain⟨j,rfl,hj,htw,hno⟩:=hrel
   have HT:=hQQ htw
   have HC1:=hQQ (htw.block HC.o)
   have X21:=hQQ (htw.cell X2.o)
   have HW1:=hQQ (HW.o.more htw)
   have q6:IntKind.i64.wrap ((j:Int)+1)=(j:Int)+1:=aj (by omega) (by omega)
   have HNO:=hQQ hno
   clear htw hno
   by_cases hlt:(j:Int)<c.pg
   ·have d1:decide ((j:Int)<c.pg)=true:=by simpa using hlt
    by_cases z:(j:Int).tmod step=0
    ·have dz:((j:Int).tmod step==0)=true:=by simp[z]
     have z3:(j:Int) % step=0:=by rwa [Int.tmod_eq_emod_of_nonneg (by omega)] at z
     have Z3:=hQQ z3
     clear z dz
     go_wp2_with (first|(first|(refine aH rfl rfl rfl HC1.o (by kernel_rfl) ?_)|(refine aH rfl rfl rfl HC1.o (by kernel_rfl) ?_))|(refine cJ rfl 3 _ rfl w.heap.size _ rfl .i64 Tryz.underlying3 _ X21.o ?_))
     refine(pH HR.o ws HH.o hl g cap (j:Int) n true wr HW1.o).mono ?_
     cases ho:opV c.pg c.st ws (j:Int) n true with
     |true =>
      rintro e w3 ⟨rfl,h3⟩
      have M3:=hQQ (HM.o.trans (HT.o.trans h3))
      have hfin:=Eg n1 s1 (by omega) (by omega) Z3.o ho HNO.o HRES.o
      have HF:=hQQ hfin
      clear h3 ho hfin
      go_wp2_with fail
      go_ret
      exact⟨by have h:=HF.o;subst h;rfl,M3.o⟩
     |false =>
      rintro e w3 ⟨rfl,h3⟩
      have M3:=hQQ (HT.o.trans h3)
      have NO:=hQQ (show ∀q,0≤q→q<((j+1:Nat):Int)→q % step=0→opV c.pg c.st ws q n true=false from fun q h0 h1 hq=>by
       by_cases e:q=(j:Int)
       ·rw[e];exact ho
       ·exact HNO.o q h0 (by omega) hq)
      clear h3 ho
      go_wp2_with fail
      go_roundw
      case rel=>exact⟨j+1,by go_num,by omega,M3.o,NO.o⟩
      case measure=>simp[intOf];omega
    ·have dz:((j:Int).tmod step==0)=false:=by simp[z]
     have z3:¬(j:Int) % step=0:=by rwa [Int.tmod_eq_emod_of_nonneg (by omega)] at z
     have NO:=hQQ (show ∀q,0≤q→q<((j+1:Nat):Int)→q % step=0→opV c.pg c.st ws q n true=false from fun q h0 h1 hq=>by
      by_cases e:q=(j:Int)
      ·rw[e] at hq;exact absurd hq z3
      ·exact HNO.o q h0 (by omega) hq)
     have dz1:((j:Int) % step==0)=false:=by simpa using z3
     have dz2:decide ((j:Int) % step=0)=false:=by simpa using z3
     clear z dz
     go_wp2_with (refine cJ rfl 3 _ rfl w.heap.size _ rfl .i64 Tryz.underlying3 _ X21.o ?_)
     go_roundw
     case rel=>exact⟨j+1,by go_num,by omega,HT.o,NO.o⟩
     case measure=>simp[intOf];omega
   ·have d1:decide ((j:Int)<c.pg)=false:=by simpa using hlt
    have NO:=hQQ (show ∀q,0≤q→q<c.pg→q % step=0→opV c.pg c.st ws q n true=false from fun q h0 h1 hq=>HNO.o q h0 (by omega) hq)
    have TT:=hQQ HT.o
    clear hlt
    skip
    clear HNO HT HC1 HW1 q6
    have NO1:=NO
    go_wp2_with (refine cJ rfl 3 _ rfl w.heap.size _ rfl .i64 Tryz.underlying3 _ X21.o ?_)
    clear d1 NO X21
    go_loopw [10] (fun v wr=>∃j:Nat,v=.int .i64 (j:Int)∧(j:Int)≤c.pg∧ac w1 wr∧∀q,0≤q→q<(j:Int)→q % step=0→opV c.pg c.st ws q n false=false) (fun v _=>c.pg.toNat-(intOf v).toNat)
    case atStart=>exact⟨0,rfl,by omega,TT.o,fun q h0 h1=>by omega⟩
    case round =>
     obtain⟨j,rfl,hj,htw,hno⟩:=hrel
     have HT:=hQQ htw
     have HC1:=hQQ (htw.block HC.o)
     have X21:=hQQ (htw.cell X2.o)
     have HW1:=hQQ (HW.o.more htw)
     have q6:IntKind.i64.wrap ((j:Int)+1)=(j:Int)+1:=aj (by omega) (by omega)
     have HNO:=hQQ hno
     clear htw hno
     by_cases hlt:(j:Int)<c.pg
     ·have d1:decide ((j:Int)<c.pg)=true:=by simpa using hlt
      by_cases z:(j:Int).tmod step=0
      ·have dz:((j:Int).tmod step==0)=true:=by simp[z]
       have z3:(j:Int) % step=0:=by rwa [Int.tmod_eq_emod_of_nonneg (by omega)] at z
       have Z3:=hQQ z3
       clear z dz
       go_wp2_with (first|(first|(refine aH rfl rfl rfl HC1.o (by kernel_rfl) ?_)|(refine aH rfl rfl rfl HC1.o (by kernel_rfl) ?_))|(refine cJ rfl 3 _ rfl w.heap.size _ rfl .i64 Tryz.underlying3 _ X21.o ?_))
       refine(pH HR.o ws HH.o hl g cap (j:Int) n false wr HW1.o).mono ?_
       cases ho:opV c.pg c.st ws (j:Int) n false with
       |true =>
        rintro e w3 ⟨rfl,h3⟩
        have M3:=hQQ (HM.o.trans (HT.o.trans h3))
        have hfin:=FIN2 n1 s1 (by omega) NO1.out (by omega) Z3.o ho HNO.o HRES.o
        have HF:=hQQ hfin
        clear h3 ho hfin
        go_wp2_with fail
        go_ret
        exact⟨by have h:=HF.o;subst h;rfl,M3.o⟩
       |false =>
        rintro e w3 ⟨rfl,h3⟩
        have M3:=hQQ (HT.o.trans h3)
        have NO:=hQQ (show ∀q,0≤q→q<((j+1:Nat):Int)→q % step=0→opV c.pg c.st ws q n false=false from fun q h0 h1 hq=>by
         by_cases e:q=(j:Int)
         ·rw[e];exact ho
         ·exact HNO.o q h0 (by omega) hq)
        clear h3 ho
        go_wp2_with fail
        go_roundw
        case rel=>exact⟨j+1,by go_num,by omega,M3.o,NO.o⟩
        case measure=>simp[intOf];omega
      ·have dz:((j:Int).tmod step==0)=false:=by simp[z]
       have z3:¬(j:Int) % step=0:=by rwa [Int.tmod_eq_emod_of_nonneg (by omega)] at z
       have NO:=hQQ (show ∀q,0≤q→q<((j+1:Nat):Int)→q % step=0→opV c.pg c.st ws q n false=false from fun q h0 h1 hq=>by
        by_cases e:q=(j:Int)
        ·rw[e] at hq;exact absurd hq z3
        ·exact HNO.o q h0 (by omega) hq)
       have dz1:((j:Int) % step==0)=false:=by simpa using z3
       have dz2:decide ((j:Int) % step=0)=false:=by simpa using z3
       clear z dz
       go_wp2_with (refine cJ rfl 3 _ rfl w.heap.size _ rfl .i64 Tryz.underlying3 _ X21.o ?_)
       go_roundw
       case rel=>exact⟨j+1,by go_num,by omega,HT.o,NO.o⟩
       case measure=>simp[intOf];omega
     ·have d1:decide ((j:Int)<c.pg)=false:=by simpa using hlt
      have NO:=hQQ (show ∀q,0≤q→q<c.pg→q % step=0→opV c.pg c.st ws q n false=false from fun q h0 h1 hq=>HNO.o q h0 (by omega) hq)
      have TT:=hQQ HT.o
      clear hlt
      skip
      have HF:=hQQ (Eh n1 s1 (by omega) NO1.out NO.o HRES.o)
      go_wp2_with (refine cJ rfl 3 _ rfl w.heap.size _ rfl .i64 Tryz.underlying3 _ X21.o ?_)
      go_ret
      exact⟨by have h:=HF.o;subst h;rfl,HM.o.trans TT.o⟩
 ·have d:n<1∨step<1:=by omega
  rw[show dm c.pg c.st n step ws= -1 by unfold dm;rw[if_neg hn]]
  clear hn
  have hc:=aI w c.cells 27
  have HR:=hQQ R
  have HH:=hQQ H
  have hgl:=hw.lt
  obtain⟨w1,e1⟩:∃w1,w.alloc (.cells c.cells 27)=w1:=⟨_,rfl⟩
  have m1:ac w w1:=by rw[←e1];exact(ac.refl w).alloc _
  rw[e1] at hc
  have HC:=hQQ hc
  have HM:=hQQ m1
  have HW:=hQQ (hw.more m1)
  have x2:w1.cell? ⟨w.heap.size,2,none⟩=some (.int .i64 c.pg):=aB hc (ac.refl _) rfl
  have X2:=hQQ x2
  have pg1:=R.pg1
  have pg2:=R.pg2
  clear x2 m1 hw R H hc
  by_cases h0:n<1
  ·have d2:decide (n<1)=true:=by simpa using h0
   go_enter Tryz.func60,Tryz.ntmps60
   go_wp2_with fail
   go_ret
   exact⟨rfl,HM.o⟩
  ·have d2:decide (n<1)=false:=by simpa using h0
   have d3:decide (step<1)=true:=by simp;omega
   go_enter Tryz.func60,Tryz.ntmps60
   go_wp2_with fail
   go_ret
   exact⟨rfl,HM.o⟩
theorem uy {c:Cfg}(R:c.Ok)(ws:List Int)(H:PgIn c.pg c.st ws.length)(hl:ws.length≤1000)(g cap:Nat)(p n k:Int)(hp64:W64 p)(w:World)(hw:Ws w g cap ws):
 Calls Tryz.prog 61 #[.agg c.cells,.slice (some ⟨g,0,none⟩) ws.length cap,.int .i64 p,.int .i64 n,.int .i64 k] w (oh w g cap (.bool (dF c.pg c.st p n k ws).1) (dF c.pg c.st p n k ws).2):=by
 have OP:=hQQ (fun W hW=>by have:=pH R ws H hl g cap p n false W hW;rw[Bd] at this;exact this)
 cases hv:jh c.pg c.st p n ws with
 |false =>
  rw[show dF c.pg c.st p n k ws=(false,ws) by unfold dF;rw[hv,Bool.and_false];rfl]
  rw[hv] at OP
  clear hv
  have hc:=aI w c.cells 27
  have HR:=hQQ R
  have HH:=hQQ H
  have hgl:=hw.lt
  obtain⟨w1,e1⟩:∃w1,w.alloc (.cells c.cells 27)=w1:=⟨_,rfl⟩
  have m1:ac w w1:=by rw[←e1];exact(ac.refl w).alloc _
  rw[e1] at hc
  have HC:=hQQ hc
  have HM:=hQQ m1
  have HW:=hQQ (hw.more m1)
  have x2:w1.cell? ⟨w.heap.size,2,none⟩=some (.int .i64 c.pg):=aB hc (ac.refl _) rfl
  have X2:=hQQ x2
  have pg1:=R.pg1
  have pg2:=R.pg2
  clear x2 m1 hw R H hc
  go_enter Tryz.func61,Tryz.ntmps61
  go_wp2_with (first|(refine aH rfl rfl rfl HC.o (by kernel_rfl) ?_)|(refine aH rfl rfl rfl HC.o (by kernel_rfl) ?_))
  clear e1
  refine(OP.o _ HW.o).mono ?_
  rintro e w3 ⟨rfl,h3⟩
  have M3:=hQQ h3
  clear h3
  go_wp2_with fail
  go_ret
  exact⟨rfl,HW.o.more M3.o,turned_more (HM.o.trans M3.o)⟩
 |true =>
  have HV:=hQQ hv
  rw[hv] at OP
  cases hf:qI k n with
  |false =>
   rw[show dF c.pg c.st p n k ws=(false,ws) by unfold dF;rw[hf,Bool.false_and];rfl]
   have hf2:¬(k=6∨(1≤k∧k≤5∧n=1)):=fun q=>by rw[pn.2 q] at hf;cases hf
   clear hv hf
   have hc:=aI w c.cells 27
   have HR:=hQQ R
   have HH:=hQQ H
   have hgl:=hw.lt
   obtain⟨w1,e1⟩:∃w1,w.alloc (.cells c.cells 27)=w1:=⟨_,rfl⟩
   have m1:ac w w1:=by rw[←e1];exact(ac.refl w).alloc _
   rw[e1] at hc
   have HC:=hQQ hc
   have HM:=hQQ m1
   have HW:=hQQ (hw.more m1)
   have x2:w1.cell? ⟨w.heap.size,2,none⟩=some (.int .i64 c.pg):=aB hc (ac.refl _) rfl
   have X2:=hQQ x2
   have pg1:=R.pg1
   have pg2:=R.pg2
   clear x2 m1 hw R H hc
   by_cases k1:k<1
   ·have d1:decide (k<1)=true:=by simpa using k1
    clear k1 hf2
    go_enter Tryz.func61,Tryz.ntmps61
    go_wp2_with (first|(refine aH rfl rfl rfl HC.o (by kernel_rfl) ?_)|(refine aH rfl rfl rfl HC.o (by kernel_rfl) ?_))
    clear e1
    refine(OP.o _ HW.o).mono ?_
    rintro e w3 ⟨rfl,h3⟩
    have M3:=hQQ h3
    clear h3
    go_wp2_with fail
    go_ret
    exact⟨rfl,HW.o.more M3.o,turned_more (HM.o.trans M3.o)⟩
   ·have d1:decide (k<1)=false:=by simp;omega
    by_cases k6:6<k
    ·have d2:decide (6<k)=true:=by simpa using k6
     clear k1 k6 hf2
     go_enter Tryz.func61,Tryz.ntmps61
     go_wp2_with (first|(refine aH rfl rfl rfl HC.o (by kernel_rfl) ?_)|(refine aH rfl rfl rfl HC.o (by kernel_rfl) ?_))
     clear e1
     refine(OP.o _ HW.o).mono ?_
     rintro e w3 ⟨rfl,h3⟩
     have M3:=hQQ h3
     clear h3
     go_wp2_with fail
     go_ret
     exact⟨rfl,HW.o.more M3.o,turned_more (HM.o.trans M3.o)⟩
    ·have d2:decide (6<k)=false:=by simp;omega
     have d3:decide (k<6)=true:=by simp;omega
     have d4:(n != 1)=true:=by simp;omega
     clear k1 k6 hf2
     go_enter Tryz.func61,Tryz.ntmps61
     go_wp2_with (first|(refine aH rfl rfl rfl HC.o (by kernel_rfl) ?_)|(refine aH rfl rfl rfl HC.o (by kernel_rfl) ?_))
     clear e1
     refine(OP.o _ HW.o).mono ?_
     rintro e w3 ⟨rfl,h3⟩
     have M3:=hQQ h3
     clear h3
     go_wp2_with fail
     go_ret
     exact⟨rfl,HW.o.more M3.o,turned_more (HM.o.trans M3.o)⟩
  |true =>
   have hf2:=pn.1 hf
   have hth:=(gg.1 hv).1
   obtain⟨t0,t1,t2⟩:=bx.1 hth
   obtain⟨a0,ha0⟩:∃a0,(ci c.pg c.st p n ws).2=a0:=⟨_,rfl⟩
   have al:a0.length=ws.length:=by rw[←ha0];exact(uj H hth rfl).len
   have TK:Hq (dF c.pg c.st p n k ws=(true,bO c.pg c.st p k (if k=6 then n else 0) (cQ c.pg c.st 7 n.toNat p a0))):=hQQ (by
    unfold dF
    rw[hf,hv,vL H al hth,ha0]
    rfl)
   have ST:=hQQ (fun(a:List Int) (e:a.length=ws.length) (q:Int) (hq:ah c.pg q=true) (k x:Int) (W:World) (hW:Ws W g cap a)=>by have:=CY R a (by rw[e];exact H) (by omega) g cap q k x hq W hW;rw[e] at this;exact this)
   have EN:=hQQ (fun W hW=>by have:=zu R ws H.toTblIn hl g cap p n hp64 W hW;rw[ha0] at this;exact this)
   have HA:Hq (∀m:Nat,(cQ c.pg c.st 7 m p a0).length=ws.length):=hQQ fun m=>(qS H 7 m p a0).trans al
   have HAL:=hQQ al
   rw[TK.o]
   have q5:IntKind.i64.wrap (p+n)=p+n:=by have:=R.pg2;exact aj (by omega) (by omega)
   clear ha0 al hv hf hth
   have SN:=hQQ (fun(j:Nat)=>vK H 7 j p a0)
   clear TK
   have hc:=aI w c.cells 27
   have HR:=hQQ R
   have HH:=hQQ H
   have hgl:=hw.lt
   obtain⟨w1,e1⟩:∃w1,w.alloc (.cells c.cells 27)=w1:=⟨_,rfl⟩
   have m1:ac w w1:=by rw[←e1];exact(ac.refl w).alloc _
   rw[e1] at hc
   have HC:=hQQ hc
   have HM:=hQQ m1
   have HW:=hQQ (hw.more m1)
   have x2:w1.cell? ⟨w.heap.size,2,none⟩=some (.int .i64 c.pg):=aB hc (ac.refl _) rfl
   have X2:=hQQ x2
   have pg1:=R.pg1
   have pg2:=R.pg2
   clear x2 m1 hw R H hc
   have KC:Hq (∀W,Turned (fun b=>b=g) w1 W→W.heap[w.heap.size]?=some (.cells c.cells 27 (0,0))):=hQQ fun W t=>(t.block _ (af HC.o) (by omega)).trans HC.o
   have d1:decide (k<1)=false:=by simp;omega
   have d2:decide (6<k)=false:=by simp;omega
   obtain⟨b3,hb3⟩:∃b3,decide (k<6)=b3:=⟨_,rfl⟩
   have d4:b3=true→(n != 1)=false:=fun e=>by rw[←hb3] at e;have:=of_decide_eq_true e;simp;omega
   go_enter Tryz.func61,Tryz.ntmps61
   cases b3 with
   |true =>
    have d4:=d4 rfl
    have hk:(k==6)=false:=by have:=of_decide_eq_true hb3;simp;omega
    have hx:(if k=6 then n else 0)=0:=if_neg (by have:=of_decide_eq_true hb3;omega)
    rw[hx]
    clear hx
    go_wp2_with (first|(refine aH rfl rfl rfl HC.o (by kernel_rfl) ?_)|(refine aH rfl rfl rfl HC.o (by kernel_rfl) ?_))
    clear e1
    refine(OP.o _ HW.o).mono ?_
    rintro e w3 ⟨rfl,h3⟩
    have M3:=hQQ h3
    have HC3:=hQQ (h3.block HC.o)
    clear h3
    go_wp2_with (first|(refine aH rfl rfl rfl HC3.o (by kernel_rfl) ?_)|(refine aH rfl rfl rfl HC3.o (by kernel_rfl) ?_))
    refine(EN.o _ (HW.o.more M3.o)).mono ?_
    rintro e w4 ⟨rfl,hw4,ht4⟩
    have W4:=hQQ hw4
    have T4:Hq (Turned (fun b=>b=g) w1 w4):=hQQ ((turned_more M3.o).trans ht4)
    clear hw4 ht4
    go_wp2_with fail
    go_loopw [11] (fun v11 wr=>∃j:Nat,v11=.int .i64 (p+(j:Int))∧(j:Int)≤n∧Ws wr g cap (cQ c.pg c.st 7 j p a0)∧Turned (fun b=>b=g) w1 wr) (fun v11 _=>(p+n-intOf v11).toNat)
    case atStart=>exact⟨0,by simp,by omega,W4.o,T4.o⟩
    case round =>
     obtain⟨j,rfl,hj,hwr,htr⟩:=hrel
     have WR:=hQQ hwr
     have TR:=hQQ htr
     have HC5:=hQQ (KC.o _ htr)
     clear hwr htr
     obtain⟨i,hi⟩:∃i:Int,p+(j:Int)=i:=⟨_,rfl⟩
     rw[hi]
     by_cases hlt:i<p+n
     ·have d5:decide (i<p+n)=true:=by simpa using hlt
      have q6:IntKind.i64.wrap (i+1)=i+1:=aj (by omega) (by omega)
      have SJ:=hQQ (SN.o j)
      have HI:=hQQ hi
      rw[hi] at SJ
      clear hi
      go_wp2_with (first|(refine aH rfl rfl rfl HC5.o (by kernel_rfl) ?_)|(refine aH rfl rfl rfl HC5.o (by kernel_rfl) ?_))
      refine(ST.o _ (HA.o j) i (ai.2 ⟨by have:=HI.o;omega,by omega⟩) 7 0 wr WR.o).mono ?_
      rintro e w5 ⟨rfl,hw5,ht5⟩
      have W5:=hQQ hw5
      have T5:=hQQ (TR.o.trans ht5)
      clear hw5 ht5
      go_wp2_with fail
      go_roundw
      case rel=>exact⟨j+1,by rw[show p+((j+1:Nat):Int)=i+1 by have:=HI.o;omega],by have:=HI.o;omega,by rw[SJ.o];exact W5.o,T5.o⟩
      case measure=>simp[intOf];omega
     ·have d5:decide (i<p+n)=false:=by simpa using hlt
      have hjn:j=n.toNat:=by omega
      clear hi hlt
      subst hjn
      go_wp2_with (first|(refine aH rfl rfl rfl HC5.o (by kernel_rfl) ?_)|(refine aH rfl rfl rfl HC5.o (by kernel_rfl) ?_))
      refine(ST.o _ (HA.o _) p (ai.2 ⟨by omega,by omega⟩) k 0 wr WR.o).mono ?_
      rintro e w5 ⟨rfl,hw5,ht5⟩
      have W5:=hQQ hw5
      have T5:=hQQ (TR.o.trans ht5)
      clear hw5 ht5
      go_wp2_with fail
      go_ret
      exact⟨rfl,W5.o,(turned_more HM.o).trans T5.o⟩
   |false =>
    clear d4
    have hk6:k=6:=by have:=of_decide_eq_false hb3;omega
    have hk:(k==6)=true:=by simp[hk6]
    rw[if_pos hk6]
    clear hk6
    go_wp2_with (first|(refine aH rfl rfl rfl HC.o (by kernel_rfl) ?_)|(refine aH rfl rfl rfl HC.o (by kernel_rfl) ?_))
    clear e1
    refine(OP.o _ HW.o).mono ?_
    rintro e w3 ⟨rfl,h3⟩
    have M3:=hQQ h3
    have HC3:=hQQ (h3.block HC.o)
    clear h3
    go_wp2_with (first|(refine aH rfl rfl rfl HC3.o (by kernel_rfl) ?_)|(refine aH rfl rfl rfl HC3.o (by kernel_rfl) ?_))
    refine(EN.o _ (HW.o.more M3.o)).mono ?_
    rintro e w4 ⟨rfl,hw4,ht4⟩
    have W4:=hQQ hw4
    have T4:Hq (Turned (fun b=>b=g) w1 w4):=hQQ ((turned_more M3.o).trans ht4)
    clear hw4 ht4
    go_wp2_with fail
    go_loopw [11] (fun v11 wr=>∃j:Nat,v11=.int .i64 (p+(j:Int))∧(j:Int)≤n∧Ws wr g cap (cQ c.pg c.st 7 j p a0)∧Turned (fun b=>b=g) w1 wr) (fun v11 _=>(p+n-intOf v11).toNat)
    case atStart=>exact⟨0,by simp,by omega,W4.o,T4.o⟩
    case round =>
     obtain⟨j,rfl,hj,hwr,htr⟩:=hrel
     have WR:=hQQ hwr
     have TR:=hQQ htr
     have HC5:=hQQ (KC.o _ htr)
     clear hwr htr
     obtain⟨i,hi⟩:∃i:Int,p+(j:Int)=i:=⟨_,rfl⟩
     rw[hi]
     by_cases hlt:i<p+n
     ·have d5:decide (i<p+n)=true:=by simpa using hlt
      have q6:IntKind.i64.wrap (i+1)=i+1:=aj (by omega) (by omega)
      have SJ:=hQQ (SN.o j)
      have HI:=hQQ hi
      rw[hi] at SJ
      clear hi
      go_wp2_with (first|(refine aH rfl rfl rfl HC5.o (by kernel_rfl) ?_)|(refine aH rfl rfl rfl HC5.o (by kernel_rfl) ?_))
      refine(ST.o _ (HA.o j) i (ai.2 ⟨by have:=HI.o;omega,by omega⟩) 7 0 wr WR.o).mono ?_
      rintro e w5 ⟨rfl,hw5,ht5⟩
      have W5:=hQQ hw5
      have T5:=hQQ (TR.o.trans ht5)
      clear hw5 ht5
      go_wp2_with fail
      go_roundw
      case rel=>exact⟨j+1,by rw[show p+((j+1:Nat):Int)=i+1 by have:=HI.o;omega],by have:=HI.o;omega,by rw[SJ.o];exact W5.o,T5.o⟩
      case measure=>simp[intOf];omega
     ·have d5:decide (i<p+n)=false:=by simpa using hlt
      have hjn:j=n.toNat:=by omega
      clear hi hlt
      subst hjn
      go_wp2_with (first|(refine aH rfl rfl rfl HC5.o (by kernel_rfl) ?_)|(refine aH rfl rfl rfl HC5.o (by kernel_rfl) ?_))
      refine(ST.o _ (HA.o _) p (ai.2 ⟨by omega,by omega⟩) k n wr WR.o).mono ?_
      rintro e w5 ⟨rfl,hw5,ht5⟩
      have W5:=hQQ hw5
      have T5:=hQQ (TR.o.trans ht5)
      clear hw5 ht5
      go_wp2_with fail
      go_ret
      exact⟨rfl,W5.o,(turned_more HM.o).trans T5.o⟩
theorem Bs {k:Nat}(h:k<4):szV k * 2=szV ((k+1:Nat):Int)∧1≤szV k∧szV k≤16:=by
 rcases kL (show k≤4 by omega) with rfl|rfl|rfl|rfl|rfl<;>first|omega|decide
variable (w:World)
theorem vY (c:Nat)(h:c≤4):Calls Tryz.prog 49 #[.int .i64 c] w fun e w'=>e=.returned (.int .i64 (szV c))∧w'=w:=by
 have d0:decide ((c:Int)<0)=false:=by simp
 have d1:decide ((4:Int)<(c:Int))=false:=by simp;omega
 have d1b:decide (4<c)=false:=by simp;omega
 go_enter Tryz.func49,Tryz.ntmps49
 go_wp2_with fail
 go_loop [3,4] (fun n i=>∃k:Nat,k≤c∧i=.int .i64 k∧n=.int .i64 (szV k)) (fun _ i=>c-(intOf i).toNat)
 case atStart=>exact⟨0,Nat.zero_le _,rfl,rfl⟩
 case round =>
  obtain⟨k,hk,rfl,rfl⟩:=hrel
  by_cases hlt:k<c
  ·obtain⟨a1,a2,a3⟩:=Bs (show k<4 by omega)
   have q0:IntKind.i64.wrap (szV k * 2)=szV ((k+1:Nat):Int):=by rw[a1];have:=A9 (show k+1≤4 by omega);exact aj (by omega) (by omega)
   clear a1
   have d2:decide ((k:Int)<(c:Int))=true:=by simp;omega
   go_wp2_with fail
   go_round
   case rel=>exact⟨k+1,by omega,by go_num,rfl⟩
   case measure=>simp[intOf];omega
  ·have he:k=c:=by omega
   subst he
   have d2:decide ((k:Int)<(k:Int))=false:=by simp
   go_wp2_with fail
   go_ret
   exact⟨rfl,rfl⟩
theorem th (c:Int):Calls Tryz.prog 49 #[.int .i64 c] w fun e w'=>e=.returned (.int .i64 (szV c))∧w'=w:=by
 by_cases h:c<0∨4<c
 ·rw[pu h]
  by_cases c0:c<0
  ·have d0:decide (c<0)=true:=by simp;omega
   go_enter Tryz.func49,Tryz.ntmps49
   go_wp2_with fail
   go_ret
   exact⟨rfl,rfl⟩
  ·have d0:decide (c<0)=false:=by simp;omega
   have d1:decide (4<c)=true:=by simp;omega
   go_enter Tryz.func49,Tryz.ntmps49
   go_wp2_with fail
   go_ret
   exact⟨rfl,rfl⟩
 ·obtain⟨k,rfl⟩:∃k:Nat,c=k:=⟨c.toNat,by omega⟩
  exact vY w k (by omega)
theorem Bt (c:Int):Calls Tryz.prog 50 #[.int .i64 c] w fun e w'=>e=.returned (.int .i64 (am c))∧w'=w:=by
 by_cases h:c<0∨4<c
 ·rw[lw h]
  by_cases c0:c<0
  ·have d0:decide (c<0)=true:=by simp;omega
   go_enter Tryz.func50,Tryz.ntmps50
   go_wp2_with fail
   go_ret
   exact⟨rfl,rfl⟩
  ·have d0:decide (c<0)=false:=by simp;omega
   have d1:decide (4<c)=true:=by simp;omega
   go_enter Tryz.func50,Tryz.ntmps50
   go_wp2_with fail
   go_ret
   exact⟨rfl,rfl⟩
 ·obtain⟨k,rfl⟩:∃k:Nat,c=k:=⟨c.toNat,by omega⟩
  have hk:k≤4:=by omega
  have d0:decide ((k:Int)<0)=false:=by simp
  have d1:decide ((4:Int)<(k:Int))=false:=by simp;omega
  have d1b:decide (4<k)=false:=by simp;omega
  have sb:=A9 hk
  obtain⟨s1,s2,s3⟩:=iM hk
  have d2:(szV k==0)=false:=by simp;omega
  have q0:IntKind.i64.wrap ((32:Int).tdiv (szV k))=am k:=by rw[s1];exact aj (by omega) (by omega)
  clear s1
  go_enter Tryz.func50,Tryz.ntmps50
  go_wp2_with fail
  refine(th _ k).mono ?_
  rintro e w1 ⟨rfl,rfl⟩
  go_wp2_with fail
  go_ret
  exact⟨rfl,rfl⟩
theorem pI (k:Int)(w:World):Calls Tryz.prog 49 #[.int .i64 k] w (aD w (.int .i64 (szV k))):=(th w k).mono fun e w' q=>⟨q.1,q.2▸ac.refl _⟩
theorem zw (k:Int)(w:World):Calls Tryz.prog 50 #[.int .i64 k] w (aD w (.int .i64 (am k))):=(Bt w k).mono fun e w' q=>⟨q.1,q.2▸ac.refl _⟩
theorem rn (x n:Int)(w:World):Calls Tryz.prog 146 #[.int .i64 x,.int .i64 n] w (aD w (.int .i64 (co x n))):=(A7 x n w).mono fun e w' q=>⟨q.1,q.2▸ac.refl _⟩
theorem zx {x:Int}(i:Int)(h:W64 x)(w:World):Calls Tryz.prog 147 #[.int .i64 x,.int .i64 i] w (aD w (.int .i64 (dQ x i))):=(DI x i h.1 h.2 w).mono fun e w' q=>⟨q.1,q.2▸ac.refl _⟩
theorem ro {k:Int} :szV k=0↔am k=0:=by
 unfold szV am
 (repeat' split)<;>simp
theorem zy {c:Cfg}(R:c.Ok)(ws:List Int)(H:dh c.pg c.st ws.length)(hl:ws.length≤1000){G:Int→List Int}(L:Ln c.pg c.st G ws)(g cap:Nat)(k:Int)(w:World)(hw:Ws w g cap ws):
 Calls Tryz.prog 129 #[.agg c.cells,.slice (some ⟨g,0,none⟩) ws.length cap,.int .i64 k] w (aD w (.bool (od c.pg c.st k ws))):=by
 have FI:=hQQ (fun W (hW:Ws W g cap ws)=>og R ws H hl L g cap k W hW)
 have hb:=kR H k (am k).toNat ws 1
 unfold od
 obtain⟨x,hx⟩:∃x,aY c.pg c.st k (am k).toNat 1 ws=x:=⟨_,rfl⟩
 rw[hx] at FI hb⊢
 have hd:decide (0≤x)=(x != -1):=by
  rcases hb with e|e
  ·rw[e];rfl
  ·have:=ai.1 e
   have e1:(x != -1)=true:=by simp;omega
   rw[e1];simp;omega
 have HD:=hQQ hd
 clear hb hx hd
 have hc:=aI w c.cells 27
 have HR:=hQQ R
 have HH:=hQQ H
 have hgl:=hw.lt
 obtain⟨w1,e1⟩:∃w1,w.alloc (.cells c.cells 27)=w1:=⟨_,rfl⟩
 have m1:ac w w1:=by rw[←e1];exact(ac.refl w).alloc _
 rw[e1] at hc
 have HC:=hQQ hc
 have HM:=hQQ m1
 have HW:=hQQ (hw.more m1)
 have x2:w1.cell? ⟨w.heap.size,2,none⟩=some (.int .i64 c.pg):=aB hc (ac.refl _) rfl
 have X2:=hQQ x2
 have pg1:=R.pg1
 have pg2:=R.pg2
 clear x2 m1 hw R H hc
 go_enter Tryz.func129,Tryz.ntmps129
 go_wp2_with (first|(refine aH rfl rfl rfl HC.o (by kernel_rfl) ?_)|(refine aH rfl rfl rfl HC.o (by kernel_rfl) ?_))
 clear e1
 refine(FI.o _ HW.o).mono ?_
 rintro e w2 ⟨rfl,h2⟩
 have FIN:=hQQ (HM.o.trans h2)
 clear h2
 go_wp2_with fail
 go_ret
 exact⟨by rw[←HD.o];rfl,FIN.o⟩
end Go.Proofs.YtfddhogffpkhcaaGreatDoor
