/-
  The document's own functions of extents, over a row of words: Find.
-/
import Derived.Test.YtfddhogffpkhcaaGreatDoorTdAf
import Derived.Test.YtfddhogffpkhcaaGreatDoorTdAe
import Derived.WalkKit
import Derived.WalkSpells
import Derived.WalkLawsBesides
import Derived.Outline
import Derived.IntWalk
import Derived.Lib.Hide
import Derived.Test.YtfddhogffpkhcaaGreatDoorTdAd
import Derived.Test.YtfddhogffpkhcaaGreatDoorTdAa
set_option maxRecDepth 100000
set_option maxHeartbeats 8000000
set_option linter.all false
namespace Go.Proofs.YtfddhogffpkhcaaGreatDoor
open Go.RowKit Go.Sort Go.Maps Go.Shelf
section
variable {c:Cfg}{ws:List Int}{n step res:Int}
theorem KF (n1:1≤n)(s1:1≤step)(hpg:0≤c.pg){p:Int}(p0:0≤p)(pm:p % step=0)(ho:opV c.pg c.st ws p n true=true)(hb:∀q,0≤q→q<p→q % step=0→opV c.pg c.st ws q n true=false)(hres:(if cj (dW c.pg c.st ws) c.pg n step= -1 then cj (fH c.pg c.st ws) c.pg n step else cj (dW c.pg c.st ws) c.pg n step)=res):p=res:=by
 have h:cj (dW c.pg c.st ws) c.pg n step=p:=pV n1 s1 hpg p0 pm true ho hb
 rw[h,if_neg (by omega)] at hres
 exact hres
theorem FIN2 (n1:1≤n)(s1:1≤step)(hpg:0≤c.pg)(hn:∀q,0≤q→q<c.pg→q % step=0→opV c.pg c.st ws q n true=false){p:Int}(p0:0≤p)(pm:p % step=0)(ho:opV c.pg c.st ws p n false=true)(hb:∀q,0≤q→q<p→q % step=0→opV c.pg c.st ws q n false=false)(hres:(if cj (dW c.pg c.st ws) c.pg n step= -1 then cj (fH c.pg c.st ws) c.pg n step else cj (dW c.pg c.st ws) c.pg n step)=res):p=res:=by
 have h0:cj (dW c.pg c.st ws) c.pg n step= -1:=nX n1 s1 hpg true hn
 have h:cj (fH c.pg c.st ws) c.pg n step=p:=pV n1 s1 hpg p0 pm false ho hb
 rw[h0,if_pos rfl,h] at hres
 exact hres
theorem KG (n1:1≤n)(s1:1≤step)(hpg:0≤c.pg)(hn:∀q,0≤q→q<c.pg→q % step=0→opV c.pg c.st ws q n true=false)(hb:∀q,0≤q→q<c.pg→q % step=0→opV c.pg c.st ws q n false=false)(hres:(if cj (dW c.pg c.st ws) c.pg n step= -1 then cj (fH c.pg c.st ws) c.pg n step else cj (dW c.pg c.st ws) c.pg n step)=res): -1=res:=by
 have h0:cj (dW c.pg c.st ws) c.pg n step= -1:=nX n1 s1 hpg true hn
 have h:cj (fH c.pg c.st ws) c.pg n step= -1:=nX n1 s1 hpg false hb
 rw[h0,if_pos rfl,h] at hres
 exact hres
end
theorem zF {c:Cfg}(R:c.Ok)(ws:List Int)(H:PgIn c.pg c.st ws.length)(hl:ws.length≤1000)(g cap:Nat)(n step:Int)(w:World)(hw:Ws w g cap ws):
 Calls Tryz.prog 60 #[.agg c.cells,.slice (some ⟨g,0,none⟩) ws.length cap,.int .i64 n,.int .i64 step] w (aF w (.int .i64 (dD c.pg c.st n step ws))):=by
 by_cases hn:1≤n∧1≤step
 ·obtain⟨n1,s1⟩:=hn
  obtain⟨res,hres⟩:∃res,(if cj (dW c.pg c.st ws) c.pg n step= -1 then cj (fH c.pg c.st ws) c.pg n step else cj (dW c.pg c.st ws) c.pg n step)=res:=⟨_,rfl⟩
  rw[show dD c.pg c.st n step ws=res by unfold dD;rw[if_pos ⟨n1,s1⟩,hres]]
  have HRES:=hQQ hres
  clear hres
  have hc:=aH w c.cells 27
  have HR:=hQQ R
  have HH:=hQQ H
  have hgl:=hw.lt
  obtain⟨w1,e1⟩:∃w1,w.alloc (.cells c.cells 27)=w1:=⟨_,rfl⟩
  have m1:ae w w1:=by rw[←e1];exact(ae.refl w).alloc _
  rw[e1] at hc
  have HC:=hQQ hc
  have HM:=hQQ m1
  have HW:=hQQ (hw.more m1)
  have x2:w1.cell? ⟨w.heap.size,2,none⟩=some (.int .i64 c.pg):=aB hc (ae.refl _) rfl
  have X2:=hQQ x2
  have pg1:=R.pg1
  have pg2:=R.pg2
  clear x2 m1 hw R H hc
  have d2:decide (n<1)=false:=by simp;omega
  have d3:decide (step<1)=false:=by simp;omega
  have nz:(step==0)=false:=by simp;omega
  have nz1:(step== -1)=false:=by simp;omega
  go_enter Tryz.func60,Tryz.ntmps60
  go_wp2_with fail
  clear e1 d2 d3
  go_loopw [9] (fun v wr=>∃j:Nat,v=.int .i64 (j:Int)∧(j:Int)≤c.pg∧ae w1 wr∧∀q,0≤q→q<(j:Int)→q % step=0→opV c.pg c.st ws q n true=false) (fun v _=>c.pg.toNat-(intOf v).toNat)
  case atStart=>exact⟨0,rfl,by omega,(ae.refl _),fun q h0 h1=>by omega⟩
  case round =>
   obtain⟨j,rfl,hj,htw,hno⟩:=hrel
   have HT:=hQQ htw
   have HC1:=hQQ (htw.block HC.o)
   have X21:=hQQ (htw.cell X2.o)
   have HW1:=hQQ (HW.o.more htw)
   have q6:IntKind.i64.wrap ((j:Int)+1)=(j:Int)+1:=am (by omega) (by omega)
   have HNO:=hQQ hno
   clear htw hno
   by_cases hlt:(j:Int)<c.pg
   ·have d1:decide ((j:Int)<c.pg)=true:=by simpa using hlt
    by_cases z:(j:Int).tmod step=0
    ·have dz:((j:Int).tmod step==0)=true:=by simp[z]
     have z3:(j:Int) % step=0:=by rwa [Int.tmod_eq_emod_of_nonneg (by omega)] at z
     have Z3:=hQQ z3
     clear z dz
     go_wp2_with (first|(first|(refine aA rfl rfl rfl HC1.o (by kernel_rfl) ?_)|(refine aA rfl rfl rfl HC1.o (by kernel_rfl) ?_))|(refine dl rfl 3 _ rfl w.heap.size _ rfl .i64 Tryz.underlying3 _ X21.o ?_))
     refine(tB HR.o ws HH.o hl g cap (j:Int) n true wr HW1.o).mono ?_
     cases ho:opV c.pg c.st ws (j:Int) n true with
     |true =>
      rintro e w3 ⟨rfl,h3⟩
      have M3:=hQQ (HM.o.trans (HT.o.trans h3))
      have hfin:=KF n1 s1 (by omega) (by omega) Z3.o ho HNO.o HRES.o
      have HF:=hQQ hfin
      clear h3 ho hfin
      go_wp2_with fail
      go_ret
      exact⟨by have h:=HF.o;subst h;rfl,M3.o⟩
     |false =>
      rintro e w3 ⟨rfl,h3⟩
      have M3:=hQQ (HT.o.trans h3)
      have NO:=hQQ (show ∀q,0≤q→q<((j+1:Nat):Int)→q % step=0→opV c.pg c.st ws q n true=false from fun q h0 h1 hq=>by
       by_cases e:q=(j:Int)
       ·rw[e];exact ho
       ·exact HNO.o q h0 (by omega) hq)
      clear h3 ho
      go_wp2_with fail
      go_roundw
      case rel=>exact⟨j+1,by go_num,by omega,M3.o,NO.o⟩
      case measure=>simp[intOf];omega
    ·have dz:((j:Int).tmod step==0)=false:=by simp[z]
     have z3:¬(j:Int) % step=0:=by rwa [Int.tmod_eq_emod_of_nonneg (by omega)] at z
     have NO:=hQQ (show ∀q,0≤q→q<((j+1:Nat):Int)→q % step=0→opV c.pg c.st ws q n true=false from fun q h0 h1 hq=>by
      by_cases e:q=(j:Int)
      ·rw[e] at hq;exact absurd hq z3
      ·exact HNO.o q h0 (by omega) hq)
     have dz1:((j:Int) % step==0)=false:=by simpa using z3
     have dz2:decide ((j:Int) % step=0)=false:=by simpa using z3
     clear z dz
     go_wp2_with (refine dl rfl 3 _ rfl w.heap.size _ rfl .i64 Tryz.underlying3 _ X21.o ?_)
     go_roundw
     case rel=>exact⟨j+1,by go_num,by omega,HT.o,NO.o⟩
     case measure=>simp[intOf];omega
   ·have d1:decide ((j:Int)<c.pg)=false:=by simpa using hlt
    have NO:=hQQ (show ∀q,0≤q→q<c.pg→q % step=0→opV c.pg c.st ws q n true=false from fun q h0 h1 hq=>HNO.o q h0 (by omega) hq)
    have TT:=hQQ HT.o
    clear hlt
    skip
    clear HNO HT HC1 HW1 q6
    have NO1:=NO
    go_wp2_with (refine dl rfl 3 _ rfl w.heap.size _ rfl .i64 Tryz.underlying3 _ X21.o ?_)
    clear d1 NO X21
    go_loopw [10] (fun v wr=>∃j:Nat,v=.int .i64 (j:Int)∧(j:Int)≤c.pg∧ae w1 wr∧∀q,0≤q→q<(j:Int)→q % step=0→opV c.pg c.st ws q n false=false) (fun v _=>c.pg.toNat-(intOf v).toNat)
    case atStart=>exact⟨0,rfl,by omega,TT.o,fun q h0 h1=>by omega⟩
    case round =>
     obtain⟨j,rfl,hj,htw,hno⟩:=hrel
     have HT:=hQQ htw
     have HC1:=hQQ (htw.block HC.o)
     have X21:=hQQ (htw.cell X2.o)
     have HW1:=hQQ (HW.o.more htw)
     have q6:IntKind.i64.wrap ((j:Int)+1)=(j:Int)+1:=am (by omega) (by omega)
     have HNO:=hQQ hno
     clear htw hno
     by_cases hlt:(j:Int)<c.pg
     ·have d1:decide ((j:Int)<c.pg)=true:=by simpa using hlt
      by_cases z:(j:Int).tmod step=0
      ·have dz:((j:Int).tmod step==0)=true:=by simp[z]
       have z3:(j:Int) % step=0:=by rwa [Int.tmod_eq_emod_of_nonneg (by omega)] at z
       have Z3:=hQQ z3
       clear z dz
       go_wp2_with (first|(first|(refine aA rfl rfl rfl HC1.o (by kernel_rfl) ?_)|(refine aA rfl rfl rfl HC1.o (by kernel_rfl) ?_))|(refine dl rfl 3 _ rfl w.heap.size _ rfl .i64 Tryz.underlying3 _ X21.o ?_))
       refine(tB HR.o ws HH.o hl g cap (j:Int) n false wr HW1.o).mono ?_
       cases ho:opV c.pg c.st ws (j:Int) n false with
       |true =>
        rintro e w3 ⟨rfl,h3⟩
        have M3:=hQQ (HM.o.trans (HT.o.trans h3))
        have hfin:=FIN2 n1 s1 (by omega) NO1.out (by omega) Z3.o ho HNO.o HRES.o
        have HF:=hQQ hfin
        clear h3 ho hfin
        go_wp2_with fail
        go_ret
        exact⟨by have h:=HF.o;subst h;rfl,M3.o⟩
       |false =>
        rintro e w3 ⟨rfl,h3⟩
        have M3:=hQQ (HT.o.trans h3)
        have NO:=hQQ (show ∀q,0≤q→q<((j+1:Nat):Int)→q % step=0→opV c.pg c.st ws q n false=false from fun q h0 h1 hq=>by
         by_cases e:q=(j:Int)
         ·rw[e];exact ho
         ·exact HNO.o q h0 (by omega) hq)
        clear h3 ho
        go_wp2_with fail
        go_roundw
        case rel=>exact⟨j+1,by go_num,by omega,M3.o,NO.o⟩
        case measure=>simp[intOf];omega
      ·have dz:((j:Int).tmod step==0)=false:=by simp[z]
       have z3:¬(j:Int) % step=0:=by rwa [Int.tmod_eq_emod_of_nonneg (by omega)] at z
       have NO:=hQQ (show ∀q,0≤q→q<((j+1:Nat):Int)→q % step=0→opV c.pg c.st ws q n false=false from fun q h0 h1 hq=>by
        by_cases e:q=(j:Int)
        ·rw[e] at hq;exact absurd hq z3
        ·exact HNO.o q h0 (by omega) hq)
       have dz1:((j:Int) % step==0)=false:=by simpa using z3
       have dz2:decide ((j:Int) % step=0)=false:=by simpa using z3
       clear z dz
       go_wp2_with (refine dl rfl 3 _ rfl w.heap.size _ rfl .i64 Tryz.underlying3 _ X21.o ?_)
       go_roundw
       case rel=>exact⟨j+1,by go_num,by omega,HT.o,NO.o⟩
       case measure=>simp[intOf];omega
     ·have d1:decide ((j:Int)<c.pg)=false:=by simpa using hlt
      have NO:=hQQ (show ∀q,0≤q→q<c.pg→q % step=0→opV c.pg c.st ws q n false=false from fun q h0 h1 hq=>HNO.o q h0 (by omega) hq)
      have TT:=hQQ HT.o
      clear hlt
      skip
      have HF:=hQQ (KG n1 s1 (by omega) NO1.out NO.o HRES.o)
      go_wp2_with (refine dl rfl 3 _ rfl w.heap.size _ rfl .i64 Tryz.underlying3 _ X21.o ?_)
      go_ret
      exact⟨by have h:=HF.o;subst h;rfl,HM.o.trans TT.o⟩
 ·have d:n<1∨step<1:=by omega
  rw[show dD c.pg c.st n step ws= -1 by unfold dD;rw[if_neg hn]]
  clear hn
  have hc:=aH w c.cells 27
  have HR:=hQQ R
  have HH:=hQQ H
  have hgl:=hw.lt
  obtain⟨w1,e1⟩:∃w1,w.alloc (.cells c.cells 27)=w1:=⟨_,rfl⟩
  have m1:ae w w1:=by rw[←e1];exact(ae.refl w).alloc _
  rw[e1] at hc
  have HC:=hQQ hc
  have HM:=hQQ m1
  have HW:=hQQ (hw.more m1)
  have x2:w1.cell? ⟨w.heap.size,2,none⟩=some (.int .i64 c.pg):=aB hc (ae.refl _) rfl
  have X2:=hQQ x2
  have pg1:=R.pg1
  have pg2:=R.pg2
  clear x2 m1 hw R H hc
  by_cases h0:n<1
  ·have d2:decide (n<1)=true:=by simpa using h0
   go_enter Tryz.func60,Tryz.ntmps60
   go_wp2_with fail
   go_ret
   exact⟨rfl,HM.o⟩
  ·have d2:decide (n<1)=false:=by simpa using h0
   have d3:decide (step<1)=true:=by simp;omega
   go_enter Tryz.func60,Tryz.ntmps60
   go_wp2_with fail
   go_ret
   exact⟨rfl,HM.o⟩
theorem zG {c:Cfg}(R:c.Ok)(ws:List Int)(H:PgIn c.pg c.st ws.length)(hl:ws.length≤1000)(g cap:Nat)(p n k:Int)(hp64:W64 p)(w:World)(hw:Ws w g cap ws):
 Calls Tryz.prog 61 #[.agg c.cells,.slice (some ⟨g,0,none⟩) ws.length cap,.int .i64 p,.int .i64 n,.int .i64 k] w (qo w g cap (.bool (dP c.pg c.st p n k ws).1) (dP c.pg c.st p n k ws).2):=by
 have OP:=hQQ (fun W hW=>by have:=tB R ws H hl g cap p n false W hW;rw[G6] at this;exact this)
 cases hv:j3 c.pg c.st p n ws with
 |false =>
  rw[show dP c.pg c.st p n k ws=(false,ws) by unfold dP;rw[hv,Bool.and_false];rfl]
  rw[hv] at OP
  clear hv
  have hc:=aH w c.cells 27
  have HR:=hQQ R
  have HH:=hQQ H
  have hgl:=hw.lt
  obtain⟨w1,e1⟩:∃w1,w.alloc (.cells c.cells 27)=w1:=⟨_,rfl⟩
  have m1:ae w w1:=by rw[←e1];exact(ae.refl w).alloc _
  rw[e1] at hc
  have HC:=hQQ hc
  have HM:=hQQ m1
  have HW:=hQQ (hw.more m1)
  have x2:w1.cell? ⟨w.heap.size,2,none⟩=some (.int .i64 c.pg):=aB hc (ae.refl _) rfl
  have X2:=hQQ x2
  have pg1:=R.pg1
  have pg2:=R.pg2
  clear x2 m1 hw R H hc
  go_enter Tryz.func61,Tryz.ntmps61
  go_wp2_with (first|(refine aA rfl rfl rfl HC.o (by kernel_rfl) ?_)|(refine aA rfl rfl rfl HC.o (by kernel_rfl) ?_))
  clear e1
  refine(OP.o _ HW.o).mono ?_
  rintro e w3 ⟨rfl,h3⟩
  have M3:=hQQ h3
  clear h3
  go_wp2_with fail
  go_ret
  exact⟨rfl,HW.o.more M3.o,turned_more (HM.o.trans M3.o)⟩
 |true =>
  have HV:=hQQ hv
  rw[hv] at OP
  cases hf:qR k n with
  |false =>
   rw[show dP c.pg c.st p n k ws=(false,ws) by unfold dP;rw[hf,Bool.false_and];rfl]
   have hf2:¬(k=6∨(1≤k∧k≤5∧n=1)):=fun q=>by rw[mH.2 q] at hf;cases hf
   clear hv hf
   have hc:=aH w c.cells 27
   have HR:=hQQ R
   have HH:=hQQ H
   have hgl:=hw.lt
   obtain⟨w1,e1⟩:∃w1,w.alloc (.cells c.cells 27)=w1:=⟨_,rfl⟩
   have m1:ae w w1:=by rw[←e1];exact(ae.refl w).alloc _
   rw[e1] at hc
   have HC:=hQQ hc
   have HM:=hQQ m1
   have HW:=hQQ (hw.more m1)
   have x2:w1.cell? ⟨w.heap.size,2,none⟩=some (.int .i64 c.pg):=aB hc (ae.refl _) rfl
   have X2:=hQQ x2
   have pg1:=R.pg1
   have pg2:=R.pg2
   clear x2 m1 hw R H hc
   by_cases k1:k<1
   ·have d1:decide (k<1)=true:=by simpa using k1
    clear k1 hf2
    go_enter Tryz.func61,Tryz.ntmps61
    go_wp2_with (first|(refine aA rfl rfl rfl HC.o (by kernel_rfl) ?_)|(refine aA rfl rfl rfl HC.o (by kernel_rfl) ?_))
    clear e1
    refine(OP.o _ HW.o).mono ?_
    rintro e w3 ⟨rfl,h3⟩
    have M3:=hQQ h3
    clear h3
    go_wp2_with fail
    go_ret
    exact⟨rfl,HW.o.more M3.o,turned_more (HM.o.trans M3.o)⟩
   ·have d1:decide (k<1)=false:=by simp;omega
    by_cases k6:6<k
    ·have d2:decide (6<k)=true:=by simpa using k6
     clear k1 k6 hf2
     go_enter Tryz.func61,Tryz.ntmps61
     go_wp2_with (first|(refine aA rfl rfl rfl HC.o (by kernel_rfl) ?_)|(refine aA rfl rfl rfl HC.o (by kernel_rfl) ?_))
     clear e1
     refine(OP.o _ HW.o).mono ?_
     rintro e w3 ⟨rfl,h3⟩
     have M3:=hQQ h3
     clear h3
     go_wp2_with fail
     go_ret
     exact⟨rfl,HW.o.more M3.o,turned_more (HM.o.trans M3.o)⟩
    ·have d2:decide (6<k)=false:=by simp;omega
     have d3:decide (k<6)=true:=by simp;omega
     have d4:(n != 1)=true:=by simp;omega
     clear k1 k6 hf2
     go_enter Tryz.func61,Tryz.ntmps61
     go_wp2_with (first|(refine aA rfl rfl rfl HC.o (by kernel_rfl) ?_)|(refine aA rfl rfl rfl HC.o (by kernel_rfl) ?_))
     clear e1
     refine(OP.o _ HW.o).mono ?_
     rintro e w3 ⟨rfl,h3⟩
     have M3:=hQQ h3
     clear h3
     go_wp2_with fail
     go_ret
     exact⟨rfl,HW.o.more M3.o,turned_more (HM.o.trans M3.o)⟩
  |true =>
   have hf2:=mH.1 hf
   have hth:=(fa.1 hv).1
   obtain⟨t0,t1,t2⟩:=bo.1 hth
   obtain⟨a0,ha0⟩:∃a0,(co c.pg c.st p n ws).2=a0:=⟨_,rfl⟩
   have al:a0.length=ws.length:=by rw[←ha0];exact(zu H hth rfl).len
   have TK:Hq (dP c.pg c.st p n k ws=(true,bD c.pg c.st p k (if k=6 then n else 0) (cR c.pg c.st 7 n.toNat p a0))):=hQQ (by
    unfold dP
    rw[hf,hv,Bp H al hth,ha0]
    rfl)
   have ST:=hQQ (fun(a:List Int) (e:a.length=ws.length) (q:Int) (hq:af c.pg q=true) (k x:Int) (W:World) (hW:Ws W g cap a)=>by have:=EW R a (by rw[e];exact H) (by omega) g cap q k x hq W hW;rw[e] at this;exact this)
   have EN:=hQQ (fun W hW=>by have:=EU R ws H.toTblIn hl g cap p n hp64 W hW;rw[ha0] at this;exact this)
   have HA:Hq (∀m:Nat,(cR c.pg c.st 7 m p a0).length=ws.length):=hQQ fun m=>(mN H 7 m p a0).trans al
   have HAL:=hQQ al
   rw[TK.o]
   have q5:IntKind.i64.wrap (p+n)=p+n:=by have:=R.pg2;exact am (by omega) (by omega)
   clear ha0 al hv hf hth
   have SN:=hQQ (fun(j:Nat)=>rG H 7 j p a0)
   clear TK
   have hc:=aH w c.cells 27
   have HR:=hQQ R
   have HH:=hQQ H
   have hgl:=hw.lt
   obtain⟨w1,e1⟩:∃w1,w.alloc (.cells c.cells 27)=w1:=⟨_,rfl⟩
   have m1:ae w w1:=by rw[←e1];exact(ae.refl w).alloc _
   rw[e1] at hc
   have HC:=hQQ hc
   have HM:=hQQ m1
   have HW:=hQQ (hw.more m1)
   have x2:w1.cell? ⟨w.heap.size,2,none⟩=some (.int .i64 c.pg):=aB hc (ae.refl _) rfl
   have X2:=hQQ x2
   have pg1:=R.pg1
   have pg2:=R.pg2
   clear x2 m1 hw R H hc
   have KC:Hq (∀W,Turned (fun b=>b=g) w1 W→W.heap[w.heap.size]?=some (.cells c.cells 27 (0,0))):=hQQ fun W t=>(t.block _ (ac HC.o) (by omega)).trans HC.o
   have d1:decide (k<1)=false:=by simp;omega
   have d2:decide (6<k)=false:=by simp;omega
   obtain⟨b3,hb3⟩:∃b3,decide (k<6)=b3:=⟨_,rfl⟩
   have d4:b3=true→(n != 1)=false:=fun e=>by rw[←hb3] at e;have:=of_decide_eq_true e;simp;omega
   go_enter Tryz.func61,Tryz.ntmps61
   cases b3 with
   |true =>
    have d4:=d4 rfl
    have hk:(k==6)=false:=by have:=of_decide_eq_true hb3;simp;omega
    have hx:(if k=6 then n else 0)=0:=if_neg (by have:=of_decide_eq_true hb3;omega)
    rw[hx]
    clear hx
    go_wp2_with (first|(refine aA rfl rfl rfl HC.o (by kernel_rfl) ?_)|(refine aA rfl rfl rfl HC.o (by kernel_rfl) ?_))
    clear e1
    refine(OP.o _ HW.o).mono ?_
    rintro e w3 ⟨rfl,h3⟩
    have M3:=hQQ h3
    have HC3:=hQQ (h3.block HC.o)
    clear h3
    go_wp2_with (first|(refine aA rfl rfl rfl HC3.o (by kernel_rfl) ?_)|(refine aA rfl rfl rfl HC3.o (by kernel_rfl) ?_))
    refine(EN.o _ (HW.o.more M3.o)).mono ?_
    rintro e w4 ⟨rfl,hw4,ht4⟩
    have W4:=hQQ hw4
    have T4:Hq (Turned (fun b=>b=g) w1 w4):=hQQ ((turned_more M3.o).trans ht4)
    clear hw4 ht4
    go_wp2_with fail
    go_loopw [11] (fun v11 wr=>∃j:Nat,v11=.int .i64 (p+(j:Int))∧(j:Int)≤n∧Ws wr g cap (cR c.pg c.st 7 j p a0)∧Turned (fun b=>b=g) w1 wr) (fun v11 _=>(p+n-intOf v11).toNat)
    case atStart=>exact⟨0,by simp,by omega,W4.o,T4.o⟩
    case round =>
     obtain⟨j,rfl,hj,hwr,htr⟩:=hrel
     have WR:=hQQ hwr
     have TR:=hQQ htr
     have HC5:=hQQ (KC.o _ htr)
     clear hwr htr
     obtain⟨i,hi⟩:∃i:Int,p+(j:Int)=i:=⟨_,rfl⟩
     rw[hi]
     by_cases hlt:i<p+n
     ·have d5:decide (i<p+n)=true:=by simpa using hlt
      have q6:IntKind.i64.wrap (i+1)=i+1:=am (by omega) (by omega)
      have SJ:=hQQ (SN.o j)
      have HI:=hQQ hi
      rw[hi] at SJ
      clear hi
      go_wp2_with (first|(refine aA rfl rfl rfl HC5.o (by kernel_rfl) ?_)|(refine aA rfl rfl rfl HC5.o (by kernel_rfl) ?_))
      refine(ST.o _ (HA.o j) i (ag.2 ⟨by have:=HI.o;omega,by omega⟩) 7 0 wr WR.o).mono ?_
      rintro e w5 ⟨rfl,hw5,ht5⟩
      have W5:=hQQ hw5
      have T5:=hQQ (TR.o.trans ht5)
      clear hw5 ht5
      go_wp2_with fail
      go_roundw
      case rel=>exact⟨j+1,by rw[show p+((j+1:Nat):Int)=i+1 by have:=HI.o;omega],by have:=HI.o;omega,by rw[SJ.o];exact W5.o,T5.o⟩
      case measure=>simp[intOf];omega
     ·have d5:decide (i<p+n)=false:=by simpa using hlt
      have hjn:j=n.toNat:=by omega
      clear hi hlt
      subst hjn
      go_wp2_with (first|(refine aA rfl rfl rfl HC5.o (by kernel_rfl) ?_)|(refine aA rfl rfl rfl HC5.o (by kernel_rfl) ?_))
      refine(ST.o _ (HA.o _) p (ag.2 ⟨by omega,by omega⟩) k 0 wr WR.o).mono ?_
      rintro e w5 ⟨rfl,hw5,ht5⟩
      have W5:=hQQ hw5
      have T5:=hQQ (TR.o.trans ht5)
      clear hw5 ht5
      go_wp2_with fail
      go_ret
      exact⟨rfl,W5.o,(turned_more HM.o).trans T5.o⟩
   |false =>
    clear d4
    have hk6:k=6:=by have:=of_decide_eq_false hb3;omega
    have hk:(k==6)=true:=by simp[hk6]
    rw[if_pos hk6]
    clear hk6
    go_wp2_with (first|(refine aA rfl rfl rfl HC.o (by kernel_rfl) ?_)|(refine aA rfl rfl rfl HC.o (by kernel_rfl) ?_))
    clear e1
    refine(OP.o _ HW.o).mono ?_
    rintro e w3 ⟨rfl,h3⟩
    have M3:=hQQ h3
    have HC3:=hQQ (h3.block HC.o)
    clear h3
    go_wp2_with (first|(refine aA rfl rfl rfl HC3.o (by kernel_rfl) ?_)|(refine aA rfl rfl rfl HC3.o (by kernel_rfl) ?_))
    refine(EN.o _ (HW.o.more M3.o)).mono ?_
    rintro e w4 ⟨rfl,hw4,ht4⟩
    have W4:=hQQ hw4
    have T4:Hq (Turned (fun b=>b=g) w1 w4):=hQQ ((turned_more M3.o).trans ht4)
    clear hw4 ht4
    go_wp2_with fail
    go_loopw [11] (fun v11 wr=>∃j:Nat,v11=.int .i64 (p+(j:Int))∧(j:Int)≤n∧Ws wr g cap (cR c.pg c.st 7 j p a0)∧Turned (fun b=>b=g) w1 wr) (fun v11 _=>(p+n-intOf v11).toNat)
    case atStart=>exact⟨0,by simp,by omega,W4.o,T4.o⟩
    case round =>
     obtain⟨j,rfl,hj,hwr,htr⟩:=hrel
     have WR:=hQQ hwr
     have TR:=hQQ htr
     have HC5:=hQQ (KC.o _ htr)
     clear hwr htr
     obtain⟨i,hi⟩:∃i:Int,p+(j:Int)=i:=⟨_,rfl⟩
     rw[hi]
     by_cases hlt:i<p+n
     ·have d5:decide (i<p+n)=true:=by simpa using hlt
      have q6:IntKind.i64.wrap (i+1)=i+1:=am (by omega) (by omega)
      have SJ:=hQQ (SN.o j)
      have HI:=hQQ hi
      rw[hi] at SJ
      clear hi
      go_wp2_with (first|(refine aA rfl rfl rfl HC5.o (by kernel_rfl) ?_)|(refine aA rfl rfl rfl HC5.o (by kernel_rfl) ?_))
      refine(ST.o _ (HA.o j) i (ag.2 ⟨by have:=HI.o;omega,by omega⟩) 7 0 wr WR.o).mono ?_
      rintro e w5 ⟨rfl,hw5,ht5⟩
      have W5:=hQQ hw5
      have T5:=hQQ (TR.o.trans ht5)
      clear hw5 ht5
      go_wp2_with fail
      go_roundw
      case rel=>exact⟨j+1,by rw[show p+((j+1:Nat):Int)=i+1 by have:=HI.o;omega],by have:=HI.o;omega,by rw[SJ.o];exact W5.o,T5.o⟩
      case measure=>simp[intOf];omega
     ·have d5:decide (i<p+n)=false:=by simpa using hlt
      have hjn:j=n.toNat:=by omega
      clear hi hlt
      subst hjn
      go_wp2_with (first|(refine aA rfl rfl rfl HC5.o (by kernel_rfl) ?_)|(refine aA rfl rfl rfl HC5.o (by kernel_rfl) ?_))
      refine(ST.o _ (HA.o _) p (ag.2 ⟨by omega,by omega⟩) k n wr WR.o).mono ?_
      rintro e w5 ⟨rfl,hw5,ht5⟩
      have W5:=hQQ hw5
      have T5:=hQQ (TR.o.trans ht5)
      clear hw5 ht5
      go_wp2_with fail
      go_ret
      exact⟨rfl,W5.o,(turned_more HM.o).trans T5.o⟩
theorem zH {c:Cfg}(R:c.Ok)(ws:List Int)(H:PgIn c.pg c.st ws.length)(hl:ws.length≤1000)(wf:Wf c.pg c.st ws)(g cap:Nat)(p:Int)(w:World)(hw:Ws w g cap ws):
 Calls Tryz.prog 68 #[.agg c.cells,.slice (some ⟨g,0,none⟩) ws.length cap,.int .i64 p] w (qo w g cap (.int .i64 (dQ c.pg c.st p ws).1) (dQ c.pg c.st p ws).2):=by
 have KD:=hQQ (fun(a:List Int) (e:a.length=ws.length) (q:Int) (W:World) (hW:Ws W g cap a)=>by have:=lg R a (by rw[e];exact H) (by omega) g cap q W hW;rw[e] at this;exact this)
 have ST:=hQQ (fun(a:List Int) (e:a.length=ws.length) (q:Int) (hq:af c.pg q=true) (k x:Int) (W:World) (hW:Ws W g cap a)=>by have:=EW R a (by rw[e];exact H) (by omega) g cap q k x hq W hW;rw[e] at this;exact this)
 have K0:=hQQ (fun W hW=>KD.o ws rfl p W hW)
 have S0:=hQQ (fun hq W hW=>ST.o ws rfl p hq 0 0 W hW)
 obtain⟨k,hk⟩:∃k,aj c.pg c.st ws p=k:=⟨_,rfl⟩
 rw[hk] at K0
 by_cases k1:k<1
 ·rw[show dQ c.pg c.st p ws=(0,ws) by unfold dQ dX;rw[hk,show lz k=false by unfold lz;simp;omega,if_neg (by simp),if_neg (by omega)];rfl]
  clear hk wf
  have hc:=aH w c.cells 27
  have HR:=hQQ R
  have HH:=hQQ H
  have hgl:=hw.lt
  obtain⟨w1,e1⟩:∃w1,w.alloc (.cells c.cells 27)=w1:=⟨_,rfl⟩
  have m1:ae w w1:=by rw[←e1];exact(ae.refl w).alloc _
  rw[e1] at hc
  have HC:=hQQ hc
  have HM:=hQQ m1
  have HW:=hQQ (hw.more m1)
  have x2:w1.cell? ⟨w.heap.size,2,none⟩=some (.int .i64 c.pg):=aB hc (ae.refl _) rfl
  have X2:=hQQ x2
  have pg1:=R.pg1
  have pg2:=R.pg2
  clear x2 m1 hw R H hc
  have d1:decide (k<1)=true:=by simpa using k1
  clear k1
  go_enter Tryz.func68,Tryz.ntmps68
  go_wp2_with (first|(refine aA rfl rfl rfl HC.o (by kernel_rfl) ?_)|(refine aA rfl rfl rfl HC.o (by kernel_rfl) ?_))
  clear e1
  refine(K0.o _ HW.o).mono ?_
  rintro e w3 ⟨rfl,h3⟩
  have M3:=hQQ h3
  clear h3
  go_wp2_with fail
  go_ret
  exact⟨rfl,HW.o.more M3.o,turned_more (HM.o.trans M3.o)⟩
 ·by_cases k6:6<k
  ·rw[show dQ c.pg c.st p ws=(0,ws) by unfold dQ dX;rw[hk,show lz k=false by unfold lz;simp;omega,if_neg (by simp),if_neg (by omega)];rfl]
   clear hk wf
   have hc:=aH w c.cells 27
   have HR:=hQQ R
   have HH:=hQQ H
   have hgl:=hw.lt
   obtain⟨w1,e1⟩:∃w1,w.alloc (.cells c.cells 27)=w1:=⟨_,rfl⟩
   have m1:ae w w1:=by rw[←e1];exact(ae.refl w).alloc _
   rw[e1] at hc
   have HC:=hQQ hc
   have HM:=hQQ m1
   have HW:=hQQ (hw.more m1)
   have x2:w1.cell? ⟨w.heap.size,2,none⟩=some (.int .i64 c.pg):=aB hc (ae.refl _) rfl
   have X2:=hQQ x2
   have pg1:=R.pg1
   have pg2:=R.pg2
   clear x2 m1 hw R H hc
   have d1:decide (k<1)=false:=by simpa using k1
   have d2:decide (6<k)=true:=by simpa using k6
   clear k1 k6
   go_enter Tryz.func68,Tryz.ntmps68
   go_wp2_with (first|(refine aA rfl rfl rfl HC.o (by kernel_rfl) ?_)|(refine aA rfl rfl rfl HC.o (by kernel_rfl) ?_))
   clear e1
   refine(K0.o _ HW.o).mono ?_
   rintro e w3 ⟨rfl,h3⟩
   have M3:=hQQ h3
   clear h3
   go_wp2_with fail
   go_ret
   exact⟨rfl,HW.o.more M3.o,turned_more (HM.o.trans M3.o)⟩
  ·have hpp:=fJ (pg:=c.pg) (st:=c.st) (ws:=ws) (p:=p) (by omega)
   have hp:=ag.2 hpp
   have d1:decide (k<1)=false:=by simpa using k1
   have d2:decide (6<k)=false:=by simpa using k6
   by_cases e6:k=6
   ·obtain⟨r1,r2,r3,r4⟩:=wf.run p (hk.trans e6)
    obtain⟨m,hm⟩:∃m:Nat,aL c.pg c.st ws p=(m:Int):=⟨(aL c.pg c.st ws p).toNat,by omega⟩
    rw[hm] at r1 r2 r3 r4
    have HD:Hq (dQ c.pg c.st p ws=((m:Int),cR c.pg c.st 0 m p ws)):=hQQ (by
     have hlen:dX c.pg c.st p ws=(m:Int):=by
      unfold dX
      rw[hk,e6,show lz 6=false by decide,if_neg (by simp),if_pos rfl,hm]
      omega
     unfold dQ
     rw[hlen]
     simp)
    rw[HD.o]
    have SN:=hQQ (fun(j:Nat)=>rG H 0 j p ws)
    have HA:Hq (∀j:Nat,(cR c.pg c.st 0 j p ws).length=ws.length):=hQQ fun j=>mN H 0 j p ws
    have KN:Hq (∀j:Nat,(j:Int)≤m→aj c.pg c.st (cR c.pg c.st 0 j p ws) (p+(j:Int))=aj c.pg c.st ws (p+(j:Int))):=hQQ fun j hj=>by
     rw[nU H 0 j p ws rfl (fun i hi=>ag.2 ⟨by omega,by omega⟩) (p+(j:Int)),if_neg (by omega)]
    have RUN:=hQQ (And.intro r3 r4)
    have dk:(k==6)=true:=by simp[e6]
    clear HD hk hm wf r3 r4 k1 k6 e6
    have HP:=hQQ hp
    clear hp
    have hc:=aH w c.cells 27
    have HR:=hQQ R
    have HH:=hQQ H
    have hgl:=hw.lt
    obtain⟨w1,e1⟩:∃w1,w.alloc (.cells c.cells 27)=w1:=⟨_,rfl⟩
    have m1:ae w w1:=by rw[←e1];exact(ae.refl w).alloc _
    rw[e1] at hc
    have HC:=hQQ hc
    have HM:=hQQ m1
    have HW:=hQQ (hw.more m1)
    have x2:w1.cell? ⟨w.heap.size,2,none⟩=some (.int .i64 c.pg):=aB hc (ae.refl _) rfl
    have X2:=hQQ x2
    have pg1:=R.pg1
    have pg2:=R.pg2
    clear x2 m1 hw R H hc
    have KC:Hq (∀W,Turned (fun b=>b=g) w1 W→W.heap[w.heap.size]?=some (.cells c.cells 27 (0,0))):=hQQ fun W t=>(t.block _ (ac HC.o) (by omega)).trans HC.o
    go_enter Tryz.func68,Tryz.ntmps68
    go_wp2_with (first|(refine aA rfl rfl rfl HC.o (by kernel_rfl) ?_)|(refine aA rfl rfl rfl HC.o (by kernel_rfl) ?_))
    clear e1
    refine(K0.o _ HW.o).mono ?_
    rintro e w3 ⟨rfl,h3⟩
    have M3:=hQQ h3
    have HC3:=hQQ (h3.block HC.o)
    clear h3
    go_wp2_with (first|(refine aA rfl rfl rfl HC3.o (by kernel_rfl) ?_)|(refine aA rfl rfl rfl HC3.o (by kernel_rfl) ?_))
    refine(S0.o HP.o _ (HW.o.more M3.o)).mono ?_
    rintro e w4 ⟨rfl,hw4,ht4⟩
    have W4:=hQQ hw4
    have T4:Hq (Turned (fun b=>b=g) w1 w4):=hQQ ((turned_more M3.o).trans ht4)
    clear hw4 ht4
    go_wp2_with fail
    go_loopw [8] (fun v8 wr=>∃j:Nat,v8=.int .i64 (j:Int)∧1≤j∧j≤m∧Ws wr g cap (cR c.pg c.st 0 j p ws)∧Turned (fun b=>b=g) w1 wr) (fun v8 _=>m-(intOf v8).toNat)
    case atStart=>exact⟨1,rfl,by omega,by omega,W4.o,T4.o⟩
    case round =>
     obtain⟨j,rfl,hj1,hj,hwr,htr⟩:=hrel
     have WR:=hQQ hwr
     have TR:=hQQ htr
     have HC5:=hQQ (KC.o _ htr)
     have q5:IntKind.i64.wrap (p+(j:Int))=p+(j:Int):=am (by omega) (by omega)
     have q6:IntKind.i64.wrap ((j:Int)+1)=(j:Int)+1:=am (by omega) (by omega)
     have KJ:=hQQ (fun W hW=>by have:=KD.o _ (HA.o j) (p+(j:Int)) W hW;rw[KN.o j (by omega)] at this;exact this)
     clear hwr htr
     by_cases hlt:j<m
     ·have h7:=RUN.o.1 (p+(j:Int)) (by omega) (by omega)
      rw[h7] at KJ
      have SJ:=hQQ (SN.o j)
      clear h7
      go_wp2_with (first|(refine aA rfl rfl rfl HC5.o (by kernel_rfl) ?_)|(refine aA rfl rfl rfl HC5.o (by kernel_rfl) ?_))
      refine(KJ.o wr WR.o).mono ?_
      rintro e w5 ⟨rfl,h5⟩
      have W5:=hQQ (WR.o.more h5)
      have T5:=hQQ (TR.o.trans (turned_more h5))
      have HC6:=hQQ (KC.o _ T5.o)
      clear h5
      go_wp2_with (first|(refine aA rfl rfl rfl HC6.o (by kernel_rfl) ?_)|(refine aA rfl rfl rfl HC6.o (by kernel_rfl) ?_))
      refine(ST.o _ (HA.o j) (p+(j:Int)) (ag.2 ⟨by omega,by omega⟩) 0 0 w5 W5.o).mono ?_
      rintro e w6 ⟨rfl,hw6,ht6⟩
      have W6:=hQQ hw6
      have T6:=hQQ (T5.o.trans ht6)
      clear hw6 ht6
      go_wp2_with fail
      go_roundw
      case rel=>exact⟨j+1,by go_num,by omega,by omega,by rw[SJ.o];exact W6.o,T6.o⟩
      case measure=>simp[intOf];omega
     ·obtain rfl:j=m:=by omega
      have h7:(aj c.pg c.st ws (p+(j:Int))==7)=false:=by simpa using RUN.o.2
      clear hlt
      go_wp2_with (first|(refine aA rfl rfl rfl HC5.o (by kernel_rfl) ?_)|(refine aA rfl rfl rfl HC5.o (by kernel_rfl) ?_))
      refine(KJ.o wr WR.o).mono ?_
      rintro e w5 ⟨rfl,h5⟩
      have W5:=hQQ (WR.o.more h5)
      have T5:=hQQ (TR.o.trans (turned_more h5))
      clear h5
      go_wp2_with fail
      go_ret
      exact⟨rfl,W5.o,(turned_more HM.o).trans T5.o⟩
   ·rw[show dQ c.pg c.st p ws=(1,bD c.pg c.st p 0 0 ws) by unfold dQ dX;rw[hk,show lz k=true by unfold lz;simp;omega,if_pos rfl];rfl]
    have dk:(k==6)=false:=by simp;omega
    clear hk wf k1 k6 e6
    have HP:=hQQ hp
    clear hp
    have hc:=aH w c.cells 27
    have HR:=hQQ R
    have HH:=hQQ H
    have hgl:=hw.lt
    obtain⟨w1,e1⟩:∃w1,w.alloc (.cells c.cells 27)=w1:=⟨_,rfl⟩
    have m1:ae w w1:=by rw[←e1];exact(ae.refl w).alloc _
    rw[e1] at hc
    have HC:=hQQ hc
    have HM:=hQQ m1
    have HW:=hQQ (hw.more m1)
    have x2:w1.cell? ⟨w.heap.size,2,none⟩=some (.int .i64 c.pg):=aB hc (ae.refl _) rfl
    have X2:=hQQ x2
    have pg1:=R.pg1
    have pg2:=R.pg2
    clear x2 m1 hw R H hc
    have KC:Hq (∀W,Turned (fun b=>b=g) w1 W→W.heap[w.heap.size]?=some (.cells c.cells 27 (0,0))):=hQQ fun W t=>(t.block _ (ac HC.o) (by omega)).trans HC.o
    go_enter Tryz.func68,Tryz.ntmps68
    go_wp2_with (first|(refine aA rfl rfl rfl HC.o (by kernel_rfl) ?_)|(refine aA rfl rfl rfl HC.o (by kernel_rfl) ?_))
    clear e1
    refine(K0.o _ HW.o).mono ?_
    rintro e w3 ⟨rfl,h3⟩
    have M3:=hQQ h3
    have HC3:=hQQ (h3.block HC.o)
    clear h3
    go_wp2_with (first|(refine aA rfl rfl rfl HC3.o (by kernel_rfl) ?_)|(refine aA rfl rfl rfl HC3.o (by kernel_rfl) ?_))
    refine(S0.o HP.o _ (HW.o.more M3.o)).mono ?_
    rintro e w4 ⟨rfl,hw4,ht4⟩
    have W4:=hQQ hw4
    have T4:Hq (Turned (fun b=>b=g) w1 w4):=hQQ ((turned_more M3.o).trans ht4)
    clear hw4 ht4
    go_wp2_with fail
    go_loopw [8] (fun v8 wr=>v8=.int .i64 1∧Ws wr g cap (bD c.pg c.st p 0 0 ws)∧Turned (fun b=>b=g) w1 wr) (fun _ _=>0)
    case atStart=>exact⟨rfl,W4.o,T4.o⟩
    case round =>
     obtain⟨rfl,hwr,htr⟩:=hrel
     have WR:=hQQ hwr
     have TR:=hQQ htr
     clear hwr htr
     go_wp2_with fail
     go_ret
     exact⟨rfl,WR.o,(turned_more HM.o).trans TR.o⟩
theorem Ho {k:Nat}(h:k<4):szV k * 2=szV ((k+1:Nat):Int)∧1≤szV k∧szV k≤16:=by
 rcases nT (show k≤4 by omega) with rfl|rfl|rfl|rfl|rfl<;>first|omega|decide
variable (w:World)
theorem BM (c:Nat)(h:c≤4):Calls Tryz.prog 49 #[.int .i64 c] w fun e w'=>e=.returned (.int .i64 (szV c))∧w'=w:=by
 have d0:decide ((c:Int)<0)=false:=by simp
 have d1:decide ((4:Int)<(c:Int))=false:=by simp;omega
 have d1b:decide (4<c)=false:=by simp;omega
 go_enter Tryz.func49,Tryz.ntmps49
 go_wp2_with fail
 go_loop [3,4] (fun n i=>∃k:Nat,k≤c∧i=.int .i64 k∧n=.int .i64 (szV k)) (fun _ i=>c-(intOf i).toNat)
 case atStart=>exact⟨0,Nat.zero_le _,rfl,rfl⟩
 case round =>
  obtain⟨k,hk,rfl,rfl⟩:=hrel
  by_cases hlt:k<c
  ·obtain⟨a1,a2,a3⟩:=Ho (show k<4 by omega)
   have q0:IntKind.i64.wrap (szV k * 2)=szV ((k+1:Nat):Int):=by rw[a1];have:=uS (show k+1≤4 by omega);exact am (by omega) (by omega)
   clear a1
   have d2:decide ((k:Int)<(c:Int))=true:=by simp;omega
   go_wp2_with fail
   go_round
   case rel=>exact⟨k+1,by omega,by go_num,rfl⟩
   case measure=>simp[intOf];omega
  ·have he:k=c:=by omega
   subst he
   have d2:decide ((k:Int)<(k:Int))=false:=by simp
   go_wp2_with fail
   go_ret
   exact⟨rfl,rfl⟩
theorem yo (c:Int):Calls Tryz.prog 49 #[.int .i64 c] w fun e w'=>e=.returned (.int .i64 (szV c))∧w'=w:=by
 by_cases h:c<0∨4<c
 ·rw[tj h]
  by_cases c0:c<0
  ·have d0:decide (c<0)=true:=by simp;omega
   go_enter Tryz.func49,Tryz.ntmps49
   go_wp2_with fail
   go_ret
   exact⟨rfl,rfl⟩
  ·have d0:decide (c<0)=false:=by simp;omega
   have d1:decide (4<c)=true:=by simp;omega
   go_enter Tryz.func49,Tryz.ntmps49
   go_wp2_with fail
   go_ret
   exact⟨rfl,rfl⟩
 ·obtain⟨k,rfl⟩:∃k:Nat,c=k:=⟨c.toNat,by omega⟩
  exact BM w k (by omega)
theorem Hp (c:Int):Calls Tryz.prog 50 #[.int .i64 c] w fun e w'=>e=.returned (.int .i64 (ao c))∧w'=w:=by
 by_cases h:c<0∨4<c
 ·rw[iX h]
  by_cases c0:c<0
  ·have d0:decide (c<0)=true:=by simp;omega
   go_enter Tryz.func50,Tryz.ntmps50
   go_wp2_with fail
   go_ret
   exact⟨rfl,rfl⟩
  ·have d0:decide (c<0)=false:=by simp;omega
   have d1:decide (4<c)=true:=by simp;omega
   go_enter Tryz.func50,Tryz.ntmps50
   go_wp2_with fail
   go_ret
   exact⟨rfl,rfl⟩
 ·obtain⟨k,rfl⟩:∃k:Nat,c=k:=⟨c.toNat,by omega⟩
  have hk:k≤4:=by omega
  have d0:decide ((k:Int)<0)=false:=by simp
  have d1:decide ((4:Int)<(k:Int))=false:=by simp;omega
  have d1b:decide (4<k)=false:=by simp;omega
  have sb:=uS hk
  obtain⟨s1,s2,s3⟩:=kB hk
  have d2:(szV k==0)=false:=by simp;omega
  have q0:IntKind.i64.wrap ((32:Int).tdiv (szV k))=ao k:=by rw[s1];exact am (by omega) (by omega)
  clear s1
  go_enter Tryz.func50,Tryz.ntmps50
  go_wp2_with fail
  refine(yo _ k).mono ?_
  rintro e w1 ⟨rfl,rfl⟩
  go_wp2_with fail
  go_ret
  exact⟨rfl,rfl⟩
theorem jM (k:Int)(w:World):Calls Tryz.prog 49 #[.int .i64 k] w (aF w (.int .i64 (szV k))):=(yo w k).mono fun e w' q=>⟨q.1,q.2▸ae.refl _⟩
theorem vB (k:Int)(w:World):Calls Tryz.prog 50 #[.int .i64 k] w (aF w (.int .i64 (ao k))):=(Hp w k).mono fun e w' q=>⟨q.1,q.2▸ae.refl _⟩
theorem Jk (x i:Int)(w:World):Calls Tryz.prog 51 #[.int .i64 x,.int .i64 i] w (aF w (.bool (cK x i))):=(pO x i w).mono fun e w' q=>⟨q.1,q.2▸ae.refl _⟩
theorem vC (x n:Int)(w:World):Calls Tryz.prog 146 #[.int .i64 x,.int .i64 n] w (aF w (.int .i64 (cO x n))):=(GO x n w).mono fun e w' q=>⟨q.1,q.2▸ae.refl _⟩
theorem EX {x:Int}(i:Int)(h:W64 x)(w:World):Calls Tryz.prog 147 #[.int .i64 x,.int .i64 i] w (aF w (.int .i64 (eQ x i))):=(J9 x i h.1 h.2 w).mono fun e w' q=>⟨q.1,q.2▸ae.refl _⟩
theorem vD {x:Int}(i:Int)(h:W64 x)(w:World):Calls Tryz.prog 149 #[.int .i64 x,.int .i64 i] w (aF w (.int .i64 (cC x i))):=(GM x i h.1 h.2 w).mono fun e w' q=>⟨q.1,q.2▸ae.refl _⟩
theorem kJ {k:Int} :szV k=0↔ao k=0:=by
 unfold szV ao
 (repeat' split)<;>simp
theorem li {c:Cfg}(R:c.Ok)(ws:List Int)(H:cB c.pg c.st ws.length)(hl:ws.length≤1000){G:Int→List Int}(F:PgF c.pg c.st G ws)(g cap:Nat)(ad:Int)(w:World)(hw:Ws w g cap ws):
 Calls Tryz.prog 66 #[.agg c.cells,.slice (some ⟨g,0,none⟩) ws.length cap,.int .i64 ad] w (aF w (.tuple #[.int .i64 (iZ c.us c.pg c.st ad ws).1,.bool (iZ c.us c.pg c.st ad ws).2])):=by
 obtain⟨res,hres⟩:∃res,iZ c.us c.pg c.st ad ws=res:=⟨_,rfl⟩
 rw[hres]
 unfold iZ dp at hres
 by_cases hin:c.us≤ad∧ad<c.us+32 * c.pg
 ·rw[if_pos hin] at hres
  obtain⟨hq,hwd⟩:=mK hin
  have hkd:=F.kd _ hq
  have PL:=hQQ (fun W=>jk c.wk c.cp c.pg c.st c.tr c.wt c.ck c.pr c.ca c.bi c.ba W ad R hin.1 hin.2)
  have PL:=hQQ (show ∀W,Calls Tryz.prog 65 #[.agg c.cells,.int .i64 ad] W (aF W (.tuple #[.int .i64 ((ad-c.us) / 32),.int .i64 ((ad-c.us) % 32),.bool true])) from PL.o)
  generalize (ad-c.us) / 32=q at hres hq hkd PL
  generalize (ad-c.us) % 32=wd at hres hwd PL
  clear hin
  obtain⟨⟨q0,q1,_⟩,_,q4,q5,_⟩:=cG H.toPgIn hq
  obtain⟨b0,hb0⟩:∃b:Nat,kA c.pg c.st q=(b:Int):=⟨(kA c.pg c.st q).toNat,by omega⟩
  obtain⟨b2,hb2⟩:∃b:Nat,bA c.pg c.st q=(b:Int):=⟨(bA c.pg c.st q).toNat,by omega⟩
  have l0:b0<ws.length:=by omega
  have l2:b2<ws.length:=by omega
  have P0:=hQQ ((pH (st:=c.st) hq).trans hb0)
  have P2:=hQQ ((pJ (st:=c.st) hq).trans hb2)
  have ek:ws.getD b0 0=aj c.pg c.st ws q:=by rw[fI hq,hb0];rfl
  have eb:ws.getD b2 0=bz c.pg c.st ws q:=by unfold bz;rw[hb2];rfl
  have CK:Hq (∀W,Ws W g cap ws→W.cell? ⟨g,b0,none⟩=some (.int .i64 (aj c.pg c.st ws q))):=hQQ fun W hW=>by rw[←ek];exact hW.cell l0
  have CB:Hq (∀W,Ws W g cap ws→W.cell? ⟨g,b2,none⟩=some (.int .i64 (bz c.pg c.st ws q))):=hQQ fun W hW=>by rw[←eb];exact hW.cell l2
  unfold ij at hres
  generalize aj c.pg c.st ws q=kd at hres hkd CK
  generalize bz c.pg c.st ws q=bt at hres CB
  have hwr:IntKind.i64.wrap (kd-1)=kd-1:=am (by omega) (by omega)
  rw[hwr] at hres
  clear ek eb hb0 hb2 q0 q1 q4 q5 hq
  have hc:=aH w c.cells 27
  have HR:=hQQ R
  have HH:=hQQ H
  have hgl:=hw.lt
  obtain⟨w1,e1⟩:∃w1,w.alloc (.cells c.cells 27)=w1:=⟨_,rfl⟩
  have m1:ae w w1:=by rw[←e1];exact(ae.refl w).alloc _
  rw[e1] at hc
  have HC:=hQQ hc
  have HM:=hQQ m1
  have HW:=hQQ (hw.more m1)
  have x2:w1.cell? ⟨w.heap.size,2,none⟩=some (.int .i64 c.pg):=aB hc (ae.refl _) rfl
  have X2:=hQQ x2
  have pg1:=R.pg1
  have pg2:=R.pg2
  clear x2 m1 hw R H hc
  obtain⟨kk,hkk⟩:∃kk,kd-1=kk:=⟨_,rfl⟩
  rw[hkk] at hres hwr
  have hkb: -1≤kk∧kk≤6:=by omega
  go_enter Tryz.func66,Tryz.ntmps66
  go_wp2_with (first|(refine aA rfl rfl rfl HC.o (by kernel_rfl) ?_)|(refine aA rfl rfl rfl HC.o (by kernel_rfl) ?_))
  clear e1
  refine(PL.o _).mono ?_
  rintro e w2 ⟨rfl,h2⟩
  have M2:=hQQ h2
  have HC2:=hQQ (h2.block HC.o)
  clear h2
  go_wp2_with (first|(refine aA rfl rfl rfl HC2.o (by kernel_rfl) ?_)|(refine aA rfl rfl rfl HC2.o (by kernel_rfl) ?_))
  refine(lc HR.o q _).mono ?_
  rw[P0.o]
  rintro e w3 ⟨rfl,h3⟩
  have M3:=hQQ (M2.o.trans h3)
  have x3:=CK.o _ (HW.o.more M3.o)
  clear h3
  go_wp2_with fail
  refine(jM kk _).mono ?_
  rintro e w4 ⟨rfl,h4⟩
  have M4:=hQQ (M3.o.trans h4)
  have HC4:=hQQ (M4.o.block HC.o)
  clear h4 x3
  by_cases hz:ao kk=0
  ·rw[if_pos hz] at hres
   have hz':=kJ.2 hz
   have HRES:=hQQ hres.symm
   clear hres hwr hkk hz
   rw[hz']
   go_wp2_with fail
   refine aw (by kernel_rfl) (by kernel_rfl) ?_
   iterate 21
    with_reducible refine wpQuiet_step (fun K hK=>?_)
    go_simp
    first
    |(refine hK _ ?_;clear hK K)
    |(apply Exists.intro
      refine⟨fun W hW=>?_,hK _ ?_⟩
      first
      |(go_simp;try rfl)
      clear hK K)
   refine wpQuiet_nil ?_
   intro w9 h9
   have FIN:=hQQ (HM.o.trans (M4.o.trans h9))
   clear h9
   go_wp2_with fail
   go_ret2
   exact⟨by rw[HRES.o];rfl,FIN.o⟩
  rw[if_neg hz] at hres
  have hk4:=eK hz
  obtain⟨z,rfl⟩:∃z:Nat,kk=(z:Int):=⟨kk.toNat,by omega⟩
  have hsb:=uS (k:=z) (by omega)
  obtain⟨sz,hsz⟩:∃sz,szV (z:Int)=sz:=⟨_,rfl⟩
  rw[hsz] at hres hsb⊢
  have t1:wd.tmod sz=wd % sz:=Int.tmod_eq_emod_of_nonneg hwd.1
  have t2:wd.tdiv sz=wd / sz:=Int.tdiv_eq_ediv_of_nonneg hwd.1
  have t4:0≤wd / sz∧wd / sz≤wd:=⟨Int.ediv_nonneg hwd.1 (by omega),Int.ediv_le_self _ hwd.1⟩
  have t5:IntKind.i64.wrap (wd / sz)=wd / sz:=am (by omega) (by omega)
  have z0:(sz==0)=false:=by simp;omega
  have z1:decide (sz=0)=false:=by simp;omega
  have z2:(sz== -1)=false:=by simp;omega
  have z3:decide (sz= -1)=false:=by simp;omega
  have z4:¬sz=0:=by omega
  have z5:¬sz= -1:=by omega
  obtain⟨ix,hix⟩:∃ix,wd / sz=ix:=⟨_,rfl⟩
  obtain⟨mm,hmm⟩:∃mm,wd % sz=mm:=⟨_,rfl⟩
  rw[hix] at hres t2 t5
  rw[hmm] at hres t1
  clear t4 hix hmm hsz hwr hkk hz hk4 hkb
  by_cases hm0:mm=0
  ·rw[if_neg (by simpa using hm0)] at hres
   have d1:(mm != 0)=false:=by simp[hm0]
   have x4:=CB.o _ (HW.o.more M4.o)
   have hbb:(b2:Int)<ws.length:=by omega
   obtain⟨hv,hhv⟩:∃hv,cK bt ix=hv:=⟨_,rfl⟩
   rw[hhv] at hres
   have YH:=hQQ (fun W=>hhv▸Jk bt ix W)
   have YB:=hQQ (fun W=>P2.o▸lf HR.o q W)
   clear hm0 hhv
   cases hv with
   |true =>
    have HRES:=hQQ hres.symm
    clear hres
    go_wp2_with fail
    refine aw (by kernel_rfl) (by kernel_rfl) ?_
    iterate 10
     with_reducible refine wpQuiet_step (fun K hK=>?_)
     go_simp
     first
     |(refine hK _ ?_;clear hK K)
     |(apply Exists.intro
       refine⟨fun W hW=>?_,hK _ ?_⟩
       first
       |(go_simp;try rfl)
       clear hK K)
    refine ai rfl 27 _ rfl _ rfl 27 _ _ _ (fun W hW=>hW.block HC4.o) Tryz.underlying27 rfl (by kernel_rfl) ?_
    iterate 10
     with_reducible refine wpQuiet_step (fun K hK=>?_)
     go_simp
     first
     |(refine hK _ ?_;clear hK K)
     |(apply Exists.intro
       refine⟨fun W hW=>?_,hK _ ?_⟩
       first
       |(go_at_call 52;exact Calls.more hW (YB.o W))
       |(go_at_call 51;exact Calls.more hW (YH.o W))
       |(have x4':=hW.cell x4;go_simp;try rfl)
       clear hK K)
    refine wpQuiet_nil ?_
    intro w9 h9
    have FIN:=hQQ (HM.o.trans (M4.o.trans h9))
    clear h9
    go_wp2_with fail
    go_ret2
    exact⟨by rw[HRES.o];rfl,FIN.o⟩
   |false =>
    have HRES:=hQQ hres.symm
    clear hres
    go_wp2_with fail
    refine aw (by kernel_rfl) (by kernel_rfl) ?_
    iterate 10
     with_reducible refine wpQuiet_step (fun K hK=>?_)
     go_simp
     first
     |(refine hK _ ?_;clear hK K)
     |(apply Exists.intro
       refine⟨fun W hW=>?_,hK _ ?_⟩
       first
       |(go_simp;try rfl)
       clear hK K)
    refine ai rfl 27 _ rfl _ rfl 27 _ _ _ (fun W hW=>hW.block HC4.o) Tryz.underlying27 rfl (by kernel_rfl) ?_
    iterate 10
     with_reducible refine wpQuiet_step (fun K hK=>?_)
     go_simp
     first
     |(refine hK _ ?_;clear hK K)
     |(apply Exists.intro
       refine⟨fun W hW=>?_,hK _ ?_⟩
       first
       |(go_at_call 52;exact Calls.more hW (YB.o W))
       |(go_at_call 51;exact Calls.more hW (YH.o W))
       |(have x4':=hW.cell x4;go_simp;try rfl)
       clear hK K)
    refine wpQuiet_nil ?_
    intro w9 h9
    have FIN:=hQQ (HM.o.trans (M4.o.trans h9))
    clear h9
    go_wp2_with fail
    go_ret2
    exact⟨by rw[HRES.o];rfl,FIN.o⟩
  ·rw[if_pos (by simpa using hm0)] at hres
   have d1:(mm != 0)=true:=by simpa using hm0
   have HRES:=hQQ hres.symm
   clear hres hm0
   go_wp2_with fail
   refine aw (by kernel_rfl) (by kernel_rfl) ?_
   iterate 21
    with_reducible refine wpQuiet_step (fun K hK=>?_)
    go_simp
    first
    |(refine hK _ ?_;clear hK K)
    |(apply Exists.intro
      refine⟨fun W hW=>?_,hK _ ?_⟩
      first
      |(go_simp;try rfl)
      clear hK K)
   refine wpQuiet_nil ?_
   intro w9 h9
   have FIN:=hQQ (HM.o.trans (M4.o.trans h9))
   clear h9
   go_wp2_with fail
   go_ret2
   exact⟨by rw[HRES.o];rfl,FIN.o⟩
 ·rw[if_neg hin] at hres
  have PL:=hQQ (fun W=>qj c.wk c.cp c.pg c.st c.tr c.wt c.ck c.pr c.ca c.bi c.ba W ad R (by unfold Cfg.us at hin;show ad<bH c.cp c.pg c.st c.ca c.bi∨bH c.cp c.pg c.st c.ca c.bi+32 * c.pg≤ad;omega))
  have PL:=hQQ (show ∀W,Calls Tryz.prog 65 #[.agg c.cells,.int .i64 ad] W (aF W (.tuple #[.int .i64 0,.int .i64 0,.bool false])) from PL.o)
  clear hin
  have HRES:=hQQ hres.symm
  clear hres
  have hc:=aH w c.cells 27
  have HR:=hQQ R
  have HH:=hQQ H
  have hgl:=hw.lt
  obtain⟨w1,e1⟩:∃w1,w.alloc (.cells c.cells 27)=w1:=⟨_,rfl⟩
  have m1:ae w w1:=by rw[←e1];exact(ae.refl w).alloc _
  rw[e1] at hc
  have HC:=hQQ hc
  have HM:=hQQ m1
  have HW:=hQQ (hw.more m1)
  have x2:w1.cell? ⟨w.heap.size,2,none⟩=some (.int .i64 c.pg):=aB hc (ae.refl _) rfl
  have X2:=hQQ x2
  have pg1:=R.pg1
  have pg2:=R.pg2
  clear x2 m1 hw R H hc
  go_enter Tryz.func66,Tryz.ntmps66
  go_wp2_with (first|(refine aA rfl rfl rfl HC.o (by kernel_rfl) ?_)|(refine aA rfl rfl rfl HC.o (by kernel_rfl) ?_))
  clear e1
  refine(PL.o _).mono ?_
  rintro e w2 ⟨rfl,h2⟩
  have FIN:=hQQ (HM.o.trans h2)
  clear h2
  go_wp2_with fail
  go_ret2
  exact⟨by rw[HRES.o];rfl,FIN.o⟩
theorem EY {c:Cfg}(R:c.Ok)(ws:List Int)(H:cB c.pg c.st ws.length)(hl:ws.length≤1000){G:Int→List Int}(L:Ln c.pg c.st G ws)(g cap:Nat)(k:Int)(w:World)(hw:Ws w g cap ws):
 Calls Tryz.prog 129 #[.agg c.cells,.slice (some ⟨g,0,none⟩) ws.length cap,.int .i64 k] w (aF w (.bool (rJ c.pg c.st k ws))):=by
 have FI:=hQQ (fun W (hW:Ws W g cap ws)=>rO R ws H hl L g cap k W hW)
 have hb:=oc H k (ao k).toNat ws 1
 unfold rJ
 obtain⟨x,hx⟩:∃x,bB c.pg c.st k (ao k).toNat 1 ws=x:=⟨_,rfl⟩
 rw[hx] at FI hb⊢
 have hd:decide (0≤x)=(x != -1):=by
  rcases hb with e|e
  ·rw[e];rfl
  ·have:=ag.1 e
   have e1:(x != -1)=true:=by simp;omega
   rw[e1];simp;omega
 have HD:=hQQ hd
 clear hb hx hd
 have hc:=aH w c.cells 27
 have HR:=hQQ R
 have HH:=hQQ H
 have hgl:=hw.lt
 obtain⟨w1,e1⟩:∃w1,w.alloc (.cells c.cells 27)=w1:=⟨_,rfl⟩
 have m1:ae w w1:=by rw[←e1];exact(ae.refl w).alloc _
 rw[e1] at hc
 have HC:=hQQ hc
 have HM:=hQQ m1
 have HW:=hQQ (hw.more m1)
 have x2:w1.cell? ⟨w.heap.size,2,none⟩=some (.int .i64 c.pg):=aB hc (ae.refl _) rfl
 have X2:=hQQ x2
 have pg1:=R.pg1
 have pg2:=R.pg2
 clear x2 m1 hw R H hc
 go_enter Tryz.func129,Tryz.ntmps129
 go_wp2_with (first|(refine aA rfl rfl rfl HC.o (by kernel_rfl) ?_)|(refine aA rfl rfl rfl HC.o (by kernel_rfl) ?_))
 clear e1
 refine(FI.o _ HW.o).mono ?_
 rintro e w2 ⟨rfl,h2⟩
 have FIN:=hQQ (HM.o.trans h2)
 clear h2
 go_wp2_with fail
 go_ret
 exact⟨by rw[←HD.o];rfl,FIN.o⟩
def og (w:World)(g cap:Nat)(v:Value)(ws:List Int)(e:Ending)(w':World):Prop:=e=.returned v∧Ws w' g cap ws∧Turned (fun b=>b=g) w w'
theorem BN {us:List Int}{b1 b2:Nat}(h:b1≠b2)(x y z:Int):((us.set b1 x).set b2 y).set b1 z=(us.set b2 y).set b1 z:=by
 rw[List.set_comm x y h,List.set_set]
theorem pi {c:Cfg}(R:c.Ok){q:Int}(hq:af c.pg q=true)(W:World):Calls Tryz.prog 47 #[.agg c.cells,.int .i64 q] W (aF W (.int .i64 (c.us+32 * q))):=by
 have:=JZ c.wk c.cp c.pg c.st c.tr c.wt c.ck c.pr c.ca c.bi c.ba W q R
 rw[show j7 c.cp c.pg c.st c.ca c.bi q=c.us+32 * q from by unfold j7;rw[if_pos (ag.1 hq)];rfl] at this
 exact this
theorem EZ {c:Cfg}(R:c.Ok){ws us:List Int}(hlen:us.length=ws.length)(H:cB c.pg c.st ws.length)(hl:ws.length≤1000){G1:Int→List Int}(L:Ln c.pg c.st G1 us)(q k f:Int)(hf:∀a,cE c.pg c.st a→q∉G1 a){X:List Int}(hX:(bZ c.pg c.st q k f us).2=X)(g cap:Nat)(w:World)(hw:Ws w g cap us):
 Calls Tryz.prog 148 #[.agg c.cells,.slice (some ⟨g,0,none⟩) ws.length cap,.int .i64 q,.int .i64 k,.int .i64 f] w (fun e w'=>e=.returned (.bool (bZ c.pg c.st q k f us).1)∧Ws w' g cap X∧Turned (fun b=>b=g) w w'):=by
 subst hX
 have:=ET R us (by rw[hlen];exact H) (by omega) L q k f (fun _=>hf) g cap w hw
 rw[hlen] at this
 exact this
theorem E0 {c:Cfg}(R:c.Ok)(ws:List Int)(H:cB c.pg c.st ws.length)(hl:ws.length≤1000){G:Int→List Int}(P:PgW c.pg c.st G ws)(ho:OkW ws)(g cap:Nat)(k:Int)(w:World)(hw:Ws w g cap ws):
 Calls Tryz.prog 130 #[.agg c.cells,.slice (some ⟨g,0,none⟩) ws.length cap,.int .i64 k] w (og w g cap (.tuple #[.int .i64 (dR c.us c.pg c.st k ws).1.1,.bool (dR c.us c.pg c.st k ws).1.2]) (dR c.us c.pg c.st k ws).2):=by
 have hsz:0≤szV k∧szV k≤16:=by unfold szV; (repeat' split)<;>omega
 by_cases hs:ao k=0
 ·rw[mi H c.us hs ws]
  have hz':=kJ.2 hs
  have ZS:=hQQ (fun W=>hz'▸jM k W)
  clear hs hz' hsz
  have hc:=aH w c.cells 27
  have HR:=hQQ R
  have HH:=hQQ H
  have hgl:=hw.lt
  obtain⟨w1,e1⟩:∃w1,w.alloc (.cells c.cells 27)=w1:=⟨_,rfl⟩
  have m1:ae w w1:=by rw[←e1];exact(ae.refl w).alloc _
  rw[e1] at hc
  have HC:=hQQ hc
  have HM:=hQQ m1
  have HW:=hQQ (hw.more m1)
  have x2:w1.cell? ⟨w.heap.size,2,none⟩=some (.int .i64 c.pg):=aB hc (ae.refl _) rfl
  have X2:=hQQ x2
  have pg1:=R.pg1
  have pg2:=R.pg2
  clear x2 m1 hw R H hc
  go_enter Tryz.func130,Tryz.ntmps130
  go_wp2_with fail
  clear e1
  refine(ZS.o _).mono ?_
  rintro e w2 ⟨rfl,h2⟩
  have FIN:Hq (Ws w2 g cap ws∧Turned (fun b=>b=g) w w2):=hQQ ⟨HW.o.more h2,turned_more (HM.o.trans h2)⟩
  clear h2
  go_wp2_with fail
  go_ret2
  exact⟨rfl,FIN.o.1,FIN.o.2⟩
 have hk4:=eK hs
 have hsl:=dN k
 have hs1:(szV k==0)=false:=by
  have:szV k≠0:=fun e=>hs (kJ.1 e)
  simpa using this
 have FI:=hQQ (fun W (hW:Ws W g cap ws)=>rO R ws H hl P.ln g cap k W hW)
 have FD:=hQQ (fun W (hW:Ws W g cap ws)=>zF R ws H.toPgIn hl g cap 1 1 W hW)
 have hfb:=oc H k (ao k).toNat ws 1
 have ZS:=hQQ (fun W=>jM k W)
 have YS:=hQQ (fun W=>vB k W)
 have qk:IntKind.i64.wrap (k+1)=k+1:=am (by omega) (by omega)
 have UB:=hQQ (eS R)
 have HO:=hQQ ho
 have HP:=hQQ P
 by_cases hx:bB c.pg c.st k (ao k).toNat 1 ws= -1
 ·by_cases hy:dD c.pg c.st 1 1 ws= -1
  ·rw[mj H c.us hs hx hy]
   rw[hx] at FI
   rw[hy] at FD
   clear hx hy hfb ho P
   have hc:=aH w c.cells 27
   have HR:=hQQ R
   have HH:=hQQ H
   have hgl:=hw.lt
   obtain⟨w1,e1⟩:∃w1,w.alloc (.cells c.cells 27)=w1:=⟨_,rfl⟩
   have m1:ae w w1:=by rw[←e1];exact(ae.refl w).alloc _
   rw[e1] at hc
   have HC:=hQQ hc
   have HM:=hQQ m1
   have HW:=hQQ (hw.more m1)
   have x2:w1.cell? ⟨w.heap.size,2,none⟩=some (.int .i64 c.pg):=aB hc (ae.refl _) rfl
   have X2:=hQQ x2
   have pg1:=R.pg1
   have pg2:=R.pg2
   clear x2 m1 hw R H hc
   go_enter Tryz.func130,Tryz.ntmps130
   go_wp2_with fail
   clear e1
   refine(ZS.o _).mono ?_
   rintro e w2 ⟨rfl,h2⟩
   have HL2:=hQQ (h2.block HC.o)
   go_wp2_with (first|(refine aA rfl rfl rfl HL2.o (by kernel_rfl) ?_)|(refine aA rfl rfl rfl HL2.o (by kernel_rfl) ?_))
   refine(FI.o _ (HW.o.more h2)).mono ?_
   rintro e w3 ⟨rfl,h3⟩
   have M3:=hQQ (h2.trans h3)
   have HL3:=hQQ (M3.o.block HC.o)
   clear h2 h3
   go_wp2_with (first|(refine aA rfl rfl rfl HL3.o (by kernel_rfl) ?_)|(refine aA rfl rfl rfl HL3.o (by kernel_rfl) ?_))
   refine(FD.o _ (HW.o.more M3.o)).mono ?_
   rintro e w4 ⟨rfl,h4⟩
   have FIN:Hq (Ws w4 g cap ws∧Turned (fun b=>b=g) w w4):=hQQ ⟨HW.o.more (M3.o.trans h4),turned_more (HM.o.trans (M3.o.trans h4))⟩
   clear h4
   go_wp2_with fail
   go_ret2
   exact⟨rfl,FIN.o.1,FIN.o.2⟩
  ·obtain⟨G1,G2,V1,X,hyp,hk0,ht,T,n1,L1,M,hg,_⟩:=qg H c.us hs P rfl hx rfl hy
   rw[hg]
   rw[hx] at FI
   obtain⟨q,hq⟩:∃q,dD c.pg c.st 1 1 ws=q:=⟨_,rfl⟩
   rw[hq] at FD hyp hk0 ht T M hg hy⊢
   have hb0:=T.bit q hyp
   rw[if_pos (by omega)] at hb0
   have hq1:=ag.1 hyp
   have pgb:=R.pg2
   have TK:=hQQ (fun W (hW:Ws W g cap ws)=>by have:=zG R ws H.toPgIn hl g cap q 1 (k+1) (by unfold W64;omega) W hW;rw[ht] at this;exact this)
   have d0:decide (q<0)=false:=by simp;omega
   have HQ:=hQQ hyp
   have hfz:=qa hs
   clear hq hx hy hfb ho P hk0 ht T hg
   have hc:=aH w c.cells 27
   have HR:=hQQ R
   have HH:=hQQ H
   have hgl:=hw.lt
   obtain⟨w1,e1⟩:∃w1,w.alloc (.cells c.cells 27)=w1:=⟨_,rfl⟩
   have m1:ae w w1:=by rw[←e1];exact(ae.refl w).alloc _
   rw[e1] at hc
   have HC:=hQQ hc
   have HM:=hQQ m1
   have HW:=hQQ (hw.more m1)
   have x2:w1.cell? ⟨w.heap.size,2,none⟩=some (.int .i64 c.pg):=aB hc (ae.refl _) rfl
   have X2:=hQQ x2
   have pg1:=R.pg1
   have pg2:=R.pg2
   clear x2 m1 hw R H hc
   obtain⟨_,⟨q2,q3,_⟩,q4,q5,_⟩:=cG HH.o.toPgIn HQ.o
   obtain⟨b1,hb1⟩:∃b:Nat,cA c.pg c.st q=(b:Int):=⟨(cA c.pg c.st q).toNat,by omega⟩
   obtain⟨b2,hb2⟩:∃b:Nat,bA c.pg c.st q=(b:Int):=⟨(bA c.pg c.st q).toNat,by omega⟩
   have l1:b1<ws.length:=by omega
   have l2:b2<ws.length:=by omega
   have P1:=hQQ ((pI (st:=c.st) HQ.o).trans hb1)
   have P2:=hQQ ((pJ (st:=c.st) HQ.o).trans hb2)
   have l1i:(b1:Int)<ws.length:=by omega
   have l2i:(b2:Int)<ws.length:=by omega
   have n12:b1≠b2:=by
    have:=ag.1 HQ.o
    unfold cA at hb1;unfold bA at hb2;omega
   have HSW:Hq (∀(b f:Int) (us:List Int),ct c.pg c.st q b f us=(us.set b2 b).set b1 f):=hQQ fun b f us=>by unfold ct;rw[hb1,hb2];rfl
   have CCW:Hq (∀us:List Int,aL c.pg c.st us q=us.getD b1 0):=hQQ fun us=>by unfold aL;rw[hb1];rfl
   have CBW:Hq (∀us:List Int,bz c.pg c.st us q=us.getD b2 0):=hQQ fun us=>by unfold bz;rw[hb2];rfl
   have HB1:=hQQ hb1
   have HB2:=hQQ hb2
   have YC:=hQQ (fun W=>P1.o▸jl HR.o q W)
   have YB:=hQQ (fun W=>P2.o▸lf HR.o q W)
   clear hb1 hb2 q2 q3 q4 q5
   have KC:Hq (∀W,Turned (fun b=>b=g) w1 W→W.heap[w.heap.size]?=some (.cells c.cells 27 (0,0))):=hQQ fun W t=>(t.block _ (ac HC.o) (by omega)).trans HC.o
   have hub:=UB.o
   have t2:IntKind.i64.wrap (c.us+32 * q+0)=c.us+32 * q+0:=am (by unfold Cfg.us;omega) (by unfold Cfg.us;omega)
   obtain⟨i,hi⟩:∃i:Int,0=i:=⟨_,rfl⟩
   obtain⟨sz,hsz'⟩:∃sz,szV k=sz:=⟨_,rfl⟩
   have hi0:i * sz=0:=by rw[←hi];omega
   have t1:IntKind.i64.wrap (i * sz)=i * sz:=am (by omega) (by omega)
   have t2:IntKind.i64.wrap (c.us+32 * q+i * sz)=c.us+32 * q+i * sz:=by rw[hi0];exact t2
   rw[show c.us+32 * q=c.us+32 * q+i * sz by omega]
   have AD:=hQQ (pi HR.o HQ.o)
   obtain⟨adr,hadr⟩:∃adr,c.us+32 * q=adr:=⟨_,rfl⟩
   rw[hadr] at AD t2⊢
   rw[hsz'] at ZS hs1
   obtain⟨U,hU⟩:∃U,V1.set b1 (ao k)=U:=⟨_,rfl⟩
   have HUN:Hq (U.length=ws.length):=hQQ (by rw[←hU];simp[n1])
   obtain⟨bt,hbt⟩:∃bt:Int,0=bt:=⟨_,rfl⟩
   obtain⟨f0,hf0⟩:∃f0,ao k=f0:=⟨_,rfl⟩
   obtain⟨nb',hnb⟩:∃nb',eQ 0 0=nb':=⟨_,rfl⟩
   have HBT:Hq (U.getD b2 0=bt):=hQQ (by
    have:=CBW.o V1
    rw[hb0] at this
    rw[←hU,←hbt]
    simp[List.getD,List.getElem?_set_ne n12] at this⊢
    exact this.symm)
   have HCT:Hq (U.getD b1 0=f0):=hQQ (by rw[←hU,←hf0];simp[List.getD,n1,l1])
   have YF:=hQQ (fun W=>(show cO bt (ao k)=i by rw[←hbt,hfz,hi])▸vC bt (ao k) W)
   have YT:=hQQ (fun W=>(show eQ bt i=nb' by rw[←hbt,←hi,hnb])▸EX (x:=bt) i (by rw[←hbt];unfold W64;constructor<;>decide) W)
   have LK:Hq (∀W,Ws W g cap ((U.set b2 nb').set b1 (f0-1))→Calls Tryz.prog 148 #[.agg c.cells,.slice (some ⟨g,0,none⟩) ws.length cap,.int .i64 q,.int .i64 k,.int .i64 (f0-1)] W (fun e w'=>e=.returned (.bool (bZ c.pg c.st q k (f0-1) ((U.set b2 nb').set b1 (f0-1))).1)∧Ws w' g cap X∧Turned (fun b=>b=g) W w')):=hQQ (by
    have e:(U.set b2 nb').set b1 (f0-1)=ct c.pg c.st q (eQ 0 0) (ao k-1) V1:=by rw[←hU,BN n12,HSW.o,hf0,hnb]
    intro W hW
    refine EZ HR.o (by simp[HUN.o]) HH.o hl (by rw[e];exact M.lt) q k (f0-1) M.m1 (by rw[e,←hf0];exact M.eX) g cap W hW)
   have tf:IntKind.i64.wrap (f0-1)=f0-1:=am (by omega) (by omega)
   have NV:Hq (V1.length=ws.length):=hQQ n1
   rw[hf0] at YS YF
   have HU:=hQQ hU
   rw[hf0] at HU
   clear hi hi0 hsz hsz' hadr hU hbt hf0 hnb hb0 n1 L1 M hfz hub hq1 hyp hk4 hs hsl
   go_enter Tryz.func130,Tryz.ntmps130
   go_wp2_with fail
   clear e1
   refine(ZS.o _).mono ?_
   rintro e w2 ⟨rfl,h2⟩
   have HL2:=hQQ (h2.block HC.o)
   go_wp2_with (first|(refine aA rfl rfl rfl HL2.o (by kernel_rfl) ?_)|(refine aA rfl rfl rfl HL2.o (by kernel_rfl) ?_))
   refine(FI.o _ (HW.o.more h2)).mono ?_
   rintro e w3 ⟨rfl,h3⟩
   have M3:=hQQ (h2.trans h3)
   have HL3:=hQQ (M3.o.block HC.o)
   clear h2 h3
   go_wp2_with (first|(refine aA rfl rfl rfl HL3.o (by kernel_rfl) ?_)|(refine aA rfl rfl rfl HL3.o (by kernel_rfl) ?_))
   refine(FD.o _ (HW.o.more M3.o)).mono ?_
   rintro e w4 ⟨rfl,h4⟩
   have M4:=hQQ (M3.o.trans h4)
   have HL4:=hQQ (M4.o.block HC.o)
   clear h4
   go_wp2_with (first|(refine aA rfl rfl rfl HL4.o (by kernel_rfl) ?_)|(refine aA rfl rfl rfl HL4.o (by kernel_rfl) ?_))
   refine(TK.o _ (HW.o.more M4.o)).mono ?_
   rintro e wa ⟨rfl,hxa,hta⟩
   have Xa:=hQQ hxa
   have Ta:Hq (Turned (fun b=>b=g) w1 wa):=hQQ ((turned_more M4.o).trans hta)
   have HLa:=hQQ (KC.o _ Ta.o)
   clear hxa hta
   go_wp2_with (first|(refine aA rfl rfl rfl HLa.o (by kernel_rfl) ?_)|(refine aA rfl rfl rfl HLa.o (by kernel_rfl) ?_))
   refine(YC.o _).mono ?_
   rintro e wb ⟨rfl,hb⟩
   have Xb:=hQQ (Xa.o.more hb)
   have Tb:Hq (Turned (fun b=>b=g) w1 wb):=hQQ (Ta.o.trans (turned_more hb))
   clear hb
   go_wp2_with fail
   refine(YS.o _).mono ?_
   rintro e wc ⟨rfl,hc⟩
   have Xc:=hQQ (Xb.o.more hc)
   have Tc:Hq (Turned (fun b=>b=g) w1 wc):=hQQ (Tb.o.trans (turned_more hc))
   clear hc
   have c5:=Xc.o.cell (i:=b1) (by rw[NV.o];exact l1)
   have f5:=Xc.o.froz b1
   have l5:=Xc.o.lt
   obtain⟨w5,e5⟩:∃w5,World.setCell wc ⟨g,b1,none⟩ (.int .i64 f0)=w5:=⟨_,rfl⟩
   have X5:Hq (Ws w5 g cap (V1.set b1 f0)):=hQQ (by rw[←e5];exact Xc.o.set (by rw[NV.o];exact l1) _)
   have T5:Hq (Turned (fun b=>b=g) w1 w5):=hQQ (by rw[←e5];exact Turned.setCell Tc.o _ _ (fun _=>rfl))
   have X5:Hq (Ws w5 g cap U):=hQQ (by rw[←HU.o];exact X5.o)
   go_wp2_with fail
   clear c5 f5 l5 e5
   -- the words U,at w5: X5,T5;its bits bt,its count f0;i the first open one
   have HL5:=hQQ (KC.o _ T5.o)
   have x5:w5.cell? ⟨g,b2,none⟩=some (.int .i64 bt):=by rw[←HBT.o];exact X5.o.cell (by rw[HUN.o];exact l2)
   refine au 9 (by kernel_rfl) (by kernel_rfl) ?_
   simp only[List.take_succ_cons,List.take_zero,List.drop_succ_cons,List.drop_zero]
   iterate 1
    with_reducible refine wpQuiet_step (fun K hK=>?_)
    go_simp
    first
    |(refine hK _ ?_;clear hK K)
    |(apply Exists.intro
      refine⟨fun W hW=>?_,hK _ ?_⟩
      first
      |(go_simp;try rfl)
      clear hK K)
   refine ai rfl 27 _ rfl _ rfl 27 _ _ _ (fun W hW=>hW.block HL5.o) Tryz.underlying27 rfl (by kernel_rfl) ?_
   iterate 7
    with_reducible refine wpQuiet_step (fun K hK=>?_)
    go_simp
    first
    |(refine hK _ ?_;clear hK K)
    |(apply Exists.intro
      refine⟨fun W hW=>?_,hK _ ?_⟩
      first
      |(go_at_call 52;exact Calls.more hW (YB.o W))
      |(go_at_call 50;exact Calls.more hW (YS.o W))
      |(go_at_call 146;exact Calls.more hW (YF.o W))
      |(have x5':=hW.cell x5;go_simp;try rfl)
      clear hK K)
   refine wpQuiet_nil ?_
   intro w6 h6
   have T6:Hq (Turned (fun b=>b=g) w1 w6):=hQQ (T5.o.trans (turned_more h6))
   have X6:=hQQ (X5.o.more h6)
   have x6:=h6.cell x5
   have HL6:=hQQ (h6.block HL5.o)
   clear h6 x5
   go_wp2_with fail
   refine au 13 (by kernel_rfl) (by kernel_rfl) ?_
   simp only[List.take_succ_cons,List.take_zero,List.drop_succ_cons,List.drop_zero]
   iterate 1
    with_reducible refine wpQuiet_step (fun K hK=>?_)
    go_simp
    first
    |(refine hK _ ?_;clear hK K)
    |(apply Exists.intro
      refine⟨fun W hW=>?_,hK _ ?_⟩
      first
      |(go_simp;try rfl)
      clear hK K)
   refine ai rfl 27 _ rfl _ rfl 27 _ _ _ (fun W hW=>hW.block HL6.o) Tryz.underlying27 rfl (by kernel_rfl) ?_
   iterate 3
    with_reducible refine wpQuiet_step (fun K hK=>?_)
    go_simp
    first
    |(refine hK _ ?_;clear hK K)
    |(apply Exists.intro
      refine⟨fun W hW=>?_,hK _ ?_⟩
      first
      |(go_at_call 52;exact Calls.more hW (YB.o W))
      |(go_simp;try rfl)
      clear hK K)
   refine ai rfl 27 _ rfl _ rfl 27 _ _ _ (fun W hW=>hW.block HL6.o) Tryz.underlying27 rfl (by kernel_rfl) ?_
   iterate 7
    with_reducible refine wpQuiet_step (fun K hK=>?_)
    go_simp
    first
    |(refine hK _ ?_;clear hK K)
    |(apply Exists.intro
      refine⟨fun W hW=>?_,hK _ ?_⟩
      first
      |(go_at_call 52;exact Calls.more hW (YB.o W))
      |(go_at_call 147;exact Calls.more hW (YT.o W))
      |(have x6':=hW.cell x6;go_simp;try rfl)
      clear hK K)
   refine wpQuiet_nil ?_
   intro w7 h7
   have T7:Hq (Turned (fun b=>b=g) w1 w7):=hQQ (T6.o.trans (turned_more h7))
   have X7:=hQQ (X6.o.more h7)
   clear h7 x6
   have c8:=X7.o.cell (i:=b2) (by rw[HUN.o];exact l2)
   have f8:=X7.o.froz b2
   have l8:=X7.o.lt
   obtain⟨w8,e8⟩:∃w8,World.setCell w7 ⟨g,b2,none⟩ (.int .i64 nb')=w8:=⟨_,rfl⟩
   have X8:Hq (Ws w8 g cap (U.set b2 nb')):=hQQ (by rw[←e8];exact X7.o.set (by rw[HUN.o];exact l2) _)
   have T8:Hq (Turned (fun b=>b=g) w1 w8):=hQQ (by rw[←e8];exact Turned.setCell T7.o _ _ (fun _=>rfl))
   have HL8:=hQQ (KC.o _ T8.o)
   go_wp2_with (first|(refine aA rfl rfl rfl HL8.o (by kernel_rfl) ?_)|(refine aA rfl rfl rfl HL8.o (by kernel_rfl) ?_))
   clear c8 f8 l8 e8
   refine(YC.o _).mono ?_
   rintro e w9 ⟨rfl,h9⟩
   have T9:Hq (Turned (fun b=>b=g) w1 w9):=hQQ (T8.o.trans (turned_more h9))
   have X9:=hQQ (X8.o.more h9)
   clear h9
   have x9:w9.cell? ⟨g,b1,none⟩=some (.int .i64 f0):=by
    have:=X9.o.cell (i:=b1) (by simp[HUN.o];exact l1)
    rw[this];congr 2
    rw[←HCT.o];simp[List.getD,List.getElem?_set_ne (Ne.symm n12)]
   have c10:=X9.o.cell (i:=b1) (by simp[HUN.o];exact l1)
   have f10:=X9.o.froz b1
   have l10:=X9.o.lt
   obtain⟨w10,e10⟩:∃w10,World.setCell w9 ⟨g,b1,none⟩ (.int .i64 (f0-1))=w10:=⟨_,rfl⟩
   have X10:Hq (Ws w10 g cap ((U.set b2 nb').set b1 (f0-1))):=hQQ (by rw[←e10];exact X9.o.set (by simp[HUN.o];exact l1) _)
   have T10:Hq (Turned (fun b=>b=g) w1 w10):=hQQ (by rw[←e10];exact Turned.setCell T9.o _ _ (fun _=>rfl))
   clear c10
   have HL10:=hQQ (KC.o _ T10.o)
   go_wp2_with fail
   clear x9 f10 l10 e10
   have x10:w10.cell? ⟨g,b1,none⟩=some (.int .i64 (f0-1)):=by
    have:=X10.o.cell (i:=b1) (by simp[HUN.o];exact l1)
    rw[this];congr 2
    simp[List.getD,HUN.o,l1]
   refine au 10 (by kernel_rfl) (by kernel_rfl) ?_
   simp only[List.take_succ_cons,List.take_zero,List.drop_succ_cons,List.drop_zero]
   refine ai rfl 27 _ rfl _ rfl 27 _ _ _ (fun W hW=>hW.block HL10.o) Tryz.underlying27 rfl (by kernel_rfl) ?_
   iterate 4
    with_reducible refine wpQuiet_step (fun K hK=>?_)
    go_simp
    first
    |(refine hK _ ?_;clear hK K)
    |(apply Exists.intro
      refine⟨fun W hW=>?_,hK _ ?_⟩
      first
      |(go_simp;try rfl)
      clear hK K)
   refine ai rfl 27 _ rfl _ rfl 27 _ _ _ (fun W hW=>hW.block HL10.o) Tryz.underlying27 rfl (by kernel_rfl) ?_
   iterate 4
    with_reducible refine wpQuiet_step (fun K hK=>?_)
    go_simp
    first
    |(refine hK _ ?_;clear hK K)
    |(apply Exists.intro
      refine⟨fun W hW=>?_,hK _ ?_⟩
      first
      |(go_at_call 48;exact Calls.more hW (YC.o W))
      |(have xc':=hW.cell x10;go_simp;try rfl)
      clear hK K)
   refine wpQuiet_nil ?_
   intro w11 h11
   have T11:Hq (Turned (fun b=>b=g) w1 w11):=hQQ (T10.o.trans (turned_more h11))
   have X11:=hQQ (X10.o.more h11)
   clear h11 x10
   go_wp2_with fail
   refine(LK.o w11 X11.o).mono ?_
   rintro e w12 ⟨rfl,hx12,ht12⟩
   have X12:=hQQ hx12
   have T12:Hq (Turned (fun b=>b=g) w1 w12):=hQQ (T11.o.trans ht12)
   have HL12:=hQQ (KC.o _ T12.o)
   clear hx12 ht12
   go_wp2_with (first|(refine aA rfl rfl rfl HL12.o (by kernel_rfl) ?_)|(refine aA rfl rfl rfl HL12.o (by kernel_rfl) ?_))
   refine(AD.o w12).mono ?_
   rintro e w13 ⟨rfl,h13⟩
   have X13:=hQQ (X12.o.more h13)
   have T13:Hq (Turned (fun b=>b=g) w1 w13):=hQQ (T12.o.trans (turned_more h13))
   clear h13
   go_wp2_with fail
   refine(ZS.o w13).mono ?_
   rintro e w14 ⟨rfl,h14⟩
   have FIN:Hq (Ws w14 g cap X∧Turned (fun b=>b=g) w w14):=hQQ ⟨X13.o.more h14,(turned_more HM.o).trans (T13.o.trans (turned_more h14))⟩
   clear h14
   go_wp2_with fail
   go_ret2
   exact⟨rfl,FIN.o.1,FIN.o.2⟩
 ·obtain⟨x,hxx⟩:∃x,bB c.pg c.st k (ao k).toNat 1 ws=x:=⟨_,rfl⟩
  rw[hxx] at FI hfb hx
  obtain⟨j,G1,G2,V1,X,hyp,hk0,hc1,_,hj1,hj2,hj3,M,hg,_⟩:=qe H c.us hs P rfl hxx hx
  rw[hg]
  obtain⟨q,hq⟩:∃q,x=q:=⟨_,rfl⟩
  rw[hq] at FI hyp hk0 hc1 hj1 hj3 M⊢
  have hq1:=ag.1 hyp
  have pgb:=R.pg2
  have hcb:=M.o1.cnt H hyp
  have hbb:=M.o1.bit H hyp
  have UL:=hQQ (fun W (hW:Ws W g cap ws)=>by have:=qm R ws H hl P.ln q k (aL c.pg c.st ws q) g cap W hW;rw[M.eu] at this;exact this)
  have d0:decide (q<0)=false:=by simp;omega
  have HQ:=hQQ hyp
  have HWB:=hQQ (mR ho (bA c.pg c.st q))
  have hkc:=(P.f.cnt q hyp (by omega)).2
  have hkd:=dN (aj c.pg c.st ws q-1)
  clear hq hxx hx hfb ho P hk0 hg
  have hc:=aH w c.cells 27
  have HR:=hQQ R
  have HH:=hQQ H
  have hgl:=hw.lt
  obtain⟨w1,e1⟩:∃w1,w.alloc (.cells c.cells 27)=w1:=⟨_,rfl⟩
  have m1:ae w w1:=by rw[←e1];exact(ae.refl w).alloc _
  rw[e1] at hc
  have HC:=hQQ hc
  have HM:=hQQ m1
  have HW:=hQQ (hw.more m1)
  have x2:w1.cell? ⟨w.heap.size,2,none⟩=some (.int .i64 c.pg):=aB hc (ae.refl _) rfl
  have X2:=hQQ x2
  have pg1:=R.pg1
  have pg2:=R.pg2
  clear x2 m1 hw R H hc
  obtain⟨_,⟨q2,q3,_⟩,q4,q5,_⟩:=cG HH.o.toPgIn HQ.o
  obtain⟨b1,hb1⟩:∃b:Nat,cA c.pg c.st q=(b:Int):=⟨(cA c.pg c.st q).toNat,by omega⟩
  obtain⟨b2,hb2⟩:∃b:Nat,bA c.pg c.st q=(b:Int):=⟨(bA c.pg c.st q).toNat,by omega⟩
  have l1:b1<ws.length:=by omega
  have l2:b2<ws.length:=by omega
  have P1:=hQQ ((pI (st:=c.st) HQ.o).trans hb1)
  have P2:=hQQ ((pJ (st:=c.st) HQ.o).trans hb2)
  have l1i:(b1:Int)<ws.length:=by omega
  have l2i:(b2:Int)<ws.length:=by omega
  have n12:b1≠b2:=by
   have:=ag.1 HQ.o
   unfold cA at hb1;unfold bA at hb2;omega
  have HSW:Hq (∀(b f:Int) (us:List Int),ct c.pg c.st q b f us=(us.set b2 b).set b1 f):=hQQ fun b f us=>by unfold ct;rw[hb1,hb2];rfl
  have CCW:Hq (∀us:List Int,aL c.pg c.st us q=us.getD b1 0):=hQQ fun us=>by unfold aL;rw[hb1];rfl
  have CBW:Hq (∀us:List Int,bz c.pg c.st us q=us.getD b2 0):=hQQ fun us=>by unfold bz;rw[hb2];rfl
  have HB1:=hQQ hb1
  have HB2:=hQQ hb2
  have YC:=hQQ (fun W=>P1.o▸jl HR.o q W)
  have YB:=hQQ (fun W=>P2.o▸lf HR.o q W)
  clear hb1 hb2 q2 q3 q4 q5
  have KC:Hq (∀W,Turned (fun b=>b=g) w1 W→W.heap[w.heap.size]?=some (.cells c.cells 27 (0,0))):=hQQ fun W t=>(t.block _ (ac HC.o) (by omega)).trans HC.o
  have hub:=UB.o
  obtain⟨i,hi⟩:∃i:Int,(j:Int)=i:=⟨_,rfl⟩
  rw[hi] at hj1 hj2 M⊢
  have hi2:0≤i∧i≤31:=by omega
  obtain⟨sz,hsz'⟩:∃sz,szV k=sz:=⟨_,rfl⟩
  rw[hsz'] at ZS hs1 hsz⊢
  have hb1:0≤i * sz:=Int.mul_nonneg hi2.1 hsz.1
  have hb2:i * sz≤31 * 16:=Int.mul_le_mul hi2.2 hsz.2 hsz.1 (by omega)
  have t1:IntKind.i64.wrap (i * sz)=i * sz:=am (by omega) (by omega)
  have t2:IntKind.i64.wrap (c.us+32 * q+i * sz)=c.us+32 * q+i * sz:=am (by unfold Cfg.us;omega) (by unfold Cfg.us;omega)
  have AD:=hQQ (pi HR.o HQ.o)
  obtain⟨adr,hadr⟩:∃adr,c.us+32 * q=adr:=⟨_,rfl⟩
  rw[hadr] at AD t2⊢
  obtain⟨U,hU⟩:∃U,V1=U:=⟨_,rfl⟩
  rw[hU] at UL M hcb hbb
  have HUN:Hq (U.length=ws.length):=hQQ M.nu
  obtain⟨bt,hbt⟩:∃bt:Int,bz c.pg c.st ws q=bt:=⟨_,rfl⟩
  obtain⟨f0,hf0⟩:∃f0,aL c.pg c.st ws q=f0:=⟨_,rfl⟩
  have HWB':Hq (W64 bt):=hQQ (by rw[←hbt];exact HWB.o)
  rw[hbt] at hj1 hj3 M hbb
  rw[hf0] at M hcb hc1 hkc UL
  obtain⟨nb',hnb⟩:∃nb',eQ bt i=nb':=⟨_,rfl⟩
  rw[hnb] at M
  have HBT:Hq (U.getD b2 0=bt):=hQQ (by rw[←CBW.o U];exact hbb)
  have HCT:Hq (U.getD b1 0=f0):=hQQ (by rw[←CCW.o U];exact hcb)
  have xw1:ws.getD b1 0=f0:=by rw[←CCW.o ws];exact hf0
  have XW1:=hQQ xw1
  have YF:=hQQ (fun W=>hj1▸vC bt (ao k) W)
  have YT:=hQQ (fun W=>hnb▸EX (x:=bt) i HWB'.o W)
  have LK:Hq (∀W,Ws W g cap ((U.set b2 nb').set b1 (f0-1))→Calls Tryz.prog 148 #[.agg c.cells,.slice (some ⟨g,0,none⟩) ws.length cap,.int .i64 q,.int .i64 k,.int .i64 (f0-1)] W (fun e w'=>e=.returned (.bool (bZ c.pg c.st q k (f0-1) ((U.set b2 nb').set b1 (f0-1))).1)∧Ws w' g cap X∧Turned (fun b=>b=g) W w')):=hQQ (by
   have e:(U.set b2 nb').set b1 (f0-1)=ct c.pg c.st q nb' (f0-1) U:=by rw[HSW.o]
   intro W hW
   refine EZ HR.o (by simp[HUN.o]) HH.o hl (by rw[e];exact M.lt) q k (f0-1) M.m1 (by rw[e];exact M.eX) g cap W hW)
  have tf:IntKind.i64.wrap (f0-1)=f0-1:=am (by omega) (by omega)
  obtain⟨slk,hslk⟩:∃slk,ao k=slk:=⟨_,rfl⟩
  rw[hslk] at YS YF
  clear hi hsz hsz' hadr hU hbt hf0 hnb M hub hq1 hyp hk4 hs hsl hj1 hj2 hj3 hb1 hb2 hi2 hcb hbb hc1 hslk xw1 HWB hkc hkd
  go_enter Tryz.func130,Tryz.ntmps130
  go_wp2_with fail
  clear e1
  refine(ZS.o _).mono ?_
  rintro e w2 ⟨rfl,h2⟩
  have HL2:=hQQ (h2.block HC.o)
  go_wp2_with (first|(refine aA rfl rfl rfl HL2.o (by kernel_rfl) ?_)|(refine aA rfl rfl rfl HL2.o (by kernel_rfl) ?_))
  refine(FI.o _ (HW.o.more h2)).mono ?_
  rintro e w3 ⟨rfl,h3⟩
  have M3:=hQQ (h2.trans h3)
  have HL3:=hQQ (M3.o.block HC.o)
  have T3:Hq (Turned (fun b=>b=g) w1 w3):=hQQ (turned_more M3.o)
  have X3:=hQQ (HW.o.more M3.o)
  have x3:w3.cell? ⟨g,b1,none⟩=some (.int .i64 f0):=by rw[←XW1.o];exact X3.o.cell l1
  clear h2 h3
  go_wp2_with fail
  refine au 10 (by kernel_rfl) (by kernel_rfl) ?_
  simp only[List.take_succ_cons,List.take_zero,List.drop_succ_cons,List.drop_zero]
  refine ai rfl 27 _ rfl _ rfl 27 _ _ _ (fun W hW=>hW.block HL3.o) Tryz.underlying27 rfl (by kernel_rfl) ?_
  iterate 4
   with_reducible refine wpQuiet_step (fun K hK=>?_)
   go_simp
   first
   |(refine hK _ ?_;clear hK K)
   |(apply Exists.intro
     refine⟨fun W hW=>?_,hK _ ?_⟩
     first
     |(go_simp;try rfl)
     clear hK K)
  refine ai rfl 27 _ rfl _ rfl 27 _ _ _ (fun W hW=>hW.block HL3.o) Tryz.underlying27 rfl (by kernel_rfl) ?_
  iterate 4
   with_reducible refine wpQuiet_step (fun K hK=>?_)
   go_simp
   first
   |(refine hK _ ?_;clear hK K)
   |(apply Exists.intro
     refine⟨fun W hW=>?_,hK _ ?_⟩
     first
     |(go_at_call 48;exact Calls.more hW (YC.o W))
     |(have xc':=hW.cell x3;go_simp;try rfl)
     clear hK K)
  refine wpQuiet_nil ?_
  intro w4 h4
  have T4:Hq (Turned (fun b=>b=g) w1 w4):=hQQ (T3.o.trans (turned_more h4))
  have X4:=hQQ (X3.o.more h4)
  clear h4 x3
  go_wp2_with fail
  refine(UL.o w4 X4.o).mono ?_
  rintro e w5 ⟨rfl,hx5,ht5⟩
  have X5:=hQQ hx5
  have T5:Hq (Turned (fun b=>b=g) w1 w5):=hQQ (T4.o.trans ht5)
  clear hx5 ht5
  go_wp2_with fail
  -- the words U,at w5: X5,T5;its bits bt,its count f0;i the first open one
  have HL5:=hQQ (KC.o _ T5.o)
  have x5:w5.cell? ⟨g,b2,none⟩=some (.int .i64 bt):=by rw[←HBT.o];exact X5.o.cell (by rw[HUN.o];exact l2)
  refine au 9 (by kernel_rfl) (by kernel_rfl) ?_
  simp only[List.take_succ_cons,List.take_zero,List.drop_succ_cons,List.drop_zero]
  iterate 1
   with_reducible refine wpQuiet_step (fun K hK=>?_)
   go_simp
   first
   |(refine hK _ ?_;clear hK K)
   |(apply Exists.intro
     refine⟨fun W hW=>?_,hK _ ?_⟩
     first
     |(go_simp;try rfl)
     clear hK K)
  refine ai rfl 27 _ rfl _ rfl 27 _ _ _ (fun W hW=>hW.block HL5.o) Tryz.underlying27 rfl (by kernel_rfl) ?_
  iterate 7
   with_reducible refine wpQuiet_step (fun K hK=>?_)
   go_simp
   first
   |(refine hK _ ?_;clear hK K)
   |(apply Exists.intro
     refine⟨fun W hW=>?_,hK _ ?_⟩
     first
     |(go_at_call 52;exact Calls.more hW (YB.o W))
     |(go_at_call 50;exact Calls.more hW (YS.o W))
     |(go_at_call 146;exact Calls.more hW (YF.o W))
     |(have x5':=hW.cell x5;go_simp;try rfl)
     clear hK K)
  refine wpQuiet_nil ?_
  intro w6 h6
  have T6:Hq (Turned (fun b=>b=g) w1 w6):=hQQ (T5.o.trans (turned_more h6))
  have X6:=hQQ (X5.o.more h6)
  have x6:=h6.cell x5
  have HL6:=hQQ (h6.block HL5.o)
  clear h6 x5
  go_wp2_with fail
  refine au 13 (by kernel_rfl) (by kernel_rfl) ?_
  simp only[List.take_succ_cons,List.take_zero,List.drop_succ_cons,List.drop_zero]
  iterate 1
   with_reducible refine wpQuiet_step (fun K hK=>?_)
   go_simp
   first
   |(refine hK _ ?_;clear hK K)
   |(apply Exists.intro
     refine⟨fun W hW=>?_,hK _ ?_⟩
     first
     |(go_simp;try rfl)
     clear hK K)
  refine ai rfl 27 _ rfl _ rfl 27 _ _ _ (fun W hW=>hW.block HL6.o) Tryz.underlying27 rfl (by kernel_rfl) ?_
  iterate 3
   with_reducible refine wpQuiet_step (fun K hK=>?_)
   go_simp
   first
   |(refine hK _ ?_;clear hK K)
   |(apply Exists.intro
     refine⟨fun W hW=>?_,hK _ ?_⟩
     first
     |(go_at_call 52;exact Calls.more hW (YB.o W))
     |(go_simp;try rfl)
     clear hK K)
  refine ai rfl 27 _ rfl _ rfl 27 _ _ _ (fun W hW=>hW.block HL6.o) Tryz.underlying27 rfl (by kernel_rfl) ?_
  iterate 7
   with_reducible refine wpQuiet_step (fun K hK=>?_)
   go_simp
   first
   |(refine hK _ ?_;clear hK K)
   |(apply Exists.intro
     refine⟨fun W hW=>?_,hK _ ?_⟩
     first
     |(go_at_call 52;exact Calls.more hW (YB.o W))
     |(go_at_call 147;exact Calls.more hW (YT.o W))
     |(have x6':=hW.cell x6;go_simp;try rfl)
     clear hK K)
  refine wpQuiet_nil ?_
  intro w7 h7
  have T7:Hq (Turned (fun b=>b=g) w1 w7):=hQQ (T6.o.trans (turned_more h7))
  have X7:=hQQ (X6.o.more h7)
  clear h7 x6
  have c8:=X7.o.cell (i:=b2) (by rw[HUN.o];exact l2)
  have f8:=X7.o.froz b2
  have l8:=X7.o.lt
  obtain⟨w8,e8⟩:∃w8,World.setCell w7 ⟨g,b2,none⟩ (.int .i64 nb')=w8:=⟨_,rfl⟩
  have X8:Hq (Ws w8 g cap (U.set b2 nb')):=hQQ (by rw[←e8];exact X7.o.set (by rw[HUN.o];exact l2) _)
  have T8:Hq (Turned (fun b=>b=g) w1 w8):=hQQ (by rw[←e8];exact Turned.setCell T7.o _ _ (fun _=>rfl))
  have HL8:=hQQ (KC.o _ T8.o)
  go_wp2_with (first|(refine aA rfl rfl rfl HL8.o (by kernel_rfl) ?_)|(refine aA rfl rfl rfl HL8.o (by kernel_rfl) ?_))
  clear c8 f8 l8 e8
  refine(YC.o _).mono ?_
  rintro e w9 ⟨rfl,h9⟩
  have T9:Hq (Turned (fun b=>b=g) w1 w9):=hQQ (T8.o.trans (turned_more h9))
  have X9:=hQQ (X8.o.more h9)
  clear h9
  have x9:w9.cell? ⟨g,b1,none⟩=some (.int .i64 f0):=by
   have:=X9.o.cell (i:=b1) (by simp[HUN.o];exact l1)
   rw[this];congr 2
   rw[←HCT.o];simp[List.getD,List.getElem?_set_ne (Ne.symm n12)]
  have c10:=X9.o.cell (i:=b1) (by simp[HUN.o];exact l1)
  have f10:=X9.o.froz b1
  have l10:=X9.o.lt
  obtain⟨w10,e10⟩:∃w10,World.setCell w9 ⟨g,b1,none⟩ (.int .i64 (f0-1))=w10:=⟨_,rfl⟩
  have X10:Hq (Ws w10 g cap ((U.set b2 nb').set b1 (f0-1))):=hQQ (by rw[←e10];exact X9.o.set (by simp[HUN.o];exact l1) _)
  have T10:Hq (Turned (fun b=>b=g) w1 w10):=hQQ (by rw[←e10];exact Turned.setCell T9.o _ _ (fun _=>rfl))
  clear c10
  have HL10:=hQQ (KC.o _ T10.o)
  go_wp2_with fail
  clear x9 f10 l10 e10
  have x10:w10.cell? ⟨g,b1,none⟩=some (.int .i64 (f0-1)):=by
   have:=X10.o.cell (i:=b1) (by simp[HUN.o];exact l1)
   rw[this];congr 2
   simp[List.getD,HUN.o,l1]
  refine au 10 (by kernel_rfl) (by kernel_rfl) ?_
  simp only[List.take_succ_cons,List.take_zero,List.drop_succ_cons,List.drop_zero]
  refine ai rfl 27 _ rfl _ rfl 27 _ _ _ (fun W hW=>hW.block HL10.o) Tryz.underlying27 rfl (by kernel_rfl) ?_
  iterate 4
   with_reducible refine wpQuiet_step (fun K hK=>?_)
   go_simp
   first
   |(refine hK _ ?_;clear hK K)
   |(apply Exists.intro
     refine⟨fun W hW=>?_,hK _ ?_⟩
     first
     |(go_simp;try rfl)
     clear hK K)
  refine ai rfl 27 _ rfl _ rfl 27 _ _ _ (fun W hW=>hW.block HL10.o) Tryz.underlying27 rfl (by kernel_rfl) ?_
  iterate 4
   with_reducible refine wpQuiet_step (fun K hK=>?_)
   go_simp
   first
   |(refine hK _ ?_;clear hK K)
   |(apply Exists.intro
     refine⟨fun W hW=>?_,hK _ ?_⟩
     first
     |(go_at_call 48;exact Calls.more hW (YC.o W))
     |(have xc':=hW.cell x10;go_simp;try rfl)
     clear hK K)
  refine wpQuiet_nil ?_
  intro w11 h11
  have T11:Hq (Turned (fun b=>b=g) w1 w11):=hQQ (T10.o.trans (turned_more h11))
  have X11:=hQQ (X10.o.more h11)
  clear h11 x10
  go_wp2_with fail
  refine(LK.o w11 X11.o).mono ?_
  rintro e w12 ⟨rfl,hx12,ht12⟩
  have X12:=hQQ hx12
  have T12:Hq (Turned (fun b=>b=g) w1 w12):=hQQ (T11.o.trans ht12)
  have HL12:=hQQ (KC.o _ T12.o)
  clear hx12 ht12
  go_wp2_with (first|(refine aA rfl rfl rfl HL12.o (by kernel_rfl) ?_)|(refine aA rfl rfl rfl HL12.o (by kernel_rfl) ?_))
  refine(AD.o w12).mono ?_
  rintro e w13 ⟨rfl,h13⟩
  have X13:=hQQ (X12.o.more h13)
  have T13:Hq (Turned (fun b=>b=g) w1 w13):=hQQ (T12.o.trans (turned_more h13))
  clear h13
  go_wp2_with fail
  refine(ZS.o w13).mono ?_
  rintro e w14 ⟨rfl,h14⟩
  have FIN:Hq (Ws w14 g cap X∧Turned (fun b=>b=g) w w14):=hQQ ⟨X13.o.more h14,(turned_more HM.o).trans (T13.o.trans (turned_more h14))⟩
  clear h14
  go_wp2_with fail
  go_ret2
  exact⟨rfl,FIN.o.1,FIN.o.2⟩
def Jl (w:World)(xs:List Int)(e:Ending)(w':World):Prop:=∃a cap,e=.returned (.slice a xs.length cap)∧RowAt w' 3 (xs.map (Value.int .i64)) a cap∧(∀k,fx a k→w.heap.size≤k)∧ae w w'
theorem vE {w:World}{g cap:Nat}{ws xs:List Int}{b l:Int}(hw:Ws w g cap ws)(H:lN b l ws.length)(K:fw ws b l xs):ig w (some ⟨g,(b+1).toNat,none⟩) xs:=by
 by_cases h0:xs= []
 ·exact .inl h0
 ·refine .inr ⟨g,(b+1).toNat,rfl,hw.lt,fun j hj=>?_⟩
  have hf:=K.fit
  have h1:=K.at' j hj
  have:=H.b1;have:=H.hi
  have:=H.top
  have h2:=hw.cell (i:=(b+1).toNat+j) (by omega)
  rw[h2]
  have e:(b+1+(j:Int))=(((b+1).toNat+j:Nat):Int):=by omega
  rw[e] at h1
  have h1:ws.getD ((b+1).toNat+j) 0=xs.getD j 0:=h1
  rw[h1]
theorem pj (ws:List Int)(hl:ws.length≤1000){b l:Int}(H:lN b l ws.length){xs:List Int}(K:fw ws b l xs)(hb2:b+1<ws.length)(g cap:Nat)(w:World)(hw:Ws w g cap ws):
 Calls Tryz.prog 100 #[.slice (some ⟨g,0,none⟩) ws.length cap,.int .i64 b,.int .i64 l] w (Jl w xs):=by
 have b1:=H.b1
 have l0:=H.l0
 have top:=H.top;have hhi:=H.hi
 have hf:=K.fit
 have hc:=K.cnt
 obtain⟨m,rfl⟩:∃m:Nat,b=(m:Int):=⟨b.toNat,by omega⟩
 have hcap:ws.length≤cap:=by obtain⟨_,_,h,_⟩:=hw;exact h
 have hm:m<ws.length:=by omega
 have x0:=hw.cell hm
 have e0:ws.getD m 0=(xs.length:Int):=hc
 rw[e0] at x0
 have d0:decide ((m:Int)<1)=false:=by simp;omega
 have d0b:decide (m<1)=false:=by simp;omega
 have d1:decide (l<0)=false:=by simp;omega
 have d2:decide ((xs.length:Int)<0)=false:=by simp
 have d3:decide (l<(xs.length:Int))=false:=by simp;omega
 have d4:m<cap:=by omega
 have q1:IntKind.i64.wrap ((m:Int)+1)=(m:Int)+1:=am (by omega) (by omega)
 have q2:IntKind.i64.wrap ((m:Int)+1+(xs.length:Int))=(m:Int)+1+(xs.length:Int):=am (by omega) (by omega)
 have hne:¬(cap=m+1):=by omega
 have hne2:(cap==m+1)=false:=by simpa using hne
 have KW0:=hQQ (show ig w (some ⟨g,m+1,none⟩) xs from by have:=vE hw H K;rwa [show((m:Int)+1).toNat=m+1 by omega] at this)
 have hlm:xs.length≤1000000:=by omega
 have x1:(w.alloc (.cells #[] 3)).cell? ⟨g,m,none⟩=some (.int .i64 (xs.length:Int)):=((ae.refl w).alloc _).cell x0
 go_enter Tryz.func100,Tryz.ntmps100
 go_wp2_with (at_builtin;go_must (refine sX (zs:=xs) (a:=some ⟨g,m+1,none⟩) (cap:=cap-(m+1)) rfl _ _ rfl rfl (by show Value.slice _ (m+1+xs.length-(m+1)) _=_;rw[Nat.add_sub_cancel_left]) KW0.o hlm ?_;intro a9 cap9 w9 hr9 hn9 hm9))
 go_ret
 exact⟨_,_,rfl,hr9,hn9,hm9⟩
theorem vF (ws:List Int)(hl:ws.length≤1000){b l:Int}(H:lN b l ws.length){xs:List Int}(K:fw ws b l xs)(hb2:b+1<ws.length)(x:Int)(g cap:Nat)(w:World)(hw:Ws w g cap ws):
 Calls Tryz.prog 135 #[.slice (some ⟨g,0,none⟩) ws.length cap,.int .i64 b,.int .i64 l,.int .i64 x] w (og w g cap (.bool (cm b l x ws).1) (cm b l x ws).2):=by
 have b1:=H.b1
 have l0:=H.l0
 have hhi:=H.hi
 have hf:=K.fit
 have hk:=K.kept
 have AL:=hQQ (fun W (h:ae w W)=>pj ws hl H K hb2 g cap W (hw.more h))
 have HW:=hQQ hw
 unfold cm
 simp only[hk]
 obtain⟨m,rfl⟩:∃m:Nat,b=(m:Int):=⟨b.toNat,by omega⟩
 have hcap:ws.length≤cap:=by obtain⟨_,_,h,_⟩:=hw;exact h
 have d0:decide ((m:Int)<1)=false:=by simp;omega
 have d0b:decide (m<1)=false:=by simp;omega
 have d1:decide (l<0)=false:=by simp;omega
 by_cases hlt:(xs.length:Int)<l
 ·rw[if_pos hlt]
  have d2:decide (l≤(xs.length:Int))=false:=by simp;omega
  have hi1:m+1+xs.length<ws.length:=by omega
  have hi2:m<ws.length:=by omega
  have q1:IntKind.i64.wrap ((m:Int)+1)=(m:Int)+1:=am (by omega) (by omega)
  have q2:IntKind.i64.wrap ((m:Int)+1+(xs.length:Int))=(m:Int)+1+(xs.length:Int):=am (by omega) (by omega)
  have q3:IntKind.i64.wrap ((xs.length:Int)+1)=(xs.length:Int)+1:=am (by omega) (by omega)
  have e1:((m:Int)+1+(xs.length:Int)).toNat=m+1+xs.length:=by omega
  have e2:((m:Int)).toNat=m:=by omega
  rw[e1,e2]
  have FIN:Hq (∀W,ae w W→Ws ((W.setCell ⟨g,m+1+xs.length,none⟩ (.int .i64 x)).setCell ⟨g,m,none⟩ (.int .i64 ((xs.length:Int)+1))) g cap ((ws.set (m+1+xs.length) x).set m ((xs.length:Int)+1))∧Turned (fun k=>k=g) w ((W.setCell ⟨g,m+1+xs.length,none⟩ (.int .i64 x)).setCell ⟨g,m,none⟩ (.int .i64 ((xs.length:Int)+1)))):=hQQ fun W hW =>
   ⟨((hw.more hW).set hi1 x).set (by simp;exact hi2) _,Turned.setCell (S:=fun k=>k=g) (Turned.setCell (S:=fun k=>k=g) (Turned.mono hW (fun _ _ q=>q.elim)) ⟨g,m+1+xs.length,none⟩ _ (fun _=>rfl)) ⟨g,m,none⟩ _ (fun _=>rfl)⟩
  have FZ:=hQQ (fun W (h:ae w W)=>(hw.more h).froz)
  have CE:=hQQ (fun W (h:ae w W)=>(hw.more h).cell hi1)
  have CE2:=hQQ (fun W (h:ae w W)=>((hw.more h).set hi1 x).cell (i:=m) (by simp;exact hi2))
  have FZ2:=hQQ (fun W (h:ae w W)=>((hw.more h).set hi1 x).froz)
  clear hw
  go_enter Tryz.func135,Tryz.ntmps135
  go_wp2_with fail
  refine(AL.o _ (ae.refl w)).mono ?_
  rintro e w1 ⟨a1,c1,rfl,hr1,hn1,hm1⟩
  have x1:=CE.o _ hm1
  have x2:=CE2.o _ hm1
  have y1:=FZ.o _ hm1 (m+1+xs.length)
  have y2:=FZ2.o _ hm1 m
  have F1:=hQQ (FIN.o _ hm1)
  clear hr1 hn1 hm1 FIN CE CE2 FZ FZ2 AL
  go_wp2_with fail
  go_ret
  exact⟨rfl,F1.o.1,F1.o.2⟩
 ·rw[if_neg hlt]
  have d2:decide (l≤(xs.length:Int))=true:=by simp;omega
  have FIN:Hq (∀W,ae w W→og w g cap (.bool false) ws (.returned (.bool false)) W):=hQQ fun W hW=>⟨rfl,hw.more hW,Turned.mono hW (fun _ _ q=>q.elim)⟩
  clear hw
  go_enter Tryz.func135,Tryz.ntmps135
  go_wp2_with fail
  refine(AL.o _ (ae.refl w)).mono ?_
  rintro e w1 ⟨a1,c1,rfl,hr1,hn1,hm1⟩
  have F1:=hQQ (FIN.o _ hm1)
  clear hr1 hn1 hm1 FIN AL
  go_wp2_with fail
  go_ret
  exact F1.o
theorem zI (ws:List Int)(hl:ws.length≤1000){b l:Int}(H:lN b l ws.length){xs:List Int}(K:fw ws b l xs)(hb2:b+1<ws.length)(g cap:Nat)(w:World)(hw:Ws w g cap ws):
 Calls Tryz.prog 128 #[.slice (some ⟨g,0,none⟩) ws.length cap,.int .i64 b,.int .i64 l] w (og w g cap (.tuple #[.int .i64 (dd b l ws).1.1,.bool (dd b l ws).1.2]) (dd b l ws).2):=by
 have b1:=H.b1
 have l0:=H.l0
 have hhi:=H.hi
 have hf:=K.fit
 have hk:=K.kept
 have AL:=hQQ (fun W (h:ae w W)=>pj ws hl H K hb2 g cap W (hw.more h))
 unfold dd
 simp only[hk]
 obtain⟨m,rfl⟩:∃m:Nat,b=(m:Int):=⟨b.toNat,by omega⟩
 have hcap:ws.length≤cap:=by obtain⟨_,_,h,_⟩:=hw;exact h
 by_cases h0:0<(xs.length:Int)
 ·rw[if_pos h0]
  obtain⟨j,hj⟩:∃j:Nat,xs.length=j+1:=⟨xs.length-1,by omega⟩
  have hi2:m<ws.length:=by omega
  have ha:=K.at' j (by omega)
  have e1:wAt ws ((m:Int)+(xs.length:Int))=xs.getD j 0:=by rw[←ha];congr 1;omega
  have d2:decide ((xs.length:Int)=0)=false:=decide_eq_false (by omega)
  have d3:((xs.length:Int)==0)=false:=beq_eq_false_iff_ne.2 (by omega)
  have q3:IntKind.i64.wrap ((xs.length:Int)-1)=(j:Int):=by rw[show(xs.length:Int)-1=(j:Int) by omega];exact am (by omega) (by omega)
  have e2:((m:Int)).toNat=m:=by omega
  have e3:(xs.length:Int)-1=(j:Int):=by omega
  rw[e1,e2,e3]
  have hjl:j<xs.length:=by omega
  obtain⟨y,hy⟩:∃y,xs.getD j 0=y:=⟨_,rfl⟩
  rw[hy]
  have FIN:Hq (∀W,ae w W→Ws (W.setCell ⟨g,m,none⟩ (.int .i64 (j:Int))) g cap (ws.set m (j:Int))∧Turned (fun k=>k=g) w (W.setCell ⟨g,m,none⟩ (.int .i64 (j:Int)))):=hQQ fun W hW =>
   ⟨(hw.more hW).set hi2 _,Turned.setCell (S:=fun k=>k=g) (Turned.mono hW (fun _ _ q=>q.elim)) ⟨g,m,none⟩ _ (fun _=>rfl)⟩
  have FZ:=hQQ (fun W (h:ae w W)=>(hw.more h).froz)
  have CE:=hQQ (fun W (h:ae w W)=>(hw.more h).cell hi2)
  have GL:=hQQ hw.lt
  have HY:=hQQ hy
  have HJ:=hQQ hj
  clear hw e1 ha hy
  go_enter Tryz.func128,Tryz.ntmps128
  go_wp2_with fail
  refine(AL.o _ (ae.refl w)).mono ?_
  rintro e w1 ⟨a1,c1,rfl,hr1,hn1,hm1⟩
  have x1:=CE.o _ hm1
  have y1:=FZ.o _ hm1 m
  have F1:=hQQ (FIN.o _ hm1)
  have RD:Hq (∃g2,a1=some ⟨g2,0,none⟩∧(w1.setCell ⟨g,m,none⟩ (.int .i64 (j:Int))).cell? ⟨g2,j,none⟩=some (.int .i64 y)):=hQQ (by
   have R1:Rw w.heap.size w1 (.slice a1 xs.length c1) xs:=by
    have:=hr1.own hn1
    rw[List.length_map] at this
    exact this
   obtain⟨a2,c2,e2,hr⟩:=R1.reads
   cases e2
   obtain⟨g2,rfl,h1,h2,h3⟩:=hr j hjl
   refine⟨g2,rfl,?_⟩
   have hne:g2≠g:=fun e=>by have:=GL.o;omega
   have hb:=(Turned.setCell (S:=fun k=>k=g) (Turned.refl _ w1) ⟨g,m,none⟩ (.int .i64 (j:Int)) (fun _=>rfl)).block g2 h2 hne
   rw[World.cell?_of_block hb,h3 j hjl,HY.o])
  clear hr1 hn1 hm1 FIN CE FZ AL
  obtain⟨g2,rfl,x2⟩:=RD.o
  go_wp2_with fail
  go_ret2
  exact⟨rfl,F1.o.1,F1.o.2⟩
 ·have hx:xs.length=0:=by omega
  rw[if_neg h0]
  have d2:decide ((xs.length:Int)=0)=true:=decide_eq_true (by omega)
  have d3:((xs.length:Int)==0)=true:=beq_iff_eq.2 (by omega)
  have FIN:Hq (∀W,ae w W→og w g cap (.tuple #[.int .i64 0,.bool false]) ws (.returned (.tuple #[.int .i64 0,.bool false])) W):=hQQ fun W hW=>⟨rfl,hw.more hW,Turned.mono hW (fun _ _ q=>q.elim)⟩
  have HX:=hQQ hx
  clear hw hx h0
  go_enter Tryz.func128,Tryz.ntmps128
  go_wp2_with fail
  refine(AL.o _ (ae.refl w)).mono ?_
  rintro e w1 ⟨a1,c1,rfl,hr1,hn1,hm1⟩
  have F1:=hQQ (FIN.o _ hm1)
  clear hr1 hn1 hm1 FIN AL
  go_wp2_with fail
  go_ret2
  exact F1.o
theorem vG {us pg st a:Int}{ws:List Int}{q k i:Int}{t:Bool}(h:dp us pg st a ws=some (q,k,i,t)):us≤a∧a<us+32 * pg∧(a-us) / 32=q∧(a-us) % 32 / szV k=i:=by
 unfold dp at h
 split at h
 ·rename_i hin
  unfold ij at h
  split at h
  ·cases h
  ·split at h
   ·cases h
   ·simp only[Option.some.injEq,Prod.mk.injEq] at h
    obtain⟨h1,rfl,h3,_⟩:=h
    exact⟨hin.1,hin.2,h1,h3⟩
 ·cases h
theorem BO {pg st:Int}{n:Nat}(H:cB pg st n){q:Int}(hq:af pg q=true)(k x b f:Int){us:List Int}(hn:us.length=n):bD pg st q k x (ct pg st q b f us)=bD pg st q k x us:=by
 have hl:(ct pg st q b f us).length=n:=by simp[ct,hn]
 refine ik (by rw[bJ H.toPgIn,bJ H.toPgIn,hl,hn]) (fun i h0 _=>?_)
 rw[dt H.toPgIn hq k x hl h0,dt H.toPgIn hq k x hn h0,gK H hq b f hn h0]
 by_cases e1:i=bA pg st q
 ·rw[if_pos e1,if_pos e1]
 ·by_cases e2:i=cA pg st q
  ·rw[if_neg e1,if_pos e2,if_neg e1,if_pos e2]
  ·rw[if_neg e1,if_neg e2,if_neg e1,if_neg e2,if_neg e2,if_neg e1]
theorem yp {c:Cfg}(R:c.Ok)(ws:List Int)(H:cB c.pg c.st ws.length)(hl:ws.length≤1000){G:Int→List Int}(P:PgW c.pg c.st G ws)(ho:OkW ws)(g cap:Nat)(ad:Int)(w:World)(hw:Ws w g cap ws):
 Calls Tryz.prog 136 #[.agg c.cells,.slice (some ⟨g,0,none⟩) ws.length cap,.int .i64 ad] w (og w g cap (.bool (fT c.us c.pg c.st ad ws).1) (fT c.us c.pg c.st ad ws).2):=by
 have TK:=hQQ (fun W (hW:Ws W g cap ws)=>li R ws H hl P.f g cap ad W hW)
 cases hy:gU (dp c.us c.pg c.st ad ws) with
 |none =>
  rw[tz H hy]
  have hv:iZ c.us c.pg c.st ad ws=(0,false):=by unfold iZ;rw[hy];rfl
  rw[hv] at TK
  clear hy hv P ho
  have hc:=aH w c.cells 27
  have HR:=hQQ R
  have HH:=hQQ H
  have hgl:=hw.lt
  obtain⟨w1,e1⟩:∃w1,w.alloc (.cells c.cells 27)=w1:=⟨_,rfl⟩
  have m1:ae w w1:=by rw[←e1];exact(ae.refl w).alloc _
  rw[e1] at hc
  have HC:=hQQ hc
  have HM:=hQQ m1
  have HW:=hQQ (hw.more m1)
  have x2:w1.cell? ⟨w.heap.size,2,none⟩=some (.int .i64 c.pg):=aB hc (ae.refl _) rfl
  have X2:=hQQ x2
  have pg1:=R.pg1
  have pg2:=R.pg2
  clear x2 m1 hw R H hc
  go_enter Tryz.func136,Tryz.ntmps136
  go_wp2_with (first|(refine aA rfl rfl rfl HC.o (by kernel_rfl) ?_)|(refine aA rfl rfl rfl HC.o (by kernel_rfl) ?_))
  clear e1
  refine(TK.o _ HW.o).mono ?_
  rintro e w2 ⟨rfl,h2⟩
  have FIN:Hq (Ws w2 g cap ws∧Turned (fun b=>b=g) w w2):=hQQ ⟨HW.o.more h2,turned_more (HM.o.trans h2)⟩
  clear h2
  go_wp2_with fail
  go_ret
  exact⟨rfl,FIN.o.1,FIN.o.2⟩
 |some y =>
  obtain⟨q,k,i⟩:=y
  have hv:iZ c.us c.pg c.st ad ws=(k,true):=by unfold iZ;rw[hy];rfl
  rw[hv] at TK
  obtain⟨hyp,hk0,k0,k4,i0,i1,hb,ha,f00,f01,hA,hB⟩:=mT H c.us P rfl ho hy
  obtain⟨p0,p1,p2,p3⟩:=vG (iE hy)
  have PL:=hQQ (fun W=>jk c.wk c.cp c.pg c.st c.tr c.wt c.ck c.pr c.ca c.bi c.ba W ad R p0 p1)
  have PL:=hQQ (show ∀W,Calls Tryz.prog 65 #[.agg c.cells,.int .i64 ad] W (aF W (.tuple #[.int .i64 ((ad-c.us) / 32),.int .i64 ((ad-c.us) % 32),.bool true])) from PL.o)
  have hwd:0≤(ad-c.us) % 32∧(ad-c.us) % 32<32:=⟨by omega,by omega⟩
  rw[p2] at PL
  generalize (ad-c.us) % 32=wd at PL p3 hwd
  have hsl:=dN k
  obtain⟨z,rfl⟩:∃z:Nat,k=(z:Int):=⟨k.toNat,by omega⟩
  have hsb:=uS (k:=z) (by omega)
  have hq1:=ag.1 hyp
  have pgb:=R.pg2
  have HQ:=hQQ hyp
  have HWB:=hQQ (mR ho (bA c.pg c.st q))
  have UL:=hQQ (fun W (hW:Ws W g cap ws)=>qm R ws H hl P.ln q (z:Int) (aL c.pg c.st ws q) g cap W hW)
  have ZS:=hQQ (fun W=>jM (z:Int) W)
  have YS:=hQQ (fun W=>vB (z:Int) W)
  obtain⟨sz,hsz⟩:∃sz,szV (z:Int)=sz:=⟨_,rfl⟩
  rw[hsz] at hsb p3 ZS
  have t1:wd.tdiv sz=i:=by rw[Int.tdiv_eq_ediv_of_nonneg hwd.1,p3]
  have t5:IntKind.i64.wrap i=i:=am (by omega) (by omega)
  have z0:(sz==0)=false:=by simp;omega
  have z1:decide (sz=0)=false:=by simp;omega
  have z2:(sz== -1)=false:=by simp;omega
  have z3:decide (sz= -1)=false:=by simp;omega
  have z4:¬sz=0:=by omega
  have z5:¬sz= -1:=by omega
  have tf:IntKind.i64.wrap (aL c.pg c.st ws q+1)=aL c.pg c.st ws q+1:=am (by omega) (by omega)
  have hF:=P.f
  clear hv hy ha p0 p1 p2 p3 hb hsz hsb hwd P
  by_cases hd:aL c.pg c.st ws q+1=ao (z:Int)
  ·obtain⟨G1,G2,U,X,M,hg,_⟩:=hB hd
   rw[hg]
   rw[M.eu] at UL
   have hcb:=M.o1.cnt H hyp
   have hbb:=M.o1.bit H hyp
   have hX:bD c.pg c.st q 0 0 U=X:=by
    rw[←M.eX]
    unfold bZ
    rw[if_neg (fun zz=>zz.1 (by unfold aC;rw[if_neg (by omega)]))]
   have HUN:Hq (U.length=ws.length):=hQQ M.nu
   have wfU:∀b f,Wf c.pg c.st (ct c.pg c.st q b f U):=fun b f =>
    (hF.wf.alike (fun p=>M.o1.kind H p) (fun p hp=>M.o1.cnt H hp) (fun p hp=>M.o1.bit H hp) (fun p hp=>M.o1.map H _)).turn hyp (k:=(z:Int)+1) (f:=f) (c:=b) (by rw[M.o1.kind H];omega) (fun p hp=>by
     rw[fU H hyp b f M.nu]
     split
     ·rename_i e;rw[e,M.o1.kind H];exact hk0
     ·rfl) (fun p hp=>iI H hyp b f M.nu hp) (fun p hp=>iJ H hyp b f M.nu hp) (fun p hp _ h=>by rw[gX H hyp b f M.nu];exact h) (fun _=>by rw[gX H hyp b f M.nu,M.o1.map H];exact hF.map q hyp (by omega)) (by omega) (fun e=>by omega)
   have kU:∀b f,aj c.pg c.st (ct c.pg c.st q b f U) q=(z:Int)+1:=fun b f=>by rw[fU H hyp b f M.nu,M.o1.kind H];exact hk0
   have dU:∀b f,(dQ c.pg c.st q (ct c.pg c.st q b f U)).2=X:=fun b f=>by
    have hlv:dX c.pg c.st q (ct c.pg c.st q b f U)=1:=by unfold dX;rw[kU,if_pos (ta.2 ⟨by omega,by omega⟩)]
    have:(dQ c.pg c.st q (ct c.pg c.st q b f U)).2=bD c.pg c.st q 0 0 (ct c.pg c.st q b f U):=by unfold dQ;rw[hlv];rfl
    rw[this,BO H hyp 0 0 b f M.nu,hX]
   have DR:=hQQ (fun(b f:Int) W (hW:Ws W g cap (ct c.pg c.st q b f U))=>by
    have hlen:(ct c.pg c.st q b f U).length=ws.length:=by simp[ct,M.nu]
    have:=zH R (ct c.pg c.st q b f U) (by rw[hlen];exact H.toPgIn) (by omega) (wfU b f) g cap q W hW
    rw[hlen,dU] at this
    exact this)
   obtain⟨bt,hbt⟩:∃bt:Int,bz c.pg c.st ws q=bt:=⟨_,rfl⟩
   obtain⟨f0,hf0⟩:∃f0,aL c.pg c.st ws q=f0:=⟨_,rfl⟩
   have HWB':Hq (W64 bt):=hQQ (by rw[←hbt];exact HWB.o)
   rw[hbt] at hbb
   rw[hf0] at hcb hd UL tf
   obtain⟨nb',hnb⟩:∃nb',cC bt i=nb':=⟨_,rfl⟩
   clear hA hB hg wfU kU dU hX M hF hq1 hyp hk0 k0 k4 i0 i1 f00 f01 ho HWB hsl
   have hc:=aH w c.cells 27
   have HR:=hQQ R
   have HH:=hQQ H
   have hgl:=hw.lt
   obtain⟨w1,e1⟩:∃w1,w.alloc (.cells c.cells 27)=w1:=⟨_,rfl⟩
   have m1:ae w w1:=by rw[←e1];exact(ae.refl w).alloc _
   rw[e1] at hc
   have HC:=hQQ hc
   have HM:=hQQ m1
   have HW:=hQQ (hw.more m1)
   have x2:w1.cell? ⟨w.heap.size,2,none⟩=some (.int .i64 c.pg):=aB hc (ae.refl _) rfl
   have X2:=hQQ x2
   have pg1:=R.pg1
   have pg2:=R.pg2
   clear x2 m1 hw R H hc
   obtain⟨_,⟨q2,q3,_⟩,q4,q5,_⟩:=cG HH.o.toPgIn HQ.o
   obtain⟨b1,hb1⟩:∃b:Nat,cA c.pg c.st q=(b:Int):=⟨(cA c.pg c.st q).toNat,by omega⟩
   obtain⟨b2,hb2⟩:∃b:Nat,bA c.pg c.st q=(b:Int):=⟨(bA c.pg c.st q).toNat,by omega⟩
   have l1:b1<ws.length:=by omega
   have l2:b2<ws.length:=by omega
   have P1:=hQQ ((pI (st:=c.st) HQ.o).trans hb1)
   have P2:=hQQ ((pJ (st:=c.st) HQ.o).trans hb2)
   have l1i:(b1:Int)<ws.length:=by omega
   have l2i:(b2:Int)<ws.length:=by omega
   have n12:b1≠b2:=by
    have:=ag.1 HQ.o
    unfold cA at hb1;unfold bA at hb2;omega
   have HSW:Hq (∀(b f:Int) (us:List Int),ct c.pg c.st q b f us=(us.set b2 b).set b1 f):=hQQ fun b f us=>by unfold ct;rw[hb1,hb2];rfl
   have CCW:Hq (∀us:List Int,aL c.pg c.st us q=us.getD b1 0):=hQQ fun us=>by unfold aL;rw[hb1];rfl
   have CBW:Hq (∀us:List Int,bz c.pg c.st us q=us.getD b2 0):=hQQ fun us=>by unfold bz;rw[hb2];rfl
   have HB1:=hQQ hb1
   have HB2:=hQQ hb2
   have YC:=hQQ (fun W=>P1.o▸jl HR.o q W)
   have YB:=hQQ (fun W=>P2.o▸lf HR.o q W)
   clear hb1 hb2 q2 q3 q4 q5
   have KC:Hq (∀W,Turned (fun b=>b=g) w1 W→W.heap[w.heap.size]?=some (.cells c.cells 27 (0,0))):=hQQ fun W t=>(t.block _ (ac HC.o) (by omega)).trans HC.o
   have HBT:Hq (U.getD b2 0=bt):=hQQ (by rw[←CBW.o U];exact hbb)
   have HCT:Hq (U.getD b1 0=f0):=hQQ (by rw[←CCW.o U];exact hcb)
   have XW1:Hq (ws.getD b1 0=f0):=hQQ (by rw[←CCW.o ws];exact hf0)
   have YT:=hQQ (fun W=>hnb▸vD (x:=bt) i HWB'.o W)
   have DR:=hQQ (fun W (hW:Ws W g cap ((U.set b2 nb').set b1 (f0+1)))=>DR.o nb' (f0+1) W (by rw[HSW.o];exact hW))
   obtain⟨sl,hsl⟩:∃sl,ao (z:Int)=sl:=⟨_,rfl⟩
   rw[hsl] at YS hd
   have de:(f0+1==sl)=true:=by simp[hd]
   clear hbt hf0 hnb hcb hbb hsl hd
   go_enter Tryz.func136,Tryz.ntmps136
   go_wp2_with (first|(refine aA rfl rfl rfl HC.o (by kernel_rfl) ?_)|(refine aA rfl rfl rfl HC.o (by kernel_rfl) ?_))
   clear e1
   refine(TK.o _ HW.o).mono ?_
   rintro e w2 ⟨rfl,h2⟩
   have HL2:=hQQ (h2.block HC.o)
   go_wp2_with (first|(refine aA rfl rfl rfl HL2.o (by kernel_rfl) ?_)|(refine aA rfl rfl rfl HL2.o (by kernel_rfl) ?_))
   refine(PL.o _).mono ?_
   rintro e w3 ⟨rfl,h3⟩
   have M3:=hQQ (h2.trans h3)
   have HL3:=hQQ (M3.o.block HC.o)
   have T3:Hq (Turned (fun b=>b=g) w1 w3):=hQQ (turned_more M3.o)
   have X3:=hQQ (HW.o.more M3.o)
   have x3:w3.cell? ⟨g,b1,none⟩=some (.int .i64 f0):=by rw[←XW1.o];exact X3.o.cell l1
   clear h2 h3
   go_wp2_with fail
   refine au 10 (by kernel_rfl) (by kernel_rfl) ?_
   simp only[List.take_succ_cons,List.take_zero,List.drop_succ_cons,List.drop_zero]
   refine ai rfl 27 _ rfl _ rfl 27 _ _ _ (fun W hW=>hW.block HL3.o) Tryz.underlying27 rfl (by kernel_rfl) ?_
   iterate 4
    with_reducible refine wpQuiet_step (fun K hK=>?_)
    go_simp
    first
    |(refine hK _ ?_;clear hK K)
    |(apply Exists.intro
      refine⟨fun W hW=>?_,hK _ ?_⟩
      first
      |(go_simp;try rfl)
      clear hK K)
   refine ai rfl 27 _ rfl _ rfl 27 _ _ _ (fun W hW=>hW.block HL3.o) Tryz.underlying27 rfl (by kernel_rfl) ?_
   iterate 4
    with_reducible refine wpQuiet_step (fun K hK=>?_)
    go_simp
    first
    |(refine hK _ ?_;clear hK K)
    |(apply Exists.intro
      refine⟨fun W hW=>?_,hK _ ?_⟩
      first
      |(go_at_call 48;exact Calls.more hW (YC.o W))
      |(have xc':=hW.cell x3;go_simp;try rfl)
      clear hK K)
   refine wpQuiet_nil ?_
   intro w4 h4
   have T4:Hq (Turned (fun b=>b=g) w1 w4):=hQQ (T3.o.trans (turned_more h4))
   have X4:=hQQ (X3.o.more h4)
   clear h4 x3
   go_wp2_with fail
   refine(UL.o w4 X4.o).mono ?_
   rintro e w5 ⟨rfl,hx5,ht5⟩
   have X5:=hQQ hx5
   have T5:Hq (Turned (fun b=>b=g) w1 w5):=hQQ (T4.o.trans ht5)
   clear hx5 ht5
   go_wp2_with fail
   -- the words U at w5: X5,T5;its bits bt,its count f0
   have HL5:=hQQ (KC.o _ T5.o)
   have x5:w5.cell? ⟨g,b2,none⟩=some (.int .i64 bt):=by rw[←HBT.o];exact X5.o.cell (by rw[HUN.o];exact l2)
   refine au 16 (by kernel_rfl) (by kernel_rfl) ?_
   simp only[List.take_succ_cons,List.take_zero,List.drop_succ_cons,List.drop_zero]
   iterate 1
    with_reducible refine wpQuiet_step (fun K hK=>?_)
    go_simp
    first
    |(refine hK _ ?_;clear hK K)
    |(apply Exists.intro
      refine⟨fun W hW=>?_,hK _ ?_⟩
      first
      |(go_simp;try rfl)
      clear hK K)
   refine ai rfl 27 _ rfl _ rfl 27 _ _ _ (fun W hW=>hW.block HL5.o) Tryz.underlying27 rfl (by kernel_rfl) ?_
   iterate 3
    with_reducible refine wpQuiet_step (fun K hK=>?_)
    go_simp
    first
    |(refine hK _ ?_;clear hK K)
    |(apply Exists.intro
      refine⟨fun W hW=>?_,hK _ ?_⟩
      first
      |(go_at_call 52;exact Calls.more hW (YB.o W))
      |(go_simp;try rfl)
      clear hK K)
   refine ai rfl 27 _ rfl _ rfl 27 _ _ _ (fun W hW=>hW.block HL5.o) Tryz.underlying27 rfl (by kernel_rfl) ?_
   iterate 10
    with_reducible refine wpQuiet_step (fun K hK=>?_)
    go_simp
    first
    |(refine hK _ ?_;clear hK K)
    |(apply Exists.intro
      refine⟨fun W hW=>?_,hK _ ?_⟩
      first
      |(go_at_call 52;exact Calls.more hW (YB.o W))
      |(go_at_call 49;exact Calls.more hW (ZS.o W))
      |(go_at_call 149;exact Calls.more hW (YT.o W))
      |(have x5':=hW.cell x5;go_simp;try rfl)
      clear hK K)
   refine wpQuiet_nil ?_
   intro w7 h7
   have T7:Hq (Turned (fun b=>b=g) w1 w7):=hQQ (T5.o.trans (turned_more h7))
   have X7:=hQQ (X5.o.more h7)
   clear h7 x5
   have c8:=X7.o.cell (i:=b2) (by rw[HUN.o];exact l2)
   have f8:=X7.o.froz b2
   have l8:=X7.o.lt
   obtain⟨w8,e8⟩:∃w8,World.setCell w7 ⟨g,b2,none⟩ (.int .i64 nb')=w8:=⟨_,rfl⟩
   have X8:Hq (Ws w8 g cap (U.set b2 nb')):=hQQ (by rw[←e8];exact X7.o.set (by rw[HUN.o];exact l2) _)
   have T8:Hq (Turned (fun b=>b=g) w1 w8):=hQQ (by rw[←e8];exact Turned.setCell T7.o _ _ (fun _=>rfl))
   have HL8:=hQQ (KC.o _ T8.o)
   go_wp2_with (first|(refine aA rfl rfl rfl HL8.o (by kernel_rfl) ?_)|(refine aA rfl rfl rfl HL8.o (by kernel_rfl) ?_))
   clear c8 f8 l8 e8
   refine(YC.o _).mono ?_
   rintro e w9 ⟨rfl,h9⟩
   have T9:Hq (Turned (fun b=>b=g) w1 w9):=hQQ (T8.o.trans (turned_more h9))
   have X9:=hQQ (X8.o.more h9)
   clear h9
   have x9:w9.cell? ⟨g,b1,none⟩=some (.int .i64 f0):=by
    have:=X9.o.cell (i:=b1) (by simp[HUN.o];exact l1)
    rw[this];congr 2
    rw[←HCT.o];simp[List.getD,List.getElem?_set_ne (Ne.symm n12)]
   have c10:=X9.o.cell (i:=b1) (by simp[HUN.o];exact l1)
   have f10:=X9.o.froz b1
   have l10:=X9.o.lt
   obtain⟨w10,e10⟩:∃w10,World.setCell w9 ⟨g,b1,none⟩ (.int .i64 (f0+1))=w10:=⟨_,rfl⟩
   have X10:Hq (Ws w10 g cap ((U.set b2 nb').set b1 (f0+1))):=hQQ (by rw[←e10];exact X9.o.set (by simp[HUN.o];exact l1) _)
   have T10:Hq (Turned (fun b=>b=g) w1 w10):=hQQ (by rw[←e10];exact Turned.setCell T9.o _ _ (fun _=>rfl))
   clear c10
   have HL10:=hQQ (KC.o _ T10.o)
   go_wp2_with fail
   clear x9 f10 l10 e10
   have x10:w10.cell? ⟨g,b1,none⟩=some (.int .i64 (f0+1)):=by
    have:=X10.o.cell (i:=b1) (by simp[HUN.o];exact l1)
    rw[this];congr 2
    simp[List.getD,HUN.o,l1]
   refine aw (by kernel_rfl) (by kernel_rfl) ?_
   iterate 1
    with_reducible refine wpQuiet_step (fun K hK=>?_)
    go_simp
    first
    |(refine hK _ ?_;clear hK K)
    |(apply Exists.intro
      refine⟨fun W hW=>?_,hK _ ?_⟩
      first
      |(go_simp;try rfl)
      clear hK K)
   refine ai rfl 27 _ rfl _ rfl 27 _ _ _ (fun W hW=>hW.block HL10.o) Tryz.underlying27 rfl (by kernel_rfl) ?_
   iterate 7
    with_reducible refine wpQuiet_step (fun K hK=>?_)
    go_simp
    first
    |(refine hK _ ?_;clear hK K)
    |(apply Exists.intro
      refine⟨fun W hW=>?_,hK _ ?_⟩
      first
      |(go_at_call 48;exact Calls.more hW (YC.o W))
      |(go_at_call 50;exact Calls.more hW (YS.o W))
      |(have x10':=hW.cell x10;go_simp;try rfl)
      clear hK K)
   refine wpQuiet_nil ?_
   intro wd1 hd1
   have T13:Hq (Turned (fun b=>b=g) w1 wd1):=hQQ (T10.o.trans (turned_more hd1))
   have X13:=hQQ (X10.o.more hd1)
   have x13:=hd1.cell x10
   have HL13:=hQQ (KC.o _ T13.o)
   clear hd1 x10
   go_wp2_with (first|(refine aA rfl rfl rfl HL13.o (by kernel_rfl) ?_)|(refine aA rfl rfl rfl HL13.o (by kernel_rfl) ?_))
   clear x13
   refine(DR.o _ X13.o).mono ?_
   rintro e wz ⟨rfl,hxz,htz⟩
   have FIN:Hq (Ws wz g cap X∧Turned (fun b=>b=g) w wz):=hQQ ⟨hxz,(turned_more HM.o).trans (T13.o.trans htz)⟩
   clear hxz htz
   go_wp2_with fail
   go_ret
   exact⟨rfl,FIN.o.1,FIN.o.2⟩
  ·obtain⟨G1,G2,U,X,M,hg,_⟩:=hA hd
   rw[hg]
   rw[M.eu] at UL
   have hcb:=M.o1.cnt H hyp
   have hbb:=M.o1.bit H hyp
   have HUN:Hq (U.length=ws.length):=hQQ M.nu
   obtain⟨bt,hbt⟩:∃bt:Int,bz c.pg c.st ws q=bt:=⟨_,rfl⟩
   obtain⟨f0,hf0⟩:∃f0,aL c.pg c.st ws q=f0:=⟨_,rfl⟩
   have HWB':Hq (W64 bt):=hQQ (by rw[←hbt];exact HWB.o)
   rw[hbt] at hbb M
   rw[hf0] at hcb hd UL tf M
   obtain⟨nb',hnb⟩:∃nb',cC bt i=nb':=⟨_,rfl⟩
   rw[hnb] at M
   clear hA hB hg hF hq1 hyp hk0 k0 k4 i0 i1 f00 f01 ho HWB hsl
   have hc:=aH w c.cells 27
   have HR:=hQQ R
   have HH:=hQQ H
   have hgl:=hw.lt
   obtain⟨w1,e1⟩:∃w1,w.alloc (.cells c.cells 27)=w1:=⟨_,rfl⟩
   have m1:ae w w1:=by rw[←e1];exact(ae.refl w).alloc _
   rw[e1] at hc
   have HC:=hQQ hc
   have HM:=hQQ m1
   have HW:=hQQ (hw.more m1)
   have x2:w1.cell? ⟨w.heap.size,2,none⟩=some (.int .i64 c.pg):=aB hc (ae.refl _) rfl
   have X2:=hQQ x2
   have pg1:=R.pg1
   have pg2:=R.pg2
   clear x2 m1 hw R H hc
   obtain⟨_,⟨q2,q3,_⟩,q4,q5,_⟩:=cG HH.o.toPgIn HQ.o
   obtain⟨b1,hb1⟩:∃b:Nat,cA c.pg c.st q=(b:Int):=⟨(cA c.pg c.st q).toNat,by omega⟩
   obtain⟨b2,hb2⟩:∃b:Nat,bA c.pg c.st q=(b:Int):=⟨(bA c.pg c.st q).toNat,by omega⟩
   have l1:b1<ws.length:=by omega
   have l2:b2<ws.length:=by omega
   have P1:=hQQ ((pI (st:=c.st) HQ.o).trans hb1)
   have P2:=hQQ ((pJ (st:=c.st) HQ.o).trans hb2)
   have l1i:(b1:Int)<ws.length:=by omega
   have l2i:(b2:Int)<ws.length:=by omega
   have n12:b1≠b2:=by
    have:=ag.1 HQ.o
    unfold cA at hb1;unfold bA at hb2;omega
   have HSW:Hq (∀(b f:Int) (us:List Int),ct c.pg c.st q b f us=(us.set b2 b).set b1 f):=hQQ fun b f us=>by unfold ct;rw[hb1,hb2];rfl
   have CCW:Hq (∀us:List Int,aL c.pg c.st us q=us.getD b1 0):=hQQ fun us=>by unfold aL;rw[hb1];rfl
   have CBW:Hq (∀us:List Int,bz c.pg c.st us q=us.getD b2 0):=hQQ fun us=>by unfold bz;rw[hb2];rfl
   have HB1:=hQQ hb1
   have HB2:=hQQ hb2
   have YC:=hQQ (fun W=>P1.o▸jl HR.o q W)
   have YB:=hQQ (fun W=>P2.o▸lf HR.o q W)
   clear hb1 hb2 q2 q3 q4 q5
   have KC:Hq (∀W,Turned (fun b=>b=g) w1 W→W.heap[w.heap.size]?=some (.cells c.cells 27 (0,0))):=hQQ fun W t=>(t.block _ (ac HC.o) (by omega)).trans HC.o
   have HBT:Hq (U.getD b2 0=bt):=hQQ (by rw[←CBW.o U];exact hbb)
   have HCT:Hq (U.getD b1 0=f0):=hQQ (by rw[←CCW.o U];exact hcb)
   have XW1:Hq (ws.getD b1 0=f0):=hQQ (by rw[←CCW.o ws];exact hf0)
   have YT:=hQQ (fun W=>hnb▸vD (x:=bt) i HWB'.o W)
   have LK:Hq (∀W,Ws W g cap ((U.set b2 nb').set b1 (f0+1))→Calls Tryz.prog 148 #[.agg c.cells,.slice (some ⟨g,0,none⟩) ws.length cap,.int .i64 q,.int .i64 (z:Int),.int .i64 (f0+1)] W (fun e w'=>e=.returned (.bool (bZ c.pg c.st q (z:Int) (f0+1) ((U.set b2 nb').set b1 (f0+1))).1)∧Ws w' g cap X∧Turned (fun b=>b=g) W w')):=hQQ (by
    have e:(U.set b2 nb').set b1 (f0+1)=ct c.pg c.st q nb' (f0+1) U:=by rw[HSW.o]
    intro W hW
    refine EZ HR.o (by simp[HUN.o]) HH.o hl (by rw[e];exact M.lt) q (z:Int) (f0+1) M.m1 (by rw[e];exact M.eX) g cap W hW)
   obtain⟨sl,hsl⟩:∃sl,ao (z:Int)=sl:=⟨_,rfl⟩
   rw[hsl] at YS hd
   have de:(f0+1==sl)=false:=by simpa using hd
   clear hbt hf0 hnb hcb hbb hsl hd M
   go_enter Tryz.func136,Tryz.ntmps136
   go_wp2_with (first|(refine aA rfl rfl rfl HC.o (by kernel_rfl) ?_)|(refine aA rfl rfl rfl HC.o (by kernel_rfl) ?_))
   clear e1
   refine(TK.o _ HW.o).mono ?_
   rintro e w2 ⟨rfl,h2⟩
   have HL2:=hQQ (h2.block HC.o)
   go_wp2_with (first|(refine aA rfl rfl rfl HL2.o (by kernel_rfl) ?_)|(refine aA rfl rfl rfl HL2.o (by kernel_rfl) ?_))
   refine(PL.o _).mono ?_
   rintro e w3 ⟨rfl,h3⟩
   have M3:=hQQ (h2.trans h3)
   have HL3:=hQQ (M3.o.block HC.o)
   have T3:Hq (Turned (fun b=>b=g) w1 w3):=hQQ (turned_more M3.o)
   have X3:=hQQ (HW.o.more M3.o)
   have x3:w3.cell? ⟨g,b1,none⟩=some (.int .i64 f0):=by rw[←XW1.o];exact X3.o.cell l1
   clear h2 h3
   go_wp2_with fail
   refine au 10 (by kernel_rfl) (by kernel_rfl) ?_
   simp only[List.take_succ_cons,List.take_zero,List.drop_succ_cons,List.drop_zero]
   refine ai rfl 27 _ rfl _ rfl 27 _ _ _ (fun W hW=>hW.block HL3.o) Tryz.underlying27 rfl (by kernel_rfl) ?_
   iterate 4
    with_reducible refine wpQuiet_step (fun K hK=>?_)
    go_simp
    first
    |(refine hK _ ?_;clear hK K)
    |(apply Exists.intro
      refine⟨fun W hW=>?_,hK _ ?_⟩
      first
      |(go_simp;try rfl)
      clear hK K)
   refine ai rfl 27 _ rfl _ rfl 27 _ _ _ (fun W hW=>hW.block HL3.o) Tryz.underlying27 rfl (by kernel_rfl) ?_
   iterate 4
    with_reducible refine wpQuiet_step (fun K hK=>?_)
    go_simp
    first
    |(refine hK _ ?_;clear hK K)
    |(apply Exists.intro
      refine⟨fun W hW=>?_,hK _ ?_⟩
      first
      |(go_at_call 48;exact Calls.more hW (YC.o W))
      |(have xc':=hW.cell x3;go_simp;try rfl)
      clear hK K)
   refine wpQuiet_nil ?_
   intro w4 h4
   have T4:Hq (Turned (fun b=>b=g) w1 w4):=hQQ (T3.o.trans (turned_more h4))
   have X4:=hQQ (X3.o.more h4)
   clear h4 x3
   go_wp2_with fail
   refine(UL.o w4 X4.o).mono ?_
   rintro e w5 ⟨rfl,hx5,ht5⟩
   have X5:=hQQ hx5
   have T5:Hq (Turned (fun b=>b=g) w1 w5):=hQQ (T4.o.trans ht5)
   clear hx5 ht5
   go_wp2_with fail
   -- the words U at w5: X5,T5;its bits bt,its count f0
   have HL5:=hQQ (KC.o _ T5.o)
   have x5:w5.cell? ⟨g,b2,none⟩=some (.int .i64 bt):=by rw[←HBT.o];exact X5.o.cell (by rw[HUN.o];exact l2)
   refine au 16 (by kernel_rfl) (by kernel_rfl) ?_
   simp only[List.take_succ_cons,List.take_zero,List.drop_succ_cons,List.drop_zero]
   iterate 1
    with_reducible refine wpQuiet_step (fun K hK=>?_)
    go_simp
    first
    |(refine hK _ ?_;clear hK K)
    |(apply Exists.intro
      refine⟨fun W hW=>?_,hK _ ?_⟩
      first
      |(go_simp;try rfl)
      clear hK K)
   refine ai rfl 27 _ rfl _ rfl 27 _ _ _ (fun W hW=>hW.block HL5.o) Tryz.underlying27 rfl (by kernel_rfl) ?_
   iterate 3
    with_reducible refine wpQuiet_step (fun K hK=>?_)
    go_simp
    first
    |(refine hK _ ?_;clear hK K)
    |(apply Exists.intro
      refine⟨fun W hW=>?_,hK _ ?_⟩
      first
      |(go_at_call 52;exact Calls.more hW (YB.o W))
      |(go_simp;try rfl)
      clear hK K)
   refine ai rfl 27 _ rfl _ rfl 27 _ _ _ (fun W hW=>hW.block HL5.o) Tryz.underlying27 rfl (by kernel_rfl) ?_
   iterate 10
    with_reducible refine wpQuiet_step (fun K hK=>?_)
    go_simp
    first
    |(refine hK _ ?_;clear hK K)
    |(apply Exists.intro
      refine⟨fun W hW=>?_,hK _ ?_⟩
      first
      |(go_at_call 52;exact Calls.more hW (YB.o W))
      |(go_at_call 49;exact Calls.more hW (ZS.o W))
      |(go_at_call 149;exact Calls.more hW (YT.o W))
      |(have x5':=hW.cell x5;go_simp;try rfl)
      clear hK K)
   refine wpQuiet_nil ?_
   intro w7 h7
   have T7:Hq (Turned (fun b=>b=g) w1 w7):=hQQ (T5.o.trans (turned_more h7))
   have X7:=hQQ (X5.o.more h7)
   clear h7 x5
   have c8:=X7.o.cell (i:=b2) (by rw[HUN.o];exact l2)
   have f8:=X7.o.froz b2
   have l8:=X7.o.lt
   obtain⟨w8,e8⟩:∃w8,World.setCell w7 ⟨g,b2,none⟩ (.int .i64 nb')=w8:=⟨_,rfl⟩
   have X8:Hq (Ws w8 g cap (U.set b2 nb')):=hQQ (by rw[←e8];exact X7.o.set (by rw[HUN.o];exact l2) _)
   have T8:Hq (Turned (fun b=>b=g) w1 w8):=hQQ (by rw[←e8];exact Turned.setCell T7.o _ _ (fun _=>rfl))
   have HL8:=hQQ (KC.o _ T8.o)
   go_wp2_with (first|(refine aA rfl rfl rfl HL8.o (by kernel_rfl) ?_)|(refine aA rfl rfl rfl HL8.o (by kernel_rfl) ?_))
   clear c8 f8 l8 e8
   refine(YC.o _).mono ?_
   rintro e w9 ⟨rfl,h9⟩
   have T9:Hq (Turned (fun b=>b=g) w1 w9):=hQQ (T8.o.trans (turned_more h9))
   have X9:=hQQ (X8.o.more h9)
   clear h9
   have x9:w9.cell? ⟨g,b1,none⟩=some (.int .i64 f0):=by
    have:=X9.o.cell (i:=b1) (by simp[HUN.o];exact l1)
    rw[this];congr 2
    rw[←HCT.o];simp[List.getD,List.getElem?_set_ne (Ne.symm n12)]
   have c10:=X9.o.cell (i:=b1) (by simp[HUN.o];exact l1)
   have f10:=X9.o.froz b1
   have l10:=X9.o.lt
   obtain⟨w10,e10⟩:∃w10,World.setCell w9 ⟨g,b1,none⟩ (.int .i64 (f0+1))=w10:=⟨_,rfl⟩
   have X10:Hq (Ws w10 g cap ((U.set b2 nb').set b1 (f0+1))):=hQQ (by rw[←e10];exact X9.o.set (by simp[HUN.o];exact l1) _)
   have T10:Hq (Turned (fun b=>b=g) w1 w10):=hQQ (by rw[←e10];exact Turned.setCell T9.o _ _ (fun _=>rfl))
   clear c10
   have HL10:=hQQ (KC.o _ T10.o)
   go_wp2_with fail
   clear x9 f10 l10 e10
   have x10:w10.cell? ⟨g,b1,none⟩=some (.int .i64 (f0+1)):=by
    have:=X10.o.cell (i:=b1) (by simp[HUN.o];exact l1)
    rw[this];congr 2
    simp[List.getD,HUN.o,l1]
   refine aw (by kernel_rfl) (by kernel_rfl) ?_
   iterate 1
    with_reducible refine wpQuiet_step (fun K hK=>?_)
    go_simp
    first
    |(refine hK _ ?_;clear hK K)
    |(apply Exists.intro
      refine⟨fun W hW=>?_,hK _ ?_⟩
      first
      |(go_simp;try rfl)
      clear hK K)
   refine ai rfl 27 _ rfl _ rfl 27 _ _ _ (fun W hW=>hW.block HL10.o) Tryz.underlying27 rfl (by kernel_rfl) ?_
   iterate 7
    with_reducible refine wpQuiet_step (fun K hK=>?_)
    go_simp
    first
    |(refine hK _ ?_;clear hK K)
    |(apply Exists.intro
      refine⟨fun W hW=>?_,hK _ ?_⟩
      first
      |(go_at_call 48;exact Calls.more hW (YC.o W))
      |(go_at_call 50;exact Calls.more hW (YS.o W))
      |(have x10':=hW.cell x10;go_simp;try rfl)
      clear hK K)
   refine wpQuiet_nil ?_
   intro wd1 hd1
   have T13:Hq (Turned (fun b=>b=g) w1 wd1):=hQQ (T10.o.trans (turned_more hd1))
   have X13:=hQQ (X10.o.more hd1)
   have x13:=hd1.cell x10
   have HL13:=hQQ (KC.o _ T13.o)
   clear hd1 x10
   go_wp2_with fail
   refine au 10 (by kernel_rfl) (by kernel_rfl) ?_
   simp only[List.take_succ_cons,List.take_zero,List.drop_succ_cons,List.drop_zero]
   refine ai rfl 27 _ rfl _ rfl 27 _ _ _ (fun W hW=>hW.block HL13.o) Tryz.underlying27 rfl (by kernel_rfl) ?_
   iterate 4
    with_reducible refine wpQuiet_step (fun K hK=>?_)
    go_simp
    first
    |(refine hK _ ?_;clear hK K)
    |(apply Exists.intro
      refine⟨fun W hW=>?_,hK _ ?_⟩
      first
      |(go_simp;try rfl)
      clear hK K)
   refine ai rfl 27 _ rfl _ rfl 27 _ _ _ (fun W hW=>hW.block HL13.o) Tryz.underlying27 rfl (by kernel_rfl) ?_
   iterate 4
    with_reducible refine wpQuiet_step (fun K hK=>?_)
    go_simp
    first
    |(refine hK _ ?_;clear hK K)
    |(apply Exists.intro
      refine⟨fun W hW=>?_,hK _ ?_⟩
      first
      |(go_at_call 48;exact Calls.more hW (YC.o W))
      |(have xc':=hW.cell x13;go_simp;try rfl)
      clear hK K)
   refine wpQuiet_nil ?_
   intro w14 h14
   have T14:Hq (Turned (fun b=>b=g) w1 w14):=hQQ (T13.o.trans (turned_more h14))
   have X14:=hQQ (X13.o.more h14)
   clear h14 x13
   go_wp2_with fail
   refine(LK.o w14 X14.o).mono ?_
   rintro e wz ⟨rfl,hxz,htz⟩
   have FIN:Hq (Ws wz g cap X∧Turned (fun b=>b=g) w wz):=hQQ ⟨hxz,(turned_more HM.o).trans (T14.o.trans htz)⟩
   clear hxz htz
   go_wp2_with fail
   go_ret
   exact⟨rfl,FIN.o.1,FIN.o.2⟩
section
variable {pg st:Int}{n:Nat}(H:cB pg st n)
include H
end
section
variable {pg st:Int}{n:Nat}(H:cB pg st n)
include H
theorem rP:PgW pg st (fun _=> []) (bQ n):=by
 have hz:∀i:Int,wAt (bQ n) i=0:=fun i=>by
  unfold wAt bQ
  simp only[List.getD,List.getElem?_replicate]
  split<;>rfl
 have hk:∀p,af pg p=true→aj pg st (bQ n) p=0:=fun p hp=>by unfold aj;rw[if_pos hp];exact hz _
 have hl:∀p,aj pg st (bQ n) p≤0:=fun p=>by
  cases hp:af pg p with
  |true=>rw[hk p hp];omega
  |false=>rw[dE hp];omega
 refine⟨EB H,⟨⟨fun p hp=>by rw[hk p hp];omega,fun p e=>(by have:=hl p;omega),fun p e=>(by have:=hl p;omega),fun p _=>⟨hz _,hz _⟩,fun p hp h=>absurd (hk p hp) h⟩,fun p hp h=>?_,fun a p ha=>⟨fun h=>(by cases h),fun h=>?_⟩⟩⟩
 ·rw[hk p hp] at h;omega
 ·have:=hk p h.1;have:=h.2.1;omega
end
theorem vH {k:Int} :szV k=0↔ao k=0:=by
 unfold szV ao
 (repeat' split)<;>simp
section
variable {pg st:Int}{n:Nat}(H:cB pg st n)
include H
end
theorem E1 {us pg st:Int}{ws:List Int}{q k:Int}{j:Nat}(hq:af pg q=true)(hk:0≤k∧k≤4)(hj:(j:Int)<ao k)(ek:aj pg st ws q=k+1):
 dp us pg st (us+32 * q+j * szV k) ws=some (q,k,(j:Int),cK (bz pg st ws q) j):=by
 have hp:=ag.1 hq
 obtain⟨z,rfl⟩:∃z:Nat,k=(z:Int):=⟨k.toNat,by omega⟩
 have hz4:z=0∨z=1∨z=2∨z=3∨z=4:=by omega
 have key:ao (z:Int)≠0∧0<szV (z:Int)∧0≤(j:Int) * szV (z:Int)∧(j:Int) * szV (z:Int)<32:=by
  rcases hz4 with rfl|rfl|rfl|rfl|rfl
  ·have hj:(j:Int)<32:=hj
   refine⟨by decide,by decide,?_,?_⟩<;>(show _;simp only[show szV ((0:Nat):Int)=1 from rfl];omega)
  ·have hj:(j:Int)<16:=hj
   refine⟨by decide,by decide,?_,?_⟩<;>(show _;simp only[show szV ((1:Nat):Int)=2 from rfl];omega)
  ·have hj:(j:Int)<8:=hj
   refine⟨by decide,by decide,?_,?_⟩<;>(show _;simp only[show szV ((2:Nat):Int)=4 from rfl];omega)
  ·have hj:(j:Int)<4:=hj
   refine⟨by decide,by decide,?_,?_⟩<;>(show _;simp only[show szV ((3:Nat):Int)=8 from rfl];omega)
  ·have hj:(j:Int)<2:=hj
   refine⟨by decide,by decide,?_,?_⟩<;>(show _;simp only[show szV ((4:Nat):Int)=16 from rfl];omega)
 obtain⟨k1,k2,k3,k4⟩:=key
 have hd:(j:Int) * szV (z:Int) / szV (z:Int)=(j:Int):=Int.mul_ediv_cancel _ (by omega)
 have hm:(j:Int) * szV (z:Int) % szV (z:Int)=0:=Int.mul_emod_left _ _
 obtain⟨x,hx⟩:∃x,(j:Int) * szV (z:Int)=x:=⟨_,rfl⟩
 rw[hx] at k3 k4 hd hm⊢
 have e1:(us+32 * q+x-us) / 32=q:=by omega
 have e2:(us+32 * q+x-us) % 32=x:=by omega
 unfold dp
 rw[if_pos (by omega),e1,e2,ek]
 unfold ij
 rw[show IntKind.i64.wrap ((z:Int)+1-1)=(z:Int) by rw[show(z:Int)+1-1=(z:Int) by omega];exact am (by omega) (by omega),if_neg k1,if_neg (by rw[hm];simp),hd]
theorem jm (us:Int){pg q k:Int}{j:Nat}(hq:af pg q=true)(k0:0≤k)(k4:k≤4)(hj:(j:Int)<ao k):(us+32 * q+j * szV k-us) / 32=q:=by
 obtain⟨z,rfl⟩:∃z:Nat,k=(z:Int):=⟨k.toNat,by omega⟩
 have hz4:z=0∨z=1∨z=2∨z=3∨z=4:=by omega
 rcases hz4 with rfl|rfl|rfl|rfl|rfl
 ·have hj:(j:Int)<32:=hj
  rw[show szV ((0:Nat):Int)=1 from rfl];omega
 ·have hj:(j:Int)<16:=hj
  rw[show szV ((1:Nat):Int)=2 from rfl];omega
 ·have hj:(j:Int)<8:=hj
  rw[show szV ((2:Nat):Int)=4 from rfl];omega
 ·have hj:(j:Int)<4:=hj
  rw[show szV ((3:Nat):Int)=8 from rfl];omega
 ·have hj:(j:Int)<2:=hj
  rw[show szV ((4:Nat):Int)=16 from rfl];omega
section
variable {pg st:Int}{n:Nat}(H:cB pg st n)
include H
theorem vI (us k:Int){G:Int→List Int}{ws:List Int}(P:PgW pg st G ws)(hn:ws.length=n):
 (dR us pg st k ws=((0,false),ws)) ∨
 ∃(q:Int) (j:Nat) (f:Int) (G2:Int→List Int) (X:List Int),af pg q=true∧0≤k∧k≤4∧(j:Int)<ao k∧cK (bz pg st ws q) j=false∧dR us pg st k ws=((us+32 * q+j * szV k,true),X)∧PgW pg st G2 X ∧
  (∀p,af pg p=true→aj pg st X p=(if p=q then k+1 else aj pg st ws p)∧aL pg st X p=(if p=q then f else aL pg st ws p)∧bz pg st X p=(if p=q then eQ (bz pg st ws q) j else bz pg st ws p)) ∧
  ((aj pg st ws q=k+1∧f+1=aL pg st ws q)∨(aj pg st ws q=0∧f+1=ao k)):=by
 by_cases hs:ao k=0
 ·exact .inl (mi H us hs ws)
 have hk:=eK hs
 by_cases h1:bB pg st k (ao k).toNat 1 ws= -1
 ·by_cases h2:dD pg st 1 1 ws= -1
  ·exact .inl (mj H us hs h1 h2)
  ·obtain⟨y,hy⟩:∃y,dD pg st 1 1 ws=y:=⟨_,rfl⟩
   rw[hy] at h2
   obtain⟨G1,G2,w1,X,hyp,hk0,_,T,n1,_,M,e,Q⟩:=qg H us hs P hn h1 hy h2
   have hf:=P.f.free y hyp hk0
   refine .inr ⟨y,0,ao k-1,G2,X,hyp,hk.1,hk.2,by have:=dN k;simp;omega,by rw[hf.2];simp[cK,kI],by rw[e];simp,Q,fun p hp=>⟨?_,?_,?_⟩,.inr ⟨hk0,by omega⟩⟩
   ·rw[dy.kind H M.o2,fU H hyp _ _ n1,T.kind]
    by_cases e:p=y
    ·rw[if_pos e,if_pos e]
    ·rw[if_neg e,if_neg e,if_neg (by omega)]
   ·rw[dy.cnt H M.o2 hp,iI H hyp _ _ n1 hp,T.cnt p hp]
    by_cases e:p=y
    ·rw[if_pos e,if_pos e]
    ·rw[if_neg e,if_neg e,if_neg e,if_neg (by omega)]
   ·rw[dy.bit H M.o2 hp,iJ H hyp _ _ n1 hp,T.bit p hp]
    by_cases e:p=y
    ·rw[if_pos e,if_pos e,hf.2];rfl
    ·rw[if_neg e,if_neg e,if_neg (by omega)]
 ·obtain⟨q,hq⟩:∃q,bB pg st k (ao k).toNat 1 ws=q:=⟨_,rfl⟩
  rw[hq] at h1
  obtain⟨j,G1,G2,u,X,hqp,ek,c1,_,_,hj,hb,M,e,Q⟩:=qe H us hs P hn hq h1
  refine .inr ⟨q,j,aL pg st ws q-1,G2,X,hqp,hk.1,hk.2,hj,by unfold cK;simp[hb],e,Q,fun p hp=>⟨?_,?_,?_⟩,.inl ⟨ek,by omega⟩⟩
  ·rw[dy.kind H M.o2,fU H hqp _ _ hn]
   by_cases e:p=q
   ·rw[if_pos e,e,ek]
   ·rw[if_neg e]
  ·rw[dy.cnt H M.o2 hp,iI H hqp _ _ hn hp]
  ·rw[dy.bit H M.o2 hp,iJ H hqp _ _ hn hp]
end
section
variable {pg st:Int}{n:Nat}(H:cB pg st n)
include H
theorem vJ (us:Int){a:Int}{G:Int→List Int}{ws:List Int}(P:PgW pg st G ws)(hn:ws.length=n)(ho:OkW ws){q k i:Int}(h:gU (dp us pg st a ws)=some (q,k,i)):
 ∃(G2:Int→List Int) (X:List Int),fT us pg st a ws=(true,X)∧PgW pg st G2 X ∧
  (∀p,af pg p=true→aj pg st X p=(if p=q then(if aL pg st ws q+1=ao k then 0 else k+1) else aj pg st ws p)∧aL pg st X p=(if p=q then(if aL pg st ws q+1=ao k then 0 else aL pg st ws q+1) else aL pg st ws p) ∧
   bz pg st X p=(if p=q then(if aL pg st ws q+1=ao k then 0 else cC (bz pg st ws q) i) else bz pg st ws p)):=by
 obtain⟨hq,ek,_,_,_,_,_,_,_,_,y1,y2⟩:=mT H us P hn ho h
 by_cases he:aL pg st ws q+1=ao k
 ·obtain⟨G1,G2,u,X,M,e,Q⟩:=y2 he
  refine⟨G2,X,e,Q,fun p hp=>⟨?_,?_,?_⟩⟩
  ·rw[dy.kind H M.o2,k7 H.toPgIn hq 0 0 hn p,if_pos he]
  ·rw[dy.cnt H M.o2 hp,kE H.toPgIn hq 0 0 hn hp,if_pos he]
  ·rw[dy.bit H M.o2 hp,mM H.toPgIn hq 0 0 hn hp,if_pos he]
 ·obtain⟨G1,G2,u,X,M,e,Q⟩:=y1 he
  refine⟨G2,X,e,Q,fun p hp=>⟨?_,?_,?_⟩⟩
  ·rw[dy.kind H M.o2,fU H hq _ _ hn,if_neg he]
   by_cases z:p=q
   ·rw[if_pos z,z,ek]
   ·rw[if_neg z]
  ·rw[dy.cnt H M.o2 hp,iI H hq _ _ hn hp,if_neg he]
  ·rw[dy.bit H M.o2 hp,iJ H hq _ _ hn hp,if_neg he]
end
theorem E3 {w:Int}{m j:Nat} :j∈onN w m↔j<m∧dm w j=true:=by simp[onN]
theorem zJ {k b:Int}{i j:Nat}(h:eA k b+1=ao k)(hi:(i:Int)<ao k)(hj:(j:Int)<ao k)(bi:cK b i=true)(bj:cK b j=true):i=j:=by
 have hs:=dN k
 have he:=jK (k:=k)
 have hl:(onN b (et (ao k))).length=1:=by unfold eA gh at h;omega
 obtain⟨x,hx⟩:=List.length_eq_one_iff.1 hl
 have m1:i∈onN b (et (ao k)):=E3.2 ⟨by omega,by rw[←pf (by omega)];exact bi⟩
 have m2:j∈onN b (et (ao k)):=E3.2 ⟨by omega,by rw[←pf (by omega)];exact bj⟩
 rw[hx] at m1 m2
 rw[List.mem_singleton.1 m1,List.mem_singleton.1 m2]
def tkC (us pg st:Int)(ws:List Int)(a:Int):Option Int:=(gU (dp us pg st a ws)).map (·.2.1)
theorem tC (us pg st a:Int)(ws:List Int):iZ us pg st a ws=match tkC us pg st ws a with|some k=>(k,true)|none=>(0,false):=by
 unfold iZ tkC
 cases gU (dp us pg st a ws) with
 |none=>rfl
 |some x=>obtain⟨q,k,i⟩:=x;rfl
structure jN (pg st:Int)(a b:List Int):Prop where
 len:b.length=a.length
 off:∀i:Int,aO st pg+62≤i→wAt b i=wAt a i
theorem jN.refl (pg st:Int)(a:List Int):jN pg st a a:=⟨rfl,fun _ _=>rfl⟩
theorem jN.trans {pg st:Int}{a b c:List Int}(h:jN pg st a b)(g:jN pg st b c):jN pg st a c:=⟨g.len.trans h.len,fun i hi=>(g.off i hi).trans (h.off i hi)⟩
structure oM (pg st:Int)(a b:List Int):Prop where
 len:b.length=a.length
 off:∀i:Int,0≤i→i<aO st pg+62→wAt b i=wAt a i
theorem szj {k:Int}{j:Nat}(k0:0≤k)(k4:k≤4)(hj:(j:Int)<ao k):0<szV k∧0≤(j:Int) * szV k∧(j:Int) * szV k<32:=by
 obtain⟨z,rfl⟩:∃z:Nat,k=(z:Int):=⟨k.toNat,by omega⟩
 have hz4:z=0∨z=1∨z=2∨z=3∨z=4:=by omega
 rcases hz4 with rfl|rfl|rfl|rfl|rfl
 ·have hj:(j:Int)<32:=hj
  rw[show szV ((0:Nat):Int)=1 from rfl];omega
 ·have hj:(j:Int)<16:=hj
  rw[show szV ((1:Nat):Int)=2 from rfl];omega
 ·have hj:(j:Int)<8:=hj
  rw[show szV ((2:Nat):Int)=4 from rfl];omega
 ·have hj:(j:Int)<4:=hj
  rw[show szV ((3:Nat):Int)=8 from rfl];omega
 ·have hj:(j:Int)<2:=hj
  rw[show szV ((4:Nat):Int)=16 from rfl];omega
theorem E4 {k:Int}(k0:0≤k)(k4:k≤4)(h:0<szV k)(q:Int):32 * q % szV k=0:=by
 obtain⟨z,rfl⟩:∃z:Nat,k=(z:Int):=⟨k.toNat,by omega⟩
 have hz4:z=0∨z=1∨z=2∨z=3∨z=4:=by omega
 rcases hz4 with rfl|rfl|rfl|rfl|rfl
 ·rw[show szV ((0:Nat):Int)=1 from rfl];omega
 ·rw[show szV ((1:Nat):Int)=2 from rfl];omega
 ·rw[show szV ((2:Nat):Int)=4 from rfl];omega
 ·rw[show szV ((3:Nat):Int)=8 from rfl];omega
 ·rw[show szV ((4:Nat):Int)=16 from rfl];omega
section
variable {pg st:Int}{n:Nat}(H:cB pg st n)
include H
theorem iK {p:Int}(hp:af pg p=true):(0≤kA pg st p∧kA pg st p<aO st pg+62)∧(0≤cA pg st p∧cA pg st p<aO st pg+62)∧(0≤bA pg st p∧bA pg st p<aO st pg+62)∧(0≤nA pg st p∧nA pg st p<aO st pg+62)∧(0≤vA pg st p∧vA pg st p<aO st pg+62):=by
 have:=ag.1 hp
 have h1:=H.st1;have h4:=H.pg1
 have hc:0≤aD pg:=by unfold aD;omega
 have ht:0≤aN st:=by unfold aN;omega
 unfold kA cA bA nA vA aO
 refine⟨⟨?_,?_⟩,⟨?_,?_⟩,⟨?_,?_⟩,⟨?_,?_⟩,?_,?_⟩<;>omega
theorem zK {k:Int}(hk:aU pg k=true):0≤cI pg st k∧cI pg st k<aO st pg+62:=by
 have h1:=H.st1;have h4:=H.pg1
 have:=bT.1 hk
 have ht:0≤aN st:=by unfold aN;omega
 rw[i7 hk]
 unfold aO
 omega
theorem E6 {i:Int}(hi:aO st pg+62≤i):¬cE pg st i∧∀p,af pg p=true→i≠nA pg st p∧i≠vA pg st p:=by
 refine⟨fun h=>by unfold cE at h;omega,fun p hp=>?_⟩
 obtain⟨_,_,_,h1,h2⟩:=iK H hp
 exact⟨by omega,by omega⟩
theorem jO {a b:List Int}(o:dy pg st a b):jN pg st a b:=⟨o.len,fun i hi=>by
 have:=E6 H hi
 have h1:=H.st1;have h4:=H.pg1
 have hc:0≤aD pg:=by unfold aD;omega
 have ht:0≤aN st:=by unfold aN;omega
 exact o.off i (by unfold aO at hi;omega) this.1 this.2⟩
theorem oh {q:Int}(hq:af pg q=true)(b f:Int){ws:List Int}(hn:ws.length=n):jN pg st ws (ct pg st q b f ws):=⟨by simp[ct],fun i hi=>by
 obtain⟨_,⟨h1,h2⟩,⟨h3,h4⟩,_⟩:=iK H hq
 rw[gK H hq b f hn (by omega),if_neg (by omega),if_neg (by omega)]⟩
theorem BP {q:Int}(hq:af pg q=true)(k x:Int){ws:List Int}(hn:ws.length=n):jN pg st ws (bD pg st q k x ws):=⟨bJ H.toPgIn _ _ _ _,fun i hi=>by
 obtain⟨⟨h5,h6⟩,⟨h1,h2⟩,⟨h3,h4⟩,_⟩:=iK H hq
 rw[dt H.toPgIn hq k x hn (by omega),if_neg (by omega),if_neg (by omega),if_neg (by omega)]⟩
theorem ol {p m k:Int}{a b:List Int}(T:Bf pg st p m k a b):jN pg st a b:=⟨T.len,fun i hi=>by
 have h1:=H.st1;have h4:=H.pg1
 have hc:0≤aD pg:=by unfold aD;omega
 have ht:0≤aN st:=by unfold aN;omega
 refine T.off i (by unfold aO at hi;omega) (fun p hp=>?_) (fun k hk=>?_)
 ·obtain⟨⟨_,h1⟩,⟨_,h2⟩,⟨_,h3⟩,_⟩:=iK H hp
  exact⟨by omega,by omega,by omega⟩
 ·have:=zK H hk;omega⟩
theorem BS (us k:Int){G:Int→List Int}{ws:List Int}(P:PgW pg st G ws)(hn:ws.length=n):jN pg st ws (dR us pg st k ws).2:=by
 by_cases hs:ao k=0
 ·rw[mi H us hs ws];exact jN.refl _ _ _
 ·by_cases h1:bB pg st k (ao k).toNat 1 ws= -1
  ·by_cases h2:dD pg st 1 1 ws= -1
   ·rw[mj H us hs h1 h2];exact jN.refl _ _ _
   ·obtain⟨G1,G2,w1,X,hy,_,_,T,n1,_,M,e,_⟩:=qg H us hs P hn h1 rfl h2
    rw[e]
    exact((ol H T).trans (oh H hy _ _ n1)).trans (jO H M.o2)
  ·obtain⟨j,G1,G2,u,X,hq,_,_,_,_,_,_,M,e,_⟩:=qe H us hs P hn rfl h1
   rw[e]
   exact(oh H hq _ _ hn).trans (jO H M.o2)
theorem BT (us a:Int){G:Int→List Int}{ws:List Int}(P:PgW pg st G ws)(hn:ws.length=n)(ho:OkW ws):jN pg st ws (fT us pg st a ws).2:=by
 cases h:gU (dp us pg st a ws) with
 |none=>rw[tz H h];exact jN.refl _ _ _
 |some x =>
  obtain⟨q,k,i⟩:=x
  obtain⟨hq,_,_,_,_,_,_,_,_,_,y1,y2⟩:=mT H us P hn ho h
  by_cases he:aL pg st ws q+1=ao k
  ·obtain⟨G1,G2,u,X,M,e,_⟩:=y2 he
   rw[e];exact(BP H hq _ _ hn).trans (jO H M.o2)
  ·obtain⟨G1,G2,u,X,M,e,_⟩:=y1 he
   rw[e];exact(oh H hq _ _ hn).trans (jO H M.o2)
theorem eE {a b:List Int}(F:oM pg st a b)(p:Int):aj pg st b p=aj pg st a p:=by
 unfold aj
 split
 ·rename_i hp
  obtain⟨⟨h1,h2⟩,_⟩:=iK H hp
  exact F.off _ h1 h2
 ·rfl
theorem io {a b:List Int}(F:oM pg st a b){p:Int}(hp:af pg p=true):aL pg st b p=aL pg st a p:=by
 obtain⟨_,⟨h1,h2⟩,_⟩:=iK H hp
 exact F.off _ h1 h2
theorem lj {a b:List Int}(F:oM pg st a b){p:Int}(hp:af pg p=true):bz pg st b p=bz pg st a p:=by
 obtain⟨_,_,⟨h1,h2⟩,_⟩:=iK H hp
 exact F.off _ h1 h2
theorem BU {a b:List Int}(F:oM pg st a b)(k:Int):aG pg st b k=aG pg st a k:=by
 unfold aG
 cases hk:aU pg k with
 |false=>rfl
 |true =>
  obtain⟨h1,h2⟩:=zK H hk
  rw[F.off _ h1 h2]
theorem om {a b:List Int}(F:oM pg st a b){G:Int→List Int}(P:PgW pg st G a):PgW pg st G b:=by
 obtain⟨L,Q⟩:=P
 have h1:=H.st1;have h4:=H.pg1
 have hc:0≤aD pg:=by unfold aD;omega
 have ht:0≤aN st:=by unfold aN;omega
 refine⟨⟨fun x hx=>?_,L.page,L.nodup,L.apart,fun x p hx hp=>?_,fun x p hx hp=>?_,fun p hp hn=>?_⟩,⟨Q.wf.alike (fun p=>eE H F p) (fun p hp=>io H F hp) (fun p hp=>lj H F hp) (fun p _=>BU H F _),fun p hp h=>?_,fun x p hx=>?_⟩⟩
 ·rw[F.off x (by unfold cE aO at hx;omega) (by unfold cE at hx;omega)];exact L.head x hx
 ·obtain⟨_,_,_,⟨n1,n2⟩,_⟩:=iK H (L.page x hx p hp)
  rw[F.off _ n1 n2];exact L.next x p hx hp
 ·obtain⟨_,_,_,_,v1,v2⟩:=iK H (L.page x hx p hp)
  rw[F.off _ v1 v2];exact L.prev x p hx hp
 ·obtain⟨_,_,_,⟨n1,n2⟩,v1,v2⟩:=iK H hp
  rw[F.off _ n1 n2,F.off _ v1 v2];exact L.free p hp hn
 ·rw[eE H F] at h⊢;rw[io H F hp,lj H F hp];exact Q.cnt p hp h
 ·rw[Q.mem x p hx]
  constructor
  ·rintro⟨z1,z2,z3⟩
   refine⟨z1,?_,?_⟩
   ·rw[eE H F];exact z2
   ·rw[eE H F,io H F z1];exact z3
  ·rintro⟨z1,z2,z3⟩
   rw[eE H F] at z2 z3
   rw[io H F z1] at z3
   exact⟨z1,z2,z3⟩
theorem fg {us a k:Int}{G:Int→List Int}{ws:List Int}(P:PgW pg st G ws):
 tkC us pg st ws a=some k↔∃(q:Int) (j:Nat),af pg q=true∧0≤k∧k≤4∧(j:Int)<ao k∧aj pg st ws q=k+1∧cK (bz pg st ws q) j=true∧a=us+32 * q+j * szV k:=by
 constructor
 ·intro h
  unfold tkC at h
  cases hx:gU (dp us pg st a ws) with
  |none=>rw[hx] at h;cases h
  |some x =>
   obtain⟨q,k',i⟩:=x
   rw[hx] at h
   simp at h
   subst h
   obtain⟨hq,ek,k0,k4,i0,i1,ht,ha⟩:=qh H P.f (iE hx)
   obtain⟨j,rfl⟩:∃j:Nat,i=j:=⟨i.toNat,by omega⟩
   exact⟨q,j,hq,k0,k4,i1,ek,ht.symm,ha⟩
 ·rintro⟨q,j,hq,k0,k4,hj,ek,hb,rfl⟩
  unfold tkC
  rw[E1 hq ⟨k0,k4⟩ hj ek,hb]
  rfl
theorem vK {us a:Int}{x y:List Int}(F:oM pg st x y){G:Int→List Int}(P:PgW pg st G x):tkC us pg st y a=tkC us pg st x a:=by
 apply Option.ext
 intro k
 have e1:=fg H (us:=us) (a:=a) (k:=k) (om H F P)
 have e2:=fg H (us:=us) (a:=a) (k:=k) P
 rw[e1,e2]
 constructor
 ·rintro⟨q,j,hq,k0,k4,hj,ek,hb,ha⟩
  rw[eE H F] at ek;rw[lj H F hq] at hb
  exact⟨q,j,hq,k0,k4,hj,ek,hb,ha⟩
 ·rintro⟨q,j,hq,k0,k4,hj,ek,hb,ha⟩
  exact⟨q,j,hq,k0,k4,hj,by rw[eE H F];exact ek,by rw[lj H F hq];exact hb,ha⟩
theorem vL {us k q q':Int}{j j':Nat}(hq:af pg q=true)(hq':af pg q'=true)(k0:0≤k)(k4:k≤4)(hj:(j:Int)<ao k)(hj':(j':Int)<ao k)(e:us+32 * q+j * szV k=us+32 * q'+j' * szV k):q=q'∧j=j':=by
 have e1:=jm us hq k0 k4 hj
 have e2:=jm us hq' k0 k4 hj'
 have eq:q=q':=by rw[←e1,←e2,e]
 subst eq
 refine⟨rfl,?_⟩
 have hs:szV k≠0:=fun z=>by
  have:=vH.1 z
  omega
 have:(j:Int) * szV k=(j':Int) * szV k:=by omega
 have:=Int.eq_of_mul_eq_mul_right hs this
 omega
theorem vM {us k k' q q':Int}{j j':Nat}(hq:af pg q=true)(hq':af pg q'=true)(k0:0≤k)(k4:k≤4)(k0':0≤k')(k4':k'≤4)(hj:(j:Int)<ao k)(hj':(j':Int)<ao k')(e:us+32 * q+j * szV k=us+32 * q'+j' * szV k'):q=q':=by
 have e1:=jm us hq k0 k4 hj
 have e2:=jm us hq' k0' k4' hj'
 rw[←e1,←e2,e]
theorem vN {k:Int}(k0:0≤k)(k4:k≤4){j:Nat}(hj:(j:Int)<ao k):inR (j:Int)=true:=(dr _).2 ⟨by omega,by have:=dN k;omega⟩
theorem E7 (us k:Int){G:Int→List Int}{ws:List Int}(P:PgW pg st G ws)(hn:ws.length=n):
 (dR us pg st k ws=((0,false),ws)) ∨
 ∃(a:Int) (G2:Int→List Int) (X:List Int),dR us pg st k ws=((a,true),X)∧PgW pg st G2 X∧jN pg st ws X∧0≤k∧k≤4∧tkC us pg st ws a=none∧tkC us pg st X a=some k∧(∀b,b≠a→tkC us pg st X b=tkC us pg st ws b)∧us≤a∧a<us+32 * pg∧(a-us) % szV k=0:=by
 rcases vI H us k P hn with e|⟨q,j,f,G2,X,hq,k0,k4,hj,hb,e,Q,hp,hw⟩
 ·exact .inl e
 have hin:=vN H k0 k4 hj
 have T:=BS H us k P hn
 rw[e] at T
 have hp1:=fun p h=>(hp p h).1
 have hp3:=fun p h=>(hp p h).2.2
 have hkq:=hp1 q hq;rw[if_pos rfl] at hkq
 have hbq:=hp3 q hq;rw[if_pos rfl] at hbq
 have hfree:aj pg st ws q=k+1∨(aj pg st ws q=0∧∀i:Int,cK (bz pg st ws q) i=false):=by
  rcases hw with⟨w1,_⟩|⟨w1,_⟩
  ·exact .inl w1
  ·exact .inr ⟨w1,fun i=>by rw[(P.f.free q hq w1).2];simp[cK,kI]⟩
 obtain⟨kz,kz1,kz2⟩:=szj k0 k4 hj
 have hqq:=ag.1 hq
 refine .inr ⟨us+32 * q+j * szV k,G2,X,e,Q,T,k0,k4,?_,?_,fun b hne=>?_,by omega,by omega,?_⟩
 ·cases z:tkC us pg st ws (us+32 * q+j * szV k) with
  |none=>rfl
  |some k' =>
   obtain⟨q',j',hq',k0',k4',hj',ek,hb',ha⟩:=(fg H P).1 z
   obtain rfl:=vM H hq hq' k0 k4 k0' k4' hj hj' ha
   rcases hfree with w|⟨_,w⟩
   ·have:k'=k:=by omega
    subst this
    obtain⟨_,rfl⟩:=vL H hq hq k0 k4 hj hj' ha
    rw[hb] at hb';cases hb'
   ·rw[w] at hb';cases hb'
 ·exact(fg H Q).2 ⟨q,j,hq,k0,k4,hj,hkq,by rw[hbq];exact GH hin,rfl⟩
 ·apply Option.ext
  intro c
  rw[fg H Q,fg H P]
  constructor
  ·rintro⟨q',j',hq',c0,c4,hj',ek,hb',rfl⟩
   rw[hp1 q' hq'] at ek
   rw[hp3 q' hq'] at hb'
   by_cases z:q'=q
   ·subst z
    rw[if_pos rfl] at ek hb'
    have:c=k:=by omega
    subst this
    have nj:j'≠j:=fun y=>hne (by rw[y])
    rw[lI hin (by omega)] at hb'
    rcases hfree with w|⟨_,w⟩
    ·exact⟨q',j',hq',c0,c4,hj',by omega,hb',rfl⟩
    ·rw[w] at hb';cases hb'
   ·rw[if_neg z] at ek hb'
    exact⟨q',j',hq',c0,c4,hj',ek,hb',rfl⟩
  ·rintro⟨q',j',hq',c0,c4,hj',ek,hb',rfl⟩
   refine⟨q',j',hq',c0,c4,hj',?_,?_,rfl⟩
   ·rw[hp1 q' hq']
    by_cases z:q'=q
    ·subst z
     rcases hfree with w|⟨_,w⟩
     ·rw[if_pos rfl];omega
     ·rw[w] at hb';cases hb'
    ·rw[if_neg z];exact ek
   ·rw[hp3 q' hq']
    by_cases z:q'=q
    ·subst z
     rw[if_pos rfl]
     rcases hfree with w|⟨_,w⟩
     ·have:c=k:=by omega
      subst this
      have nj:j'≠j:=fun y=>hne (by rw[y])
      rw[lI hin (by omega)];exact hb'
     ·rw[w] at hb';cases hb'
    ·rw[if_neg z];exact hb'
 ·have e1:us+32 * q+j * szV k-us=32 * q+j * szV k:=by omega
  rw[e1,Int.add_emod,Int.mul_emod_left,Int.add_zero,Int.emod_emod_of_dvd _ (Int.dvd_refl _)]
  have:(32:Int) * q % szV k=0:=E4 k0 k4 kz q
  exact this
theorem E8 (us:Int){a k:Int}{G:Int→List Int}{ws:List Int}(P:PgW pg st G ws)(hn:ws.length=n)(ho:OkW ws)(h:tkC us pg st ws a=some k):
 ∃(G2:Int→List Int) (X:List Int),fT us pg st a ws=(true,X)∧PgW pg st G2 X∧jN pg st ws X∧tkC us pg st X a=none∧(∀b,b≠a→tkC us pg st X b=tkC us pg st ws b):=by
 have h0:=h
 unfold tkC at h0
 cases hx:gU (dp us pg st a ws) with
 |none=>rw[hx] at h0;cases h0
 |some x =>
  obtain⟨q,k',i⟩:=x
  rw[hx] at h0
  simp at h0
  subst h0
  have T:=BT H us a P hn ho
  obtain⟨hq,ek,k0,k4,i0,i1,ht,ha⟩:=qh H P.f (iE hx)
  obtain⟨j,rfl⟩:∃j:Nat,i=j:=⟨i.toNat,by omega⟩
  have hin:=vN H k0 k4 i1
  obtain⟨G2,X,e,Q,hp⟩:=vJ H us P hn ho hx
  rw[e] at T
  have hc:=P.f.cnt q hq (by omega)
  rw[ek,show k'+1-1=k' by omega] at hc
  have ht:=ht.symm
  refine⟨G2,X,e,Q,T,?_,fun b hne=>?_⟩
  ·cases z:tkC us pg st X a with
   |none=>rfl
   |some c =>
    obtain⟨q',j',hq',c0,c4,hj',ek',hb',ha'⟩:=(fg H Q).1 z
    obtain rfl:=vM H hq hq' k0 k4 c0 c4 i1 hj' (ha.symm.trans ha')
    obtain⟨p1,_,p3⟩:=hp q hq
    rw[if_pos rfl] at p1 p3
    by_cases he:aL pg st ws q+1=ao k'
    ·rw[if_pos he] at p1;omega
    ·rw[if_neg he] at p1 p3
     have:c=k':=by omega
     subst this
     obtain⟨_,rfl⟩:=vL H hq hq k0 k4 i1 hj' (ha.symm.trans ha')
     rw[p3,ru hin] at hb'
     cases hb'
  ·apply Option.ext
   intro c
   rw[fg H Q,fg H P]
   constructor
   ·rintro⟨q',j',hq',c0,c4,hj',ek',hb',rfl⟩
    obtain⟨p1,_,p3⟩:=hp q' hq'
    by_cases z:q'=q
    ·subst z
     rw[if_pos rfl] at p1 p3
     by_cases he:aL pg st ws q'+1=ao k'
     ·rw[if_pos he] at p1;omega
     ·rw[if_neg he] at p1 p3
      have:c=k':=by omega
      subst this
      have nj:j'≠j:=fun y=>hne (by rw[y,ha])
      rw[p3,j0 hin (by omega)] at hb'
      exact⟨q',j',hq',c0,c4,hj',ek,hb',rfl⟩
    ·rw[if_neg z] at p1 p3
     exact⟨q',j',hq',c0,c4,hj',by rw[←p1];exact ek',by rw[←p3];exact hb',rfl⟩
   ·rintro⟨q',j',hq',c0,c4,hj',ek',hb',rfl⟩
    obtain⟨p1,_,p3⟩:=hp q' hq'
    refine⟨q',j',hq',c0,c4,hj',?_,?_,rfl⟩
    all_goals by_cases z:q'=q
    ·subst z
     have:c=k':=by omega
     subst this
     have nj:j'≠j:=fun y=>hne (by rw[y,ha])
     rw[if_pos rfl] at p1
     by_cases he:aL pg st ws q'+1=ao c
     ·exact absurd (zJ (by omega) i1 hj' ht hb') (fun y=>nj y.symm)
     ·rw[if_neg he] at p1;exact p1
    ·rw[if_neg z] at p1;rw[p1];exact ek'
    ·subst z
     have:c=k':=by omega
     subst this
     have nj:j'≠j:=fun y=>hne (by rw[y,ha])
     rw[if_pos rfl] at p3
     by_cases he:aL pg st ws q'+1=ao c
     ·exact absurd (zJ (by omega) i1 hj' ht hb') (fun y=>nj y.symm)
     ·rw[if_neg he] at p3
      rw[p3,j0 hin (by omega)];exact hb'
    ·rw[if_neg z] at p3;rw[p3];exact hb'
theorem E9 (us k:Int){G:Int→List Int}{ws:List Int}(P:PgW pg st G ws)(hn:ws.length=n):∀p,af pg p=true→(aj pg st (dR us pg st k ws).2 p=6↔aj pg st ws p=6)∧(aj pg st ws p=6→aL pg st (dR us pg st k ws).2 p=aL pg st ws p):=by
 rcases vI H us k P hn with e|⟨q,j,f,G2,X,hq,k0,k4,hj,hb,e,Q,hp,hw⟩
 ·rw[e];exact fun p hp=>⟨Iff.rfl,fun _=>rfl⟩
 ·rw[e]
  intro p hpp
  obtain⟨p1,p2,_⟩:=hp p hpp
  show(aj pg st X p=6↔_)∧(_→aL pg st X p=_)
  by_cases z:p=q
  ·rw[if_pos z] at p1 p2
   subst z
   have:aj pg st ws p≠6:=by rcases hw with w|w<;>omega
   exact⟨⟨fun y=>by omega,fun y=>absurd y this⟩,fun y=>absurd y this⟩
  ·rw[if_neg z] at p1 p2
   rw[p1,p2];exact⟨Iff.rfl,fun _=>rfl⟩
theorem Fa (us a:Int){G:Int→List Int}{ws:List Int}(P:PgW pg st G ws)(hn:ws.length=n)(ho:OkW ws):∀p,af pg p=true→(aj pg st (fT us pg st a ws).2 p=6↔aj pg st ws p=6)∧(aj pg st ws p=6→aL pg st (fT us pg st a ws).2 p=aL pg st ws p):=by
 cases h:gU (dp us pg st a ws) with
 |none=>rw[tz H h];exact fun p hp=>⟨Iff.rfl,fun _=>rfl⟩
 |some x =>
  obtain⟨q,k,i⟩:=x
  obtain⟨hq,ek,k0,k4,_⟩:=mT H us P hn ho h
  obtain⟨G2,X,e,Q,hp⟩:=vJ H us P hn ho h
  rw[e]
  intro p hpp
  obtain⟨p1,p2,_⟩:=hp p hpp
  show(aj pg st X p=6↔_)∧(_→aL pg st X p=_)
  by_cases z:p=q
  ·rw[if_pos z] at p1 p2
   subst z
   have h1:aj pg st ws p≠6:=by omega
   have h2:aj pg st X p≠6:=by rw[p1];split<;>omega
   exact⟨⟨fun y=>absurd y h2,fun y=>absurd y h1⟩,fun y=>absurd y h1⟩
  ·rw[if_neg z] at p1 p2
   rw[p1,p2];exact⟨Iff.rfl,fun _=>rfl⟩
theorem BV (us a:Int):tkC us pg st (bQ n) a=none:=by
 have P:=rP H
 cases z:tkC us pg st (bQ n) a with
 |none=>rfl
 |some k =>
  obtain⟨q,j,hq,k0,k4,hj,ek,_⟩:=(fg H P).1 z
  have hz:∀i:Int,wAt (bQ n) i=0:=fun i=>by
   unfold wAt bQ
   simp only[List.getD,List.getElem?_replicate]
   split<;>rfl
  unfold aj at ek
  rw[if_pos hq,hz] at ek
  omega
theorem Fb {us a k:Int}{G:Int→List Int}{ws:List Int}(P:PgW pg st G ws)(h:tkC us pg st ws a=some k):us≤a∧a<us+32 * pg∧0≤k∧k≤4∧(a-us) % szV k=0∧ao k≠0:=by
 obtain⟨q,j,hq,k0,k4,hj,_,_,rfl⟩:=(fg H P).1 h
 obtain⟨kz,kz1,kz2⟩:=szj k0 k4 hj
 have hqq:=ag.1 hq
 refine⟨by omega,by omega,k0,k4,?_,by omega⟩
 have e1:us+32 * q+j * szV k-us=32 * q+j * szV k:=by omega
 rw[e1,Int.add_emod,Int.mul_emod_left,Int.add_zero,Int.emod_emod_of_dvd _ (Int.dvd_refl _)]
 exact E4 k0 k4 kz q
end
structure Fam where
 m:Nat
 b:Nat→Int
 l:Nat→Int
 k:Nat→Int
structure Fam.In (S:Fam)(lo:Int)(n:Nat):Prop where
 lo:∀i,i<S.m→lo≤S.b i∧0≤S.l i∧S.b i+S.l i<n
 ap:∀i j,i<j→j<S.m→S.b i+S.l i<S.b j
def dT (C:Nat→List Int)(i:Nat)(xs:List Int):Nat→List Int:=fun j=>if j=i then xs else C j
theorem lm (C:Nat→List Int)(i:Nat):dT C i (C i)=C:=by funext j;unfold dT;split<;>simp_all
def fC (S:Fam)(C:Nat→List Int):Nat→List (Int×Int)
 | 0=> []
 |m+1=>fC S C m++(C m).map fun a=>(a,S.k m)
theorem ml (S:Fam)(C:Nat→List Int)(i:Nat)(xs:List Int):∀m,m≤i→fC S (dT C i xs) m=fC S C m
 | 0,_=>rfl
 |m+1,h=>by
  rw[fC,fC,ml S C i xs m (by omega)]
  have:dT C i xs m=C m:=by unfold dT;rw[if_neg (by omega)]
  rw[this]
theorem jn (S:Fam)(C:Nat→List Int)(i:Nat)(xs:List Int)(x:Int):∀m,i<m→(fC S (dT C i (xs++ [x])) m).Perm ((x,S.k i)::fC S (dT C i xs) m)
 | 0,h=>by omega
 |m+1,h=>by
  rw[fC,fC]
  by_cases e:m=i
  ·subst e
   rw[ml S C m _ m (Nat.le_refl _),ml S C m _ m (Nat.le_refl _)]
   have e1:dT C m (xs++ [x]) m=xs++ [x]:=by unfold dT;rw[if_pos rfl]
   have e2:dT C m xs m=xs:=by unfold dT;rw[if_pos rfl]
   rw[e1,e2,List.map_append,←List.append_assoc]
   exact List.perm_append_comm
  ·have e1:dT C i (xs++ [x]) m=dT C i xs m:=by unfold dT;rw[if_neg e,if_neg e]
   rw[e1]
   exact(jn S C i xs x m (by omega)).append_right _
structure Gh where
 r:Int→Int
 top:Int
 z:Int→Int
def zL (pg st:Int)(r:Int→Int)(ws:List Int):Prop:=∀p,af pg p=true→(aj pg st ws p=6→1≤r p∧aL pg st ws p=r p)∧(aj pg st ws p≠6→r p=0)
theorem zL.same {pg st:Int}{r:Int→Int}{a b:List Int}(h:zL pg st r a)(hs:∀p,af pg p=true→(aj pg st b p=6↔aj pg st a p=6)∧(aj pg st a p=6→aL pg st b p=aL pg st a p)):zL pg st r b:=fun p hp=>by
 obtain⟨h1,h2⟩:=h p hp
 obtain⟨s1,s2⟩:=hs p hp
 exact⟨fun e=>by rw[s2 (s1.1 e)];exact h1 (s1.1 e),fun e=>h2 fun z=>e (s1.2 z)⟩
structure FrI (us pg st:Int)(n:Nat)(S:Fam)(r:Gh)(ws:List Int)(C:Nat→List Int)(O:List (Int×Int)):Prop where
 len:ws.length=n
 ok:OkW ws
 pgs:∃G,PgW pg st G ws
 runs:zL pg st r.r ws
 top:aO st pg+62≤r.top∧∀i,i<S.m→S.b i+S.l i<r.top
 rest:∀i:Int,r.top≤i→wAt ws i=r.z i
 keeps:∀i,i<S.m→fw ws (S.b i) (S.l i) (C i)
 nodup:((O++fC S C S.m).map (·.1)).Nodup
 acc:∀a k,tkC us pg st ws a=some k↔(a,k)∈O++fC S C S.m
theorem FrI.perm {us pg st:Int}{n:Nat}{S:Fam}{r:Gh}{ws:List Int}{C:Nat→List Int}{O O':List (Int×Int)}(h:FrI us pg st n S r ws C O)(p:O.Perm O'):FrI us pg st n S r ws C O' :=
 ⟨h.len,h.ok,h.pgs,h.runs,h.top,h.rest,h.keeps,((p.append_right _).map _).nodup_iff.1 h.nodup,fun a k=>(h.acc a k).trans (p.append_right _).mem_iff⟩
theorem fw.off {ws ws':List Int}{b l:Int}{xs:List Int}(h:fw ws b l xs)(o:∀i:Int,b≤i→i≤b+l→wAt ws' i=wAt ws i):fw ws' b l xs:=by
 have hf:=h.fit
 exact⟨by rw[o b (by omega) (by omega)];exact h.cnt,h.fit,fun j hj=>by rw[o _ (by omega) (by omega)];exact h.at' j hj⟩
section
variable {us pg st:Int}{n:Nat}{S:Fam}{r:Gh}(H:cB pg st n)(hS:S.In (aO st pg+62) n)(hn:n≤10000)
include H hS hn
theorem yq {i:Nat}(hi:i<S.m):lN (S.b i) (S.l i) n:=by
 have h1:=H.st1;have h4:=H.pg1
 have hc:0≤aD pg:=by unfold aD;omega
 have ht:0≤aN st:=by unfold aN;omega
 obtain⟨a1,a2,a3⟩:=hS.lo i hi
 exact⟨by unfold aO at a1;omega,a2,a3,hn⟩
theorem jP {ws ws':List Int}(T:jN pg st ws ws'){C:Nat→List Int}(h:∀i,i<S.m→fw ws (S.b i) (S.l i) (C i)):∀i,i<S.m→fw ws' (S.b i) (S.l i) (C i):=fun i hi =>
 (h i hi).off fun j h1 h2=>T.off j (by have:=(hS.lo i hi).1;omega)
theorem FrI.grab {ws:List Int}{C:Nat→List Int}{O:List (Int×Int)}(h:FrI us pg st n S r ws C O)(k:Int):
 dR us pg st k ws=((0,false),ws)∨∃a X,dR us pg st k ws=((a,true),X)∧0≤k∧k≤4∧us≤a∧a<us+32 * pg∧(a-us) % szV k=0∧FrI us pg st n S r X C ((a,k)::O):=by
 obtain⟨G,P⟩:=h.pgs
 rcases E7 H us k P h.len with e|⟨a,G2,X,e,Q,T,k0,k4,n0,n1,no,a0,a1,a2⟩
 ·exact .inl e
 ·have hw:=jj H (Bu H us k) h.len h.ok
  rw[e] at hw
  refine .inr ⟨a,X,e,k0,k4,a0,a1,a2,hw.2,hw.1,⟨G2,Q⟩,h.runs.same (by have:=E9 H us k P h.len;rw[e] at this;exact this),h.top,(fun i hi=>(T.off i (by have:=h.top.1;omega)).trans (h.rest i hi)),jP H hS hn T h.keeps,?_,fun b c=>?_⟩
  ·rw[List.cons_append,List.map_cons,List.nodup_cons]
   refine⟨fun z=>?_,h.nodup⟩
   obtain⟨⟨a',c⟩,hc,rfl⟩:=List.mem_map.1 z
   have:=(h.acc a' c).2 hc
   rw[n0] at this;cases this
  ·rw[List.cons_append,List.mem_cons]
   by_cases z:b=a
   ·subst z
    rw[n1]
    constructor
    ·intro q;cases q;exact .inl rfl
    ·rintro(q|q)
     ·cases q;rfl
     ·have:=(h.acc b c).2 q
      rw[n0] at this;cases this
   ·rw[no b z,h.acc b c]
    exact⟨.inr,fun q=>q.resolve_left fun y=>z (by cases y;rfl)⟩
theorem FrI.back {ws:List Int}{C:Nat→List Int}{O:List (Int×Int)}{a k:Int}(h:FrI us pg st n S r ws C ((a,k)::O)):
 ∃X,fT us pg st a ws=(true,X)∧FrI us pg st n S r X C O:=by
 obtain⟨G,P⟩:=h.pgs
 have ht:tkC us pg st ws a=some k:=(h.acc a k).2 (by simp)
 obtain⟨G2,X,e,Q,T,n0,no⟩:=E8 H us P h.len h.ok ht
 have hw:=jj H (Bv H us a) h.len h.ok
 rw[e] at hw
 have hnd:=h.nodup
 rw[List.cons_append,List.map_cons,List.nodup_cons] at hnd
 refine⟨X,e,hw.2,hw.1,⟨G2,Q⟩,h.runs.same (by have:=Fa H us a P h.len h.ok;rw[e] at this;exact this),h.top,(fun i hi=>(T.off i (by have:=h.top.1;omega)).trans (h.rest i hi)),jP H hS hn T h.keeps,hnd.2,fun b c=>?_⟩
 by_cases z:b=a
 ·subst z
  rw[n0]
  refine⟨(fun q=>by cases q),fun q=>?_⟩
  exact absurd (List.mem_map.2 ⟨(b,c),q,rfl⟩) hnd.1
 ·rw[no b z,h.acc b c,List.cons_append,List.mem_cons]
  exact⟨fun q=>q.resolve_left fun y=>z (by cases y;rfl),.inr⟩
theorem FrI.turn {ws X:List Int}{C:Nat→List Int}{O O':List (Int×Int)}(h:FrI us pg st n S r ws C O){i:Nat}(hi:i<S.m)(hX:X.length=n)(oX:OkW X)(hoff:∀j:Int,0≤j→(j<S.b i∨S.b i+S.l i<j)→wAt X j=wAt ws j){xs:List Int}(hk:fw X (S.b i) (S.l i) xs)(hp:(O++fC S C S.m).Perm (O'++fC S (dT C i xs) S.m)):FrI us pg st n S r X (dT C i xs) O':=by
 obtain⟨G,P⟩:=h.pgs
 have h1:=H.st1;have h4:=H.pg1
 have hc:0≤aD pg:=by unfold aD;omega
 have ht:0≤aN st:=by unfold aN;omega
 have hb:=hS.lo i hi
 have F:oM pg st ws X:=⟨by rw[hX,h.len],fun j h0 hj=>hoff j h0 (.inl (by omega))⟩
 refine⟨hX,oX,⟨G,om H F P⟩,h.runs.same (fun p hp=>⟨by rw[eE H F],fun _=>io H F hp⟩),h.top,(fun j hj=>by have h0:=h.top.1;have h2:=h.top.2 i hi;unfold aO at h0;rw[hoff j (by omega) (.inr (by omega))];exact h.rest j hj),fun j hj=>?_,(hp.map _).nodup_iff.1 h.nodup,fun a k=>?_⟩
 ·by_cases e:j=i
  ·subst e
   unfold dT;rw[if_pos rfl];exact hk
  ·unfold dT;rw[if_neg e]
   refine(h.keeps j hj).off fun x x0 x1=>hoff x (by have:=(hS.lo j hj).1;unfold aO at this;omega) ?_
   rcases Nat.lt_or_gt_of_ne e with q|q
   ·have:=hS.ap j i q hi;omega
   ·have:=hS.ap i j q hj;omega
 ·rw[vK H F P,h.acc a k];exact hp.mem_iff
theorem FrI.pop {ws:List Int}{C:Nat→List Int}{O:List (Int×Int)}(h:FrI us pg st n S r ws C O){i:Nat}(hi:i<S.m):
 (C i= []∧dd (S.b i) (S.l i) ws=((0,false),ws))∨∃xs x X,C i=xs++ [x]∧dd (S.b i) (S.l i) ws=((x,true),X)∧FrI us pg st n S r X (dT C i xs) ((x,S.k i)::O):=by
 have hst:=yq H hS hn hi
 have hk:=h.keeps i hi
 rcases List.eq_nil_or_concat (C i) with e|⟨xs,x,e⟩
 ·rw[e] at hk
  exact .inl ⟨e,hk.none⟩
 ·rw[List.concat_eq_append] at e
  rw[e] at hk
  obtain⟨e1,e2,e3⟩:=hk.pop hst h.len
  obtain⟨_,o2⟩:=Gk hst h.len
  have hw:=jj H (wV hst) h.len h.ok
  refine .inr ⟨xs,x,(dd (S.b i) (S.l i) ws).2,e,by rw[←e1],h.turn H hS hn hi hw.2 hw.1 o2 e3 ?_⟩
  have:=jn S C i xs x S.m hi
  rw[←e,lm] at this
  refine(this.append_left O).trans ?_
  rw[List.cons_append]
  exact List.perm_middle
theorem FrI.push {ws:List Int}{C:Nat→List Int}{O:List (Int×Int)}{i:Nat}{a:Int}(hi:i<S.m)(h:FrI us pg st n S r ws C ((a,S.k i)::O))(ha:W64 a):
 (((C i).length:Int)<S.l i∧∃X,cm (S.b i) (S.l i) a ws=(true,X)∧FrI us pg st n S r X (dT C i (C i++ [a])) O)∨(S.l i≤((C i).length:Int)∧cm (S.b i) (S.l i) a ws=(false,ws)):=by
 have hst:=yq H hS hn hi
 have hk:=h.keeps i hi
 obtain⟨e1,e2,e3⟩:=hk.push (x:=a) hst h.len
 obtain⟨_,o2⟩:=C5 (x:=a) hst h.len
 by_cases hl:((C i).length:Int)<S.l i
 ·rw[if_pos hl] at e3
  have hw:=jj H (uf hst ha) h.len h.ok
  refine .inl ⟨hl,(cm (S.b i) (S.l i) a ws).2,?_,h.turn H hS hn hi hw.2 hw.1 o2 e3 ?_⟩
  ·have:(cm (S.b i) (S.l i) a ws).1=true:=by rw[e1];simpa using hl
   rw[←this]
  ·have:=jn S C i (C i) a S.m hi
   rw[lm] at this
   refine List.Perm.trans ?_ (this.append_left O).symm
   rw[List.cons_append]
   exact List.perm_middle.symm
 ·refine .inr ⟨by omega,?_⟩
  have hk2:=hk.kept
  have hf:=hk.fit
  unfold cm
  simp only[hk2]
  rw[if_neg hl]
end
end Go.Proofs.YtfddhogffpkhcaaGreatDoor
