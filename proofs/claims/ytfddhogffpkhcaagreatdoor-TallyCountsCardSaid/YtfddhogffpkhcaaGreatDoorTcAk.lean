/-
  Which numbers may be: the landed Right, and the document's; the least and the greatest of seven numbers.
-/
import Derived.Test.YtfddhogffpkhcaaGreatDoorTcAi
import Derived.ChangeKeysEq
import Derived.Test.YtfddhogffpkhcaaGreatDoorTcAj
import Derived.Test.YtfddhogffpkhcaaGreatDoorTcAe
import Derived.Test.YtfddhogffpkhcaaGreatDoorTcAd
import Derived.Test.YtfddhogffpkhcaaGreatDoorTcAh
import Derived.Test.YtfddhogffpkhcaaGreatDoorTcAa
import Derived.ProofKit
import Derived.Deep.Fields
set_option maxRecDepth 100000
set_option maxHeartbeats 8000000
set_option linter.all false
namespace Go.Proofs.YtfddhogffpkhcaaGreatDoor
open Go.RowKit Go.Sort Go.Maps Go.Shelf
def GF (x y:Int):Int:=if y<x then y else x
def xR (x y:Int):Int:=if x<y then y else x
section
variable {P:Program}{ops:Array Oper}{rest:List Oper}{o:Oper}{a:Act}{w:World}{Q:Exit→Act→World→Prop}
theorem GG (x:Int)(xs:List Int)(ats:Array TypeId)(ty:TypeId)(w:World):(Builtin.min_ ats ty ((x::xs).map (Value.int .i64)).toArray).run P w=.ok (.int .i64 (xs.foldl GF x)) w:=by
 show Sem.run P ((xs.map (Value.int .i64)).foldlM Builtin.min2 (.int .i64 x)) w=_
 induction xs generalizing x with
 |nil=>rfl
 |cons y xs ih =>
  rw[List.map_cons,List.foldlM_cons,Sem.run_bind]
  show Result.andThen _ _=_
  rw[show Sem.run P (Builtin.min2 (.int .i64 x) (.int .i64 y)) w=.ok (.int .i64 (GF x y)) w from rfl]
  exact ih (GF x y)
theorem zu (x:Int)(xs:List Int)(ats:Array TypeId)(ty:TypeId)(w:World):(Builtin.max_ ats ty ((x::xs).map (Value.int .i64)).toArray).run P w=.ok (.int .i64 (xs.foldl xR x)) w:=by
 show Sem.run P ((xs.map (Value.int .i64)).foldlM Builtin.max2 (.int .i64 x)) w=_
 induction xs generalizing x with
 |nil=>rfl
 |cons y xs ih =>
  rw[List.map_cons,List.foldlM_cons,Sem.run_bind]
  show Result.andThen _ _=_
  rw[show Sem.run P (Builtin.max2 (.int .i64 x) (.int .i64 y)) w=.ok (.int .i64 (xR x y)) w from rfl]
  exact ih (xR x y)
end
def EW (s:TS):Int:= [s.ak,s.wo,s.ke,s.op,s.ma,s.us].foldl GF s.bl
def xS (a:TS):Bool:=decide (0≤EW a) && (decide (xR a.wo a.ke≤35184372088832) && (decide (a.us≤1099511627776) && (decide (xR a.ak a.bl≤a.wo) && (decide (a.us≤a.ma) && (a.op==wrap64 (wrap64 (wrap64 (a.us * 32)-a.wo)-a.ke))))))
theorem GH (a:TS)(w:World):Calls Tryz.prog 18 #[.agg a.arr] w (aE w (.bool (xS a))):=by
 obtain⟨L,hL⟩:∃L,EW a=L:=⟨_,rfl⟩
 have rL:∀W,Sem.run Tryz.prog (Builtin.min_ #[3,3,3,3,3,3,3] 3 #[.int .i64 a.bl,.int .i64 a.ak,.int .i64 a.wo,.int .i64 a.ke,.int .i64 a.op,.int .i64 a.ma,.int .i64 a.us]) W=.ok (.int .i64 L) W:=fun W=>hL▸GG a.bl [a.ak,a.wo,a.ke,a.op,a.ma,a.us] _ _ W
 obtain⟨X,hX⟩:∃X,xR a.wo a.ke=X:=⟨_,rfl⟩
 have rX:∀W,Sem.run Tryz.prog (Builtin.max_ #[3,3] 3 #[.int .i64 a.wo,.int .i64 a.ke]) W=.ok (.int .i64 X) W:=fun W=>hX▸zu a.wo [a.ke] _ _ W
 obtain⟨Y,hY⟩:∃Y,xR a.ak a.bl=Y:=⟨_,rfl⟩
 have rY:∀W,Sem.run Tryz.prog (Builtin.max_ #[3,3] 3 #[.int .i64 a.ak,.int .i64 a.bl]) W=.ok (.int .i64 Y) W:=fun W=>hY▸zu a.ak [a.bl] _ _ W
 unfold xS
 rw[hL,hX,hY]
 clear hL hX hY
 obtain⟨w1,e1,h0,m1,s1⟩:=df w (.cells a.arr 38)
 obtain⟨a0,a1,a2,a3,a4,a5,a6⟩:=je a h0
 have MM:=hQQ m1
 clear h0 m1 s1
 by_cases h0:0≤L
 ·have d0:decide (0≤L)=true:=decide_eq_true h0
  clear h0
  by_cases h1:X≤35184372088832
  ·have d1:decide (X≤35184372088832)=true:=decide_eq_true h1
   clear h1
   by_cases h2:a.us≤1099511627776
   ·have d2:decide (a.us≤1099511627776)=true:=decide_eq_true h2
    clear h2
    by_cases h3:Y≤a.wo
    ·have d3:decide (Y≤a.wo)=true:=decide_eq_true h3
     clear h3
     by_cases h4:a.us≤a.ma
     ·have d4:decide (a.us≤a.ma)=true:=decide_eq_true h4
      clear h4
      go_enter Tryz.func18,Tryz.ntmps18
      go_wp2_with fail
      go_ret
      exact⟨by simp only[d0,d1,d2,d3,d4,Bool.true_and,Bool.not_true,Bool.not_false,Int.mul_comm 32];rfl,MM.o⟩
     ·have d4:decide (a.us≤a.ma)=false:=decide_eq_false h4
      clear h4
      go_enter Tryz.func18,Tryz.ntmps18
      go_wp2_with fail
      go_ret
      exact⟨by simp only[d4,d0,d1,d2,d3,Bool.true_and,Bool.false_and,Bool.not_true,Bool.not_false];rfl,MM.o⟩
    ·have d3:decide (Y≤a.wo)=false:=decide_eq_false h3
     clear h3
     go_enter Tryz.func18,Tryz.ntmps18
     go_wp2_with fail
     go_ret
     exact⟨by simp only[d3,d0,d1,d2,Bool.true_and,Bool.false_and,Bool.not_true,Bool.not_false];rfl,MM.o⟩
   ·have d2:decide (a.us≤1099511627776)=false:=decide_eq_false h2
    clear h2
    go_enter Tryz.func18,Tryz.ntmps18
    go_wp2_with fail
    go_ret
    exact⟨by simp only[d2,d0,d1,Bool.true_and,Bool.false_and,Bool.not_true,Bool.not_false];rfl,MM.o⟩
  ·have d1:decide (X≤35184372088832)=false:=decide_eq_false h1
   clear h1
   go_enter Tryz.func18,Tryz.ntmps18
   go_wp2_with fail
   go_ret
   exact⟨by simp only[d1,d0,Bool.true_and,Bool.false_and,Bool.not_true,Bool.not_false];rfl,MM.o⟩
 ·have d0:decide (0≤L)=false:=decide_eq_false h0
  clear h0
  go_enter Tryz.func18,Tryz.ntmps18
  go_wp2_with fail
  go_ret
  exact⟨by simp only[d0,Bool.true_and,Bool.false_and,Bool.not_true,Bool.not_false];rfl,MM.o⟩
def eqT (a b:TS):Bool:=(a.bl==b.bl) && ((a.ak==b.ak) && ((a.wo==b.wo) && ((a.ke==b.ke) && ((a.op==b.op) && ((a.ma==b.ma) && (a.us==b.us))))))
theorem zw (a b:TS)(W:World):(Op.equalIn 10000 38 (.agg a.arr) (.agg b.arr)).run Tryz.prog W=.ok (eqT a b) W:=by
 rw[show(10000:Nat)=9999+1 from rfl,run_equalIn_struct W 9999 _ _ _ (by kernel_rfl) (by kernel_rfl)]
 have hu:Tryz.prog.underlying 3=some (.int .i64):=Tryz.underlying3
 have e:=fun x y=>run_equalIn_int (P:=Tryz.prog) W 9998 3 .i64 .i64 x y hu
 have hf : (Tryz.prog.fieldsOf 38).toList.map (fun f => (f.name == "_", f.type, f.offset)) = [(false, 3, 0), (false, 3, 1), (false, 3, 2), (false, 3, 3), (false, 3, 4), (false, 3, 5), (false, 3, 6)] := by kernel_rfl
 have p:∀(xs:Array Value) (k:Nat) (v:Value),xs[k]?=some v→(part 3 xs k).run Tryz.prog W=.ok v W:=fun xs k v h=>run_part_plain W (by kernel_rfl) h
 have key : ∀ (f : Field) (fs : List Field) (k : Nat) (x y : Int), (f.name == "_", f.type, f.offset) = (false, 3, k) → a.arr[k]? = some (.int .i64 x) → b.arr[k]? = some (.int .i64 y) → ∀ r, (Op.eqFields 9999 a.arr b.arr fs).run Tryz.prog W = .ok r W → (Op.eqFields 9999 a.arr b.arr (f :: fs)).run Tryz.prog W = .ok ((x == y) && r) W := by
  intro f fs k x y hk hx hy r hr
  simp only[Prod.mk.injEq] at hk
  obtain⟨h1,h2,h3⟩:=hk
  have h1' : f.name ≠ "_" := by simpa using h1
  rw[Op.eqFields,if_pos h1',h2,h3]
  simp only[Sem.run_bind,p _ _ _ hx,p _ _ _ hy,Result.andThen_ok,e]
  cases x==y
  ·simp
  ·simpa using hr
 generalize (Tryz.prog.fieldsOf 38).toList=fs at hf⊢
 have hl:=congrArg List.length hf
 simp only[List.length_map,List.length_cons,List.length_nil] at hl
 obtain⟨f0,f1,f2,f3,f4,f5,f6,rfl⟩:∃f0 f1 f2 f3 f4 f5 f6,fs= [f0,f1,f2,f3,f4,f5,f6]:=by
  rcases fs with _|⟨f0,_|⟨f1,_|⟨f2,_|⟨f3,_|⟨f4,_|⟨f5,_|⟨f6,_|⟨f7,fs⟩⟩⟩⟩⟩⟩⟩⟩<;>simp at hl
  exact⟨_,_,_,_,_,_,_,rfl⟩
 simp only[List.map_cons,List.map_nil,List.cons.injEq,and_true] at hf
 obtain⟨h0,h1,h2,h3,h4,h5,h6⟩:=hf
 unfold eqT
 refine key f0 _ 0 _ _ h0 rfl rfl _ ?_
 refine key f1 _ 1 _ _ h1 rfl rfl _ ?_
 refine key f2 _ 2 _ _ h2 rfl rfl _ ?_
 refine key f3 _ 3 _ _ h3 rfl rfl _ ?_
 refine key f4 _ 4 _ _ h4 rfl rfl _ ?_
 refine key f5 _ 5 _ _ h5 rfl rfl _ ?_
 rw[key f6 [] 6 a.us b.us h6 rfl rfl true rfl,Bool.and_true]
theorem xT {ops:Array Oper}{rest:List Oper}{o:Oper}{a:Act}{w:World}{Q:Exit→Act→World→Prop}(x y:Operand)(ho:o.op=.binOp .eql 38 x y 38)(hw:Region.wanted o (yielded ops a.tmps)=true)(s t:TS)(hx:a.eval x=.agg s.arr)(hy:a.eval y=.agg t.arr)(r:Bool)(hr:eqT s t=r)
 (h:wpList Tryz.prog ops Q rest (a.put o.dst (.bool r)) w):wpList Tryz.prog ops Q (o::rest) a w :=
 eB hw fun K hK=>by
  subst hr
  have hg:Sem.run Tryz.prog (eqGuard .eql 38 x y (.agg s.arr) (.agg t.arr)) w=.ok () w:=run_eqGuard_agg w .eql 38 x y s.arr t.arr (by kernel_rfl)
  have hb:Sem.run Tryz.prog (binOp .eql 38 (.agg s.arr) (.agg t.arr)) w=.ok (.bool (eqT s t)) w:=by
   rw[run_eql_struct,zw]
   rfl
  unfold Oper.wp execOp
  simp only[ho,hx,hy,Sem.run_bind,hg,hb,Result.andThen_ok]
  exact hK _ _ h
def el:Cfg:=⟨2,2,4,2,0,0,1,2,0,0,1⟩
def zx:Cfg:=⟨2,2,4,2,0,0,1,2,0,0,2⟩
theorem jg:el.Ok:=by constructor<;>decide
theorem fX:el.words=(384:Nat):=by decide
theorem k7:cB el.pg el.st 384:= { st1:=by decide,st2:=by decide,pg1:=by decide,pg2:=by decide,top:=by decide,top5:=by decide,top62:=by decide }
def oQ:Cfg:=⟨aL 0 1 64,aL 0 1 8,aL 0 1 256,aL 0 1 64,aL 0 0 16,aL 0 0 64,aL 0 1 1099511627776,aL 0 1 8,aL 0 0 8,aL 0 0 16,aL 0 1 8⟩
theorem xU:oQ.Ok:=yq 0 0 0 0 0 0 0 0 0 0 0
def GI:Cfg:=⟨2,2,2,2,0,0,1,2,0,0,2⟩
theorem xV:j6 oQ=GI:=by rfl
def ow:AlT:=alW el 0 (fun _=> []) 3 1 (bL 384)
def BE:List Int:=(lT (bG el 256) 3 ow.2).2
theorem zy:ow.1.1.1=(256,4)∧ow.1.2=0:=⟨by kernel_rfl,by kernel_rfl⟩
theorem tx:ow.2.length=384:=by kernel_rfl
theorem mV:BE.length=384:=by kernel_rfl
theorem GJ:OkW BE:=by
 have h:BE.all (fun x=>decide (-9223372036854775808≤x) && decide (x≤9223372036854775807))=true:=by kernel_rfl
 intro x hx
 have:=List.all_eq_true.1 h x hx
 simp only[Bool.and_eq_true,decide_eq_true_eq] at this
 unfold W64
 omega
def EX:TS:=⟨1,3,4,0,28,4,1⟩
theorem Iz:tlV el BE=EX:=by kernel_rfl
theorem BF:xS EX=true:=by kernel_rfl
theorem GK {w:World}{g n:Nat}(h:w.heap[g]?=some (.cells (iC (bL n)) 3 (0,0)))(hn:n≤1000000):Ws w g n (bL n):=
 ⟨_,h,by simp[bL],by simp only[maxLen];omega,by simp[iC,bL],fun i hi=>by simp[bL] at hi;simp[iC,bL,hi]⟩
theorem EY (w:World)(g:Nat)(hw:Ws w g 384 (bL 384)):Calls Tryz.prog 26 #[.agg el.cells,.slice (some ⟨g,0,none⟩) 384 384,.int .i64 0,.agg #[.slice none 0 0],.int .i64 3,.int .i64 1] w (AlR w g 384 0 ow):=by
 have F:=rx jg k7 (by rw[fX]) el.us
 have:=rI jg (bL 384) (by rw[hH];exact k7) (by rw[hH];omega) (by rw[hH,fX]) (P:=fun _=> []) (O:=[]) (u:=0) (fun j _=>by decide) (by rw[hH];exact F) g 384 (by decide) 3 1 (by decide) (.slice none 0 0) [] ve (by decide) w (IR.nil 0 w) hw
 rw[hH] at this
 exact this
theorem EZ (w:World)(g:Nat)(hw:Ws w g 384 ow.2):Calls Tryz.prog 27 #[.agg el.cells,.slice (some ⟨g,0,none⟩) 384 384,.int .i64 256,.int .i64 3] w (nL w g 384 (.bool (lT (bG el 256) 3 ow.2).1) BE):=by
 have:=vi jg ow.2 (by rw[tx];exact k7) (by rw[tx,fX]) g 384 256 3 w hw
 rw[tx] at this
 exact this
theorem qm (bt:Nat)(w:World)(hs:iQ bt w):Calls Tryz.prog 7 #[] w (aE w (.bool true)):=by
 have SM:=hQQ (qU xU 0 0 0 0 0 0 0 0 0 0 0 _ w (fun W=>uc 0 0 0 0 0 0 0 0 0 0 0 W (by omega) (by omega) (by omega) (by omega) (by omega) (by omega) (by omega) (by omega) (by omega) (by omega) (by omega)) rfl)
 have D0:Hq ((j6 oQ).cells.setIfInBounds 2 (.int .i64 4)=zx.cells):=hQQ (by rw[xV];rfl)
 have D9:Hq (zx.cells.setIfInBounds 10 (.int .i64 1)=el.cells):=hQQ (by rfl)
 generalize j6 oQ=d at SM D0
 have R5:=hQQ jg
 have hc4:=iY d
 have HS:=hQQ hs
 have l0:=hs.lt0
 have lb:=hs.lt
 clear hs
 go_enter Tryz.func7,Tryz.ntmps7
 go_wp2_with fail
 refine(SM.o).mono ?_
 rintro e w1 ⟨rfl,m1⟩
 have MA:=hQQ m1
 have hs1:=m1.size
 have C2:=aH w1 #[.int .i64 0,.int .i64 0,.int .i64 0,.int .i64 0,.int .i64 0,.int .i64 0,.int .i64 0,.int .i64 0,.int .i64 0,.int .i64 0,.int .i64 0] 23
 have C3:=setRow_heap _ _ _ d.cells _ _ C2
 have M5:=MA.o.trans (((ae.refl w1).alloc (.cells #[.int .i64 0,.int .i64 0,.int .i64 0,.int .i64 0,.int .i64 0,.int .i64 0,.int .i64 0,.int .i64 0,.int .i64 0,.int .i64 0,.int .i64 0] 23)).setRow w1.heap.size d.cells (Nat.le_refl _))
 obtain⟨w5,e5⟩:∃w5,(w1.alloc (.cells #[.int .i64 0,.int .i64 0,.int .i64 0,.int .i64 0,.int .i64 0,.int .i64 0,.int .i64 0,.int .i64 0,.int .i64 0,.int .i64 0,.int .i64 0] 23)).setRow w1.heap.size d.cells=w5:=⟨_,rfl⟩
 rw[e5] at C3 M5
 have C2:=hQQ C2
 have C3:=hQQ C3
 have M5:=hQQ M5
 have E5:=hQQ e5
 clear m1 SM e5
 go_wp2_with (first
  |(refine wpList_store_row rfl 23 _ _ rfl w1.heap.size d.cells rfl rfl 23 _ C2.o (by kernel_rfl) rfl hc4 ?_;rw[E5.o])
  |(refine cI rfl 3 _ _ rfl rfl w1.heap.size 2 rfl 4 rfl _ _ C3.o (by simp[Cfg.cells]) (by kernel_rfl) ?_;rw[D0.o];intro w6 hb6 ht6;have HB6:=hQQ hb6;have HM6:Hq (ae w w6):=hQQ (Turned.mono (au (F:=fun _=>False) M5.o ht6 (fun k q=> .inr (by omega))) (fun _ _ q=>q));clear hb6 ht6)
  |(refine cI rfl 3 _ _ rfl rfl w1.heap.size 10 rfl 1 rfl _ _ HB6.o (by simp[Cfg.cells]) (by kernel_rfl) ?_;rw[D9.o];intro w66 hb6 ht6;have HB:=hQQ hb6;have HM:Hq (ae w w66):=hQQ (Turned.mono (au (F:=fun _=>False) HM6.o ht6 (fun k q=> .inr (by omega))) (fun _ _ q=>q));clear hb6 ht6;obtain⟨w7,e7,hb7,m7,s7⟩:=df w66 (.cells #[.int .i64 0,.int .i64 0,.int .i64 0,.int .i64 0,.int .i64 0,.int .i64 0,.int .i64 0,.int .i64 0,.int .i64 0,.int .i64 0,.int .i64 0] 27);have HB7:=hQQ hb7;obtain⟨w8,e8⟩:∃w8,w7.setRow w66.heap.size el.cells=w8:=⟨_,rfl⟩;have m8:ae w66 w8:=(by rw[←e8];exact m7.setRow _ _ (Nat.le_refl _));have HB8:Hq (w8.heap[w66.heap.size]?=some (.cells el.cells 27 (0,0))):=hQQ (by rw[←e8];exact setRow_heap _ _ _ _ _ _ hb7);have HC8:=hQQ (m8.block HB.o);have HM8:=hQQ (HM.o.trans m8);clear hb7 m7 m8 s7)
  |(refine tH rfl rfl rfl HB.o (by kernel_rfl) ?_)
  |(refine po rfl _ rfl el rfl ?_)
  |(refine wpList_store_row rfl 27 _ _ rfl w66.heap.size _ rfl rfl 27 _ HB7.o (by kernel_rfl) rfl (iY el) ?_;rw[e8])
  |(first|(refine az rfl rfl rfl HB8.o (by kernel_rfl) ?_)|(refine az rfl rfl rfl HB8.o (by kernel_rfl) ?_)))
 refine(uf R5.o _).mono ?_
 rw[fX]
 rintro e w9 ⟨rfl,m9⟩
 obtain⟨w10,hmk,N1,m10,s10⟩:∃w10,(Instr.makeSlice 28 (.int .i64 384) (.int .i64 384)).run Tryz.prog w9=.ok (.slice (some ⟨w9.heap.size,0,none⟩) 384 384) w10∧w10.heap[w9.heap.size]?=some (.cells (iC (bL 384)) 3 (0,0))∧ae w9 w10∧w10.heap.size=w9.heap.size+1 :=
  ⟨_,j9 384 (by omega) w9,aH w9 _ _,(ae.refl _).alloc _,by simp⟩
 have mm:=m9.trans m10
 have M10:=hQQ (HM8.o.trans mm)
 have LA:=hQQ (mm.block HB8.o)
 have CA:=hQQ (mm.block HC8.o)
 have WA:Hq (Ws w10 w9.heap.size 384 (bL 384)):=hQQ (GK N1 (by omega))
 have gl:w66.heap.size<w9.heap.size:=by have:=ac HB8.o;have:=m9.size;omega
 have gc:w1.heap.size<w66.heap.size:=ac HB.o
 have gw:w.heap.size≤w1.heap.size:=hs1
 clear m9 m10 mm N1 s10 HB HB6 HB7 HB8 HC8 HM HM6 HM8 C2 C3 M5 E5 e7 e8 D0 D9 hc4
 go_wp2_with (first|(refine az rfl rfl rfl LA.o (by kernel_rfl) ?_)|(refine az rfl rfl rfl LA.o (by kernel_rfl) ?_))
 refine(EY _ _ WA.o).mono ?_
 rintro e w11 ⟨v11,its,rfl,hir,_,hl8,hx11,ht11⟩
 obtain⟨av,cv,rfl,_⟩:=hir.at
 obtain⟨nv,hnv⟩:∃nv,its.length=nv:=⟨_,rfl⟩
 rw[zy.1,zy.2,hnv]
 have X11:=hQQ hx11
 have L11:=hQQ ((ht11.block _ (ac LA.o) (by omega)).trans LA.o)
 have C11:=hQQ ((ht11.block _ (ac CA.o) (by omega)).trans CA.o)
 have M11:Hq (ae w w11):=hQQ (Turned.mono (au (F:=fun _=>False) M10.o ht11 (fun k q=> .inr (by omega))) (fun _ _ q=>q))
 obtain⟨w12,e12,hb12,m12,s12⟩:=df w11 (.cells #[.slice none 0 0] 62)
 have B12:=hQQ hb12
 obtain⟨w13,e13⟩:∃w13,w12.setRow w11.heap.size #[.slice av nv cv]=w13:=⟨_,rfl⟩
 have m13:ae w11 w13:=by rw[←e13];exact m12.setRow _ _ (Nat.le_refl _)
 have X13:=hQQ (X11.o.more m13)
 have L13:=hQQ (m13.block L11.o)
 have C13:=hQQ (m13.block C11.o)
 have M13:=hQQ (M11.o.trans m13)
 clear hir hl8 hx11 ht11 hnv WA LA CA M10 X11 L11 C11 hb12 m12 s12 m13
 go_wp2_with (first
  |(refine wpList_store_row rfl 62 _ _ rfl _ _ rfl rfl 62 _ B12.o (by kernel_rfl) rfl (by simp[Value.oneCell']) ?_;rw[e13])
  |(first|(refine az rfl rfl rfl L13.o (by kernel_rfl) ?_)|(refine az rfl rfl rfl L13.o (by kernel_rfl) ?_)))
 refine(EZ _ _ X13.o).mono ?_
 rintro e w14 ⟨rfl,hx14,ht14⟩
 have C14:=hQQ ((ht14.block _ (ac C13.o) (by omega)).trans C13.o)
 have M14:Hq (ae w w14):=hQQ (Turned.mono (au (F:=fun _=>False) M13.o ht14 (fun k q=> .inr (by omega))) (fun _ _ q=>q))
 have X14:=hQQ hx14
 have g14:w9.heap.size<w14.heap.size:=hx14.lt
 clear e12 e13 B12 X13 L13 C13 M13 hx14 ht14
 go_wp2_with (refine tH rfl rfl rfl C14.o (by kernel_rfl) ?_)
 refine(I8 R5.o _).mono ?_
 rintro e w15 ⟨rfl,m15⟩
 obtain⟨w16,e16,hb16,m16,s16⟩:=df w15 (.cells CW 33)
 have B16:=hQQ hb16
 obtain⟨w17,e17⟩:∃w17,w16.setRow w15.heap.size el.arr=w17:=⟨_,rfl⟩
 have m17:ae w15 w17:=by rw[←e17];exact m16.setRow _ _ (Nat.le_refl _)
 have hb17:w17.heap[w15.heap.size]?=some (.cells el.arr 33 (0,0)):=by rw[←e17];exact setRow_heap _ _ _ _ _ _ hb16
 obtain⟨w18,e18,hb18,m18,s18⟩:=df w17 (.cells #[.int .i64 0,.int .i64 0,.int .i64 0,.int .i64 0,.int .i64 0,.int .i64 0,.int .i64 0] 38)
 have M18:=hQQ (M14.o.trans (m15.trans (m17.trans m18)))
 have X18:=hQQ (X14.o.more (m15.trans (m17.trans m18)))
 have lt17:=ac hb17
 have g15:=m15.size
 have g17:=m17.size
 have DO:=hQQ (Iy jg (bt:=bt) BE (by rw[mV];exact k7.toPgIn) (by rw[mV,fX]) (by rw[mV];omega) GJ w18 w15.heap.size w17.heap.size (some ⟨w9.heap.size,0,none⟩) 384 ⟨m18.block hb17,⟨noT,hb18⟩,HS.o.more M18.o⟩ ⟨by omega,by omega,by omega⟩ X18.o.words)
 rw[mV] at DO
 have g18:w.heap.size≤w17.heap.size:=by have:=M14.o.size;omega
 clear hb16 m16 s16 m17 hb17 hb18 m18 s18 m15 lt17 g15 g17 X14 M14 X18 C14
 go_wp2_with (refine wpList_store_row rfl 33 _ _ rfl w15.heap.size el.arr rfl rfl 33 _ B16.o (by kernel_rfl) rfl (yw el) ?_;rw[e17])
 refine DO.o.mono ?_
 rintro e w19 ⟨v1,v2,rfl,_,hx,ht⟩
 rw[Iz] at hx
 have BX:=hQQ hx
 have FIN:=hQQ (Turned.mono (au (F:=fun _=>False) M18.o ht (fun k q=> .inr (by omega))) (fun _ _ q=>q))
 have TR:=hQQ (fun W=>BF▸GH EX W)
 clear hx ht DO e16 e17 e18 B16 M18
 go_wp2_with (first|(refine xT _ _ (by with_reducible rfl) rfl EX EX rfl rfl true (by decide) ?_)|(refine o9 rfl rfl rfl BX.o (by kernel_rfl) ?_)|(refine o9 rfl rfl rfl BX.o (by kernel_rfl) ?_))
 refine(TR.o _).mono ?_
 rintro e w20 ⟨rfl,h20⟩
 have F20:=hQQ (FIN.o.trans h20)
 clear h20
 go_wp2_with fail
 go_ret
 exact⟨rfl,F20.o⟩
theorem zA {a b:TS} :eqT a b=true↔a=b:=by
 cases a;cases b
 simp[eqT]
theorem ox {ops:Array Oper}{rest:List Oper}{o:Oper}{a:Act}{C:World→Prop}{Q:Act→Prop}(x y:Operand)(ho:o.op=.binOp .eql 38 x y 38)(hw:Region.wanted o (yielded ops a.tmps)=true)(s t:TS)(hx:a.eval x=.agg s.arr)(hy:a.eval y=.agg t.arr)(r:Bool)(hr:eqT s t=r)
 (h:wpQuiet Tryz.prog ops C Q rest (a.put o.dst (.bool r))):wpQuiet Tryz.prog ops C Q (o::rest) a:=by
 refine o8 (.bool r) hw (fun W hW=>?_) h
 subst hr
 have hg:Sem.run Tryz.prog (eqGuard .eql 38 x y (.agg s.arr) (.agg t.arr)) W=.ok () W:=run_eqGuard_agg W .eql 38 x y s.arr t.arr (by kernel_rfl)
 have hb:Sem.run Tryz.prog (binOp .eql 38 (.agg s.arr) (.agg t.arr)) W=.ok (.bool (eqT s t)) W:=by
  rw[run_eql_struct,zw]
  rfl
 unfold Oper.quietAt execOp
 simp only[ho,hx,hy,Sem.run_bind,hg,hb,Result.andThen_ok]
 exact⟨rfl,rfl⟩
def IA (w:World)(u:Value)(xs:List Int):Prop:=(u=.slice none 0 0∧xs= [])∨∃p c,u=.slice (some p) xs.length c∧∀j x,(xs.map (Value.int .i64))[j]?=some x→w.cell? (p.add j)=some x
theorem zB {o:Oper}{a:Act}{K:Act→World→Prop}{Q:Exit→Act→World→Prop}{w:World}{base:Nat}{v u:Value}{xs ys:List Int}(s x:Operand)
 (ho:o.op=.call { callee:= .builtin .append,args:= #[s,x],argTypes:= #[28,28] })
 (hs:a.eval s=v) (hv:Rw base w v xs) (hb:base≤w.heap.size) (hx:a.eval x=u) (hu:IA w u ys) (hl:xs.length+ys.length≤1000000)
 (h:∀v' w',Rw base w' v' (xs++ys)→Turned (fun k=>v.ownBlock=some k) w w'→(∀k,v'.ownBlock=some k→v.ownBlock=some k∨k=w.heap.size)→K (a.put o.dst v') w'):o.wp Tryz.prog a w K Q:=by
 obtain⟨i,i1,i2,i3,i4⟩:=ig
 rcases hu with⟨rfl,rfl⟩|⟨p,c,rfl,hc⟩
 ·have hrun:=run_append_owned_none (P:=Tryz.prog) (w:=w) base 28 o.type 3 i 1 Tryz.underlying28 i1 v xs.length _ hv
  unfold Oper.wp
  simp[execOp,ho,resolve,invoke,builtin,hs,hx,hrun,Result.andThen]
  exact h _ _ (by simpa using hv) (Turned.refl _ _) (fun k q=> .inl q)
 ·obtain⟨v',w',hr,h2,h3,_,h5⟩:=run_append_own_at (P:=Tryz.prog) w base 28 o.type 3 i _ 1 8 Tryz.underlying28 i1 i2 i3 i4 rfl (by omega) v xs.length _ hv p ys.length c (ys.map (Value.int .i64)) (by simp) hc (by intro u hu;obtain⟨z,_,rfl⟩:=List.mem_map.1 hu;rfl) (by simp only[maxLen];omega) (by omega) hb
  unfold Oper.wp execOp
  simp only[ho,resolve,invoke,builtin,Sem.run_bind,Sem.run_pure,Result.andThen_ok,List.map_toArray,List.map_cons,List.map_nil,hs,hx,hr]
  refine h v' w' ?_ ⟨h3.os,h3.tape,h3.output,h3.size,fun k hk hne=>h3.block k hk (fun e=>hne e.symm)⟩ (fun k q=>?_)
  ·unfold Rw
   rw[List.length_append,List.map_append]
   exact h2
  ·rcases h5 with h5|h5
   ·exact .inl (by rw[←h5];exact q)
   ·rw[h5] at q;cases q;exact .inr rfl
theorem GM (w:World):Rw w.heap.size (w.alloc (.cells #[] 3)) (.slice (some ⟨w.heap.size,0,none⟩) 0 0) [] :=
 ⟨rfl,.inr ⟨_,0,_,rfl,Nat.le_refl _,bm w _,Nat.le_refl _,by simp[maxLen],rfl,rfl⟩⟩
theorem xW {o:Oper}{a:Act}{w:World}{K:Act→World→Prop}{Q:Exit→Act→World→Prop}(ho:o.op=.buildSlice 28 0 #[])(h:K (a.put o.dst (.slice (some ⟨w.heap.size,0,none⟩) 0 0)) (w.alloc (.cells #[] 3))):Oper.wp Tryz.prog o a w K Q:=by
 unfold Oper.wp Oper.upon execOp
 simp only[ho]
 generalize a.eval=ρ
 go_simp
 exact h
def hiJ (g m cap:Nat):Addr:=if cap=m+1 then⟨g,0,none⟩ else⟨g,m+1,none⟩
section
variable {C:World→Prop}{ops:Array Oper}{o':Oper}{a:Act}
theorem vD {x y:Operand}{g n cap m:Nat}(hw:Region.wanted o' (yielded ops a.tmps)=true)(ho:o'.op=.slice 28 x none (some y) none)(hx:a.eval x=.slice (some ⟨g,0,none⟩) n cap)(hy:a.eval y=.int .i64 (m:Int))(hm:m≤cap):bo Tryz.prog ops C o' (.slice (some ⟨g,0,none⟩) m cap) a:=by
 have d1:decide (m≤cap)=true:=by simp[hm]
 refine .inl ⟨hw,fun W hW=>?_⟩
 unfold execOp
 generalize a.eval=ρ at hx hy⊢
 simp only[ho,hx,hy]
 go_simp
theorem vE {x y:Operand}{g n cap m:Nat}(hw:Region.wanted o' (yielded ops a.tmps)=true)(ho:o'.op=.slice 28 x (some y) none none)(hx:a.eval x=.slice (some ⟨g,0,none⟩) n cap)(hy:a.eval y=.int .i64 ((m:Int)+1))(hm:m<n)(hn:n≤cap):bo Tryz.prog ops C o' (.slice (some (hiJ g m cap)) (n-(m+1)) (cap-(m+1))) a:=by
 refine .inl ⟨hw,fun W hW=>?_⟩
 unfold execOp
 generalize a.eval=ρ at hx hy⊢
 simp only[ho,hx,hy]
 go_simp
 rw[if_pos ⟨by omega,by omega⟩]
 unfold hiJ
 split<;>rfl
end
theorem BI {W:World}{g cv j:Nat}{xs:List Int}(hc:∀i x,(xs.map (Value.int .i64))[i]?=some x→W.cell? ⟨g,i,none⟩=some x)(hj:j≤xs.length):IA W (.slice (some ⟨g,0,none⟩) j cv) (xs.take j):=by
 have hl:(xs.take j).length=j:=by simp;omega
 refine .inr ⟨⟨g,0,none⟩,cv,by rw[hl],fun i x hi=>?_⟩
 rw[eJ,Nat.zero_add]
 refine hc i x ?_
 rw[List.map_take,List.getElem?_take] at hi
 split at hi
 ·exact hi
 ·cases hi
theorem BJ {W:World}{g cv m c:Nat}{xs:List Int}(hc:∀i x,(xs.map (Value.int .i64))[i]?=some x→W.cell? ⟨g,i,none⟩=some x)(hm:m<xs.length)(hn:xs.length≤cv):IA W (.slice (some (hiJ g m cv)) (xs.length-(m+1)) c) (xs.drop (m+1)):=by
 have hl:(xs.drop (m+1)).length=xs.length-(m+1):=by simp
 refine .inr ⟨hiJ g m cv,c,by rw[hl],fun i x hi=>?_⟩
 have hi':=(List.getElem?_eq_some_iff.1 hi).1
 rw[List.length_map,hl] at hi'
 have e:hiJ g m cv=⟨g,m+1,none⟩:=by unfold hiJ;rw[if_neg (by omega)]
 rw[e,eJ]
 refine hc _ x ?_
 rw[List.map_drop,List.getElem?_drop] at hi
 exact hi
theorem Rw.lies {b:Nat}{w:World}{xs:List Int}{g n cap:Nat}(h:Rw b w (.slice (some ⟨g,0,none⟩) n cap) xs):n=xs.length∧xs.length≤cap∧g<w.heap.size∧b≤g∧∀i x,(xs.map (Value.int .i64))[i]?=some x→w.cell? ⟨g,i,none⟩=some x:=by
 obtain⟨a,c,e,hr⟩:=h.reads
 cases e
 rcases h.2 with⟨q,_⟩|⟨g',cp,cur,q,hb,hg,hcap,_,hs,ht⟩
 ·cases q
 ·cases q
  refine⟨rfl,by omega,ac hg,hb,fun i x hi=>?_⟩
  have hi':=(List.getElem?_eq_some_iff.1 hi).1
  rw[List.length_map] at hi'
  obtain⟨g2,e2,_,_,hc⟩:=hr i hi'
  cases e2
  rw[hc i hi',←hi,List.getElem?_map,List.getElem?_eq_getElem hi']
  simp[List.getD,hi']
theorem BK {c:Cfg}(R:c.Ok){n:Nat}(H:cB c.pg c.st n)(hw:(n:Int)=c.words)(hn:n≤1000){s:LSt}{ws:List Int}{r:Gh}{O:List (Int×Int)}{RL:List Int}(h:LdI c n s ws r O RL){x:Int}(hx:x∈s.all)(g:Nat)(v:Value)(its:List It)(he:Eqv s.P its)(hlen:its.length≤10000)(w:World)(hv:IR 0 w v its)(hW:Ws w g n ws):
 Calls Tryz.prog 30 #[.agg c.cells,.slice (some ⟨g,0,none⟩) n n,.int .i64 0,.agg #[v],.int .i64 x] w (ql w g n its.length (frV c 0 s.P x ws).1 (frV c 0 s.P x ws).2):=by
 obtain⟨C,hF⟩:=h.fri
 obtain⟨G,PW⟩:=hF.pgs
 have hl:ws.length=n:=hF.len
 unfold frV
 rcases List.mem_append.1 (h.all.mem_iff.1 hx) with q|q
 ·obtain⟨⟨y,k⟩,hm,hy⟩:=List.mem_map.1 q
  have hy:y=x:=hy
  subst hy
  obtain⟨O1,O2,eO⟩:=List.append_of_mem hm
  subst eO
  have tk:tkC c.us c.pg c.st ws y=some k:=(hF.acc y k).2 (by simp)
  rw[tk]
  obtain⟨_,_,_,k0,k4,_⟩:=(fm H PW).1 tk
  obtain⟨kn,rfl⟩:∃kn:Nat,k=(kn:Int):=⟨k.toNat,by omega⟩
  have pm:(O1++(y,(kn:Int))::O2).Perm ((y,(kn:Int))::(O1++O2)):=List.perm_middle
  have hF2:FrI c.us c.pg c.st n (bg c) r ws C (puO s.P++((y,(kn:Int))::(O1++O2))):=hF.perm (pm.append_left _)
  have:=Bs R ws (by rw[hl];exact H) (by omega) (by rw[hl];exact hw) (by rw[hl];exact hF2) g n (u:=0) (by have:=R.cp1;simp;omega) (by omega) v its he hlen w hv hW
  rw[hl] at this
  exact this
 ·obtain⟨p,hpm,hy⟩:=List.mem_map.1 q
  have hy:c.us+32 * p=x:=hy
  subst hy
  obtain⟨hpg,hr⟩:=(h.run p).1 hpm
  have h6:ao c.pg c.st ws p=6:=Classical.byContradiction fun q=>hr ((hF.runs p hpg).2 q)
  rw[qj H PW hpg h6]
  have:=Bt R ws (by rw[hl];exact H) (by omega) (by rw[hl];exact hw) (by rw[hl];exact hF) hpg h6 g n (u:=0) (P:=s.P) v its he hlen w hv hW
  rw[hl] at this
  show Calls Tryz.prog 30 _ w (ql w g n its.length s.P (dR c.pg c.st ((c.us+32 * p-c.us) / 32) ws).2)
  rw[show(c.us+32 * p-c.us) / 32=p by omega]
  exact this
theorem IB {b:Nat}{w:World}{v:Value}{its:List It}(h:IR b w v its):(#[v]:Array Value).all (·.oneCell')=true:=by
 obtain⟨a,c,rfl,_⟩:=h.at
 simp[Value.oneCell']
def jI (c:Cfg):List nw→LSt→List Int→LSt×List Int
 | [],s,ws=>(s,ws)
 |t::l,s,ws=>jI c l (fV c t.1 t.2.1 t.2.2.1 (nthI t.2.2.2 s.all.length) s ws).1 (fV c t.1 t.2.1 t.2.2.1 (nthI t.2.2.2 s.all.length) s ws).2
def ls0:LSt:=⟨fun _=> [],[]⟩
theorem zC {c:Cfg}(R:c.Ok){n:Nat}(H:cB c.pg c.st n)(hw:(n:Int)=c.words):LdI c n ls0 (bL n) (gh0 c) [] [] :=
 ⟨⟨_,rx R H hw c.us⟩,fun j _=>by have:=R.pr1;simp[ls0];omega,List.nodup_nil,fun p=>by simp[gh0],by simp[ls0],rfl,fun a _ _=> .inl rfl⟩
theorem IC (z:Int)(h0:0≤z)(h1:z<18446744073709551616):IntKind.u64.wrap z=z:=by
 show z % 18446744073709551616=z
 omega
theorem JA {b:Nat}{w:World}{v:Value}{xs:List Int}(h:Rw b w v xs){k:Nat}(q:v.ownBlock=some k):∃cs fr,w.heap[k]?=some (.cells cs 3 fr):=by
 rcases h.2 with⟨rfl,_⟩|⟨g,cap,cur,rfl,hb,hg,_⟩
 ·cases q
 ·cases q;exact⟨_,_,hg⟩
theorem zD {w w':World}{g n:Nat}{ws:List Int}{S:Nat→Prop}(h:Ws w g n ws)(t:Turned S w w')(hs:¬S g):Ws w' g n ws:=by
 obtain⟨cur,hg,h1,h2,h3,h4⟩:=h
 exact⟨cur,(t.block _ (ac hg) hs).trans hg,h1,h2,h3,h4⟩
theorem ID {c:Cfg}(R:c.Ok){n:Nat}(H:cB c.pg c.st n)(hw:(n:Int)=c.words)(hn:n≤1000){s:LSt}{ws:List Int}(h:∃r O RL,LdI c n s ws r O RL)(m al:Int):∃x:Unit,(alW c 0 s.P m al ws).2.length=n∧x=():=by
 obtain⟨r,O,RL,hI⟩:=h
 obtain⟨C,hF⟩:=hI.fri
 refine⟨(),?_,rfl⟩
 rcases zj R H hw hn 0 hI.lim hF m al with⟨e,_,ea⟩|⟨a,k,P',X,C',ea,_,_,_,_,_,hF',_⟩|⟨p,q,X,ea,_,_,_,_,_,_,hF'⟩
 ·rw[ea];exact hF.len
 ·rw[ea];exact hF'.len
 ·rw[ea];exact hF'.len
structure oG (c:Cfg)(n gR gL gW gP bb:Nat)(s:LSt)(ws:List Int)(v9:Value)(m:Nat)(w:World):Prop where
 lay:w.heap[gL]?=some (.cells c.cells 27 (0,0))
 res:w.heap[gR]?=some (.cells #[.int .i64 0,.int .i64 0,.int .i64 0,.int .i64 0,.int .i64 0,.int .i64 0,.int .i64 0,.int .i64 0,.int .i64 0,.int .i64 0,.int .i64 0] 27 (0,0))
 pur:∃a1 n1 c1 its,w.heap[gP]?=some (.cells #[.slice a1 n1 c1] 62 (0,0))∧IR 0 w (.slice a1 n1 c1) its∧its.length=n1∧Eqv s.P its∧n1≤9 * m
 row:Rw bb w v9 s.all
 all:s.all.length≤m
 words:Ws w gW n ws
 len:ws.length=n
 inv:∃r O RL,LdI c n s ws r O RL
theorem gm {P:Program}{ops:Array Oper}{rest:List Oper}{o:Oper}{a:Act}{w:World}{Q:Exit→Act→World→Prop}(hgd:o.guard=none)(ty:TypeId)(x:Operand)(ho:o.op=.load ty x)
 (s off:Nat) (hx:a.eval x=.pointer (some ⟨s,off,none⟩)) (v0 v1 v2 v3:Value) (d:TypeDesc) (hg:w.cell? ⟨s,off,none⟩=some v0∧w.cell? ⟨s,off+1,none⟩=some v1∧w.cell? ⟨s,off+2,none⟩=some v2∧w.cell? ⟨s,off+3,none⟩=some v3)
 (hu:P.underlying ty=some d) (hd:(match d with| .struct _| .array _ _=>true|_=>false)=true) (hi:(P.info? ty).map (·.size)=some 4)
 (h:wpList P ops Q rest (a.put o.dst (.agg #[v0,v1,v2,v3])) w):wpList P ops Q (o::rest) a w:=by
 obtain⟨h0,h1,h2,h3⟩:=hg
 refine wpList_plain hgd fun K hK=>?_
 unfold Oper.wp execOp
 simp only[ho,hx,Instr.loadAt,Instr.sureAddr,Sem.run_bind,Sem.run_pure,Result.andThen_ok,nB w s off ty v0 v1 v2 v3 d h0 h1 h2 h3 hu hd hi]
 exact hK _ _ h
theorem E0 {c:Cfg}{kind m al:Int}{i:Nat}{s:LSt}{ws:List Int}(hk:kind<3)(h:(alW c 0 s.P m al ws).1.2≠0):fV c kind m al i s ws=(s,(alW c 0 s.P m al ws).2):=by
 unfold fV;rw[if_pos hk,if_pos h]
theorem BL {c:Cfg}{kind m al:Int}{i:Nat}{s:LSt}{ws:List Int}(hk:kind<3)(h:(alW c 0 s.P m al ws).1.2=0):fV c kind m al i s ws=(⟨(alW c 0 s.P m al ws).1.1.2,s.all++ [(alW c 0 s.P m al ws).1.1.1.1]⟩,if kind≠2 then(lT (bG c (alW c 0 s.P m al ws).1.1.1.1) m (alW c 0 s.P m al ws).2).2 else(alW c 0 s.P m al ws).2):=by
 unfold fV;rw[if_pos hk,if_neg (by rw[h];simp)]
theorem IE {w:World}{g n:Nat}(h:w.heap[g]?=some (.cells (iC (bL n)) 3 (0,0)))(hn:n≤1000000:=by omega):Ws w g n (bL n):=
 ⟨_,h,by simp[bL],by simp only[maxLen];omega,by simp[iC,bL],fun i hi=>by simp[bL] at hi;simp[iC,bL,hi]⟩
theorem oG.turn {c:Cfg}{n gR gL gW gP bb:Nat}{s:LSt}{ws:List Int}{v9:Value}{m:Nat}{w w':World}{ww:List Int}(h:oG c n gR gL gW gP bb s ws v9 m w)(t:Turned (fun b=>b=gW) w w')(hx:Ws w' gW n ww)(hi:∃r O RL,LdI c n s ww r O RL)(ne:gR<gL∧gL<gW∧gW<gP∧gP<bb):oG c n gR gL gW gP bb s ww v9 (m+1) w':=by
 obtain⟨a1,n1,c1,its,hP,hIR,hln,hEq,hle⟩:=h.pur
 refine⟨(t.block _ (ac h.lay) (by omega)).trans h.lay,(t.block _ (ac h.res) (by omega)).trans h.res,⟨a1,n1,c1,its,(t.block _ (ac hP) (by omega)).trans hP,jc hIR h.words t,hln,hEq,by omega⟩,h.row.keepT t (fun k q=>by have:=h.row.own q;omega),by have:=h.all;omega,hx,?_,hi⟩
 obtain⟨_,_,_,z⟩:=hi
 obtain⟨_,z⟩:=z.fri
 exact z.len
theorem oG.more {c:Cfg}{n gR gL gW gP bb:Nat}{s:LSt}{ws:List Int}{v9:Value}{m:Nat}{w w':World}(h:oG c n gR gL gW gP bb s ws v9 m w)(hm:ae w w'):oG c n gR gL gW gP bb s ws v9 (m+1) w':=by
 obtain⟨a1,n1,c1,its,hP,hIR,hln,hEq,hle⟩:=h.pur
 exact⟨hm.block h.lay,hm.block h.res,⟨a1,n1,c1,its,hm.block hP,hIR.more hm,hln,hEq,by omega⟩,h.row.more hm,by have:=h.all;omega,h.words.more hm,h.len,h.inv⟩
theorem BM {c:Cfg}(R:c.Ok){n:Nat}(H:cB c.pg c.st n)(hw:(n:Int)=c.words)(hn:n≤1000)(cs:Array Value)(hcs:cs.size=11)(SM:∀W,Calls Tryz.prog 24 #[.agg cs] W (aE W (.agg c.cells)))(l:List nw)(hl:l.length≤60)(hok:∀t∈l,W64 t.2.1∧W64 t.2.2.2)(ad:Option Addr)(cap:Nat)(w:World)(h:im w ad l):
 Calls Tryz.prog 8 #[.agg cs,.slice ad l.length cap] w (fun e w'=>∃g,e=.returned (.tuple #[.agg c.cells,.slice (some ⟨g,0,none⟩) n n])∧w.heap.size≤g∧Ws w' g n (jI c l ls0 (bL n)).2∧ae w w'):=by
 obtain⟨mf,hmf⟩:∃mf,jI c l ls0 (bL n)=mf:=⟨_,rfl⟩
 rw[hmf]
 obtain⟨w2,e2,hb1,hb2,m2,s2⟩:=iO w (.cells cs 23) (.cells #[.int .i64 0,.int .i64 0,.int .i64 0,.int .i64 0,.int .i64 0,.int .i64 0,.int .i64 0,.int .i64 0,.int .i64 0,.int .i64 0,.int .i64 0] 27)
 have B1:=hQQ hb1
 have B2:=hQQ hb2
 have M2:=hQQ m2
 have SM:=hQQ SM
 have IS:=hQQ h
 have HR:=hQQ R
 have RW:=hQQ (fun W=>show Calls Tryz.prog 25 #[.agg c.cells] W (aE W (.int .i64 (n:Int))) from by rw[hw];exact uf R W)
 have LZ:=hQQ (zC R H hw)
 have HWW:=hQQ hw
 clear hw
 clear hb1 hb2 m2 h
 go_enter Tryz.func8,Tryz.ntmps8
 go_wp2_with (refine wpList_load_row rfl 23 _ rfl _ rfl 23 _ _ _ B1.o Tryz.underlying23 rfl (by rw[hcs];kernel_rfl) ?_)
 clear e2
 refine(SM.o _).mono ?_
 rintro e w3 ⟨rfl,h3⟩
 have M3:=hQQ (M2.o.trans h3)
 have R3:=hQQ (h3.block B2.o)
 clear h3
 obtain⟨w4,e4,hb4,m4,s4⟩:=df w3 (.cells #[.int .i64 0,.int .i64 0,.int .i64 0,.int .i64 0,.int .i64 0,.int .i64 0,.int .i64 0,.int .i64 0,.int .i64 0,.int .i64 0,.int .i64 0] 27)
 have L4:=hQQ hb4
 obtain⟨w5,e5⟩:∃w5,w4.setRow w3.heap.size c.cells=w5:=⟨_,rfl⟩
 have m5:ae w3 w5:=by rw[←e5];exact m4.setRow _ _ (Nat.le_refl _)
 have L5:Hq (w5.heap[w3.heap.size]?=some (.cells c.cells 27 (0,0))):=hQQ (by rw[←e5];exact setRow_heap _ _ _ _ _ _ hb4)
 have M5:=hQQ (M3.o.trans m5)
 have R5:=hQQ (m5.block R3.o)
 have gr3:w.heap.size+1<w3.heap.size:=ac R3.o
 have g3:w.heap.size≤w3.heap.size:=M3.o.size
 have l5:w3.heap.size<w5.heap.size:=ac L5.o
 clear hb4 m4 s4 m5
 go_wp2_with (first|(refine po rfl _ rfl c rfl ?_)|(refine wpList_store_row rfl 27 _ _ rfl _ _ rfl rfl 27 _ L4.o (by kernel_rfl) rfl (iY c) ?_;rw[e5])|(first|(refine az rfl rfl rfl L5.o (by kernel_rfl) ?_)|(refine az rfl rfl rfl L5.o (by kernel_rfl) ?_)))
 clear e4 e5 L4
 refine(RW.o _).mono ?_
 rintro e w6 ⟨rfl,h6⟩
 have M6:=hQQ (M5.o.trans h6)
 have R6:=hQQ (h6.block R5.o)
 have L6:=hQQ (h6.block L5.o)
 have l6:w3.heap.size<w6.heap.size:=Nat.lt_of_lt_of_le l5 h6.size
 clear h6 l5 L5 M5
 obtain⟨w7,hmk,hw7,m7,s7⟩:∃w7,(Instr.makeSlice 28 (.int .i64 (n:Int)) (.int .i64 (n:Int))).run Tryz.prog w6=.ok (.slice (some ⟨w6.heap.size,0,none⟩) n n) w7∧w7.heap[w6.heap.size]?=some (.cells (iC (bL n)) 3 (0,0))∧ae w6 w7∧w7.heap.size=w6.heap.size+1 :=
  ⟨_,j9 n (by omega) w6,aH w6 _ _,(ae.refl _).alloc _,by simp⟩
 have W7:Hq (Ws w7 w6.heap.size n (bL n)):=hQQ (IE hw7)
 have M7:=hQQ (M6.o.trans m7)
 have R7:=hQQ (m7.block R6.o)
 have L7:=hQQ (m7.block L6.o)
 clear hw7 m7 L6
 obtain⟨w8,e8,hb8,m8,s8⟩:=df w7 (.cells #[.slice none 0 0] 62)
 have A8:Hq (oG c n (w.heap.size+1) w3.heap.size w6.heap.size w7.heap.size w8.heap.size ls0 (bL n) (.slice none 0 0) 0 w8):=hQQ
  ⟨m8.block L7.o,m8.block R7.o,⟨none,0,0,[],hb8,IR.nil 0 w8,rfl,ve,Nat.zero_le _⟩,Rw.nil _ _,Nat.le_refl _,W7.o.more m8,by simp[bL],⟨_,_,_,LZ.o⟩⟩
 have M8:=hQQ (M7.o.trans m8)
 have G8:Hq (w.heap.size+1<w3.heap.size∧w3.heap.size<w6.heap.size∧w6.heap.size<w7.heap.size∧w7.heap.size<w8.heap.size):=hQQ ⟨gr3,l6,by omega,by omega⟩
 clear hb8 m8 s8 s7 W7 L7 M7 l6 g3
 have HL:=hQQ hl
 have HOK:=hQQ hok
 have HH:=hQQ H
 have HN:=hQQ hn
 obtain⟨gL,hgL⟩:∃x,w3.heap.size=x:=⟨_,rfl⟩
 obtain⟨gW,hgW⟩:∃x,w6.heap.size=x:=⟨_,rfl⟩
 obtain⟨gP,hgP⟩:∃x,w7.heap.size=x:=⟨_,rfl⟩
 obtain⟨bb,hbb⟩:∃x,w8.heap.size=x:=⟨_,rfl⟩
 rw[hgL,hgW,hgP,hbb] at A8 G8
 clear hl hok hn M2 M3 M6 B1 B2 SM RW LZ hcs
 go_wp2_with fail
 go_loopw [9,10,11,12,13,14,15,16] (fun v9 v10 v11 v12 v13 v14 v15 v16 wr=>∃(j:Nat) (s:LSt) (ws:List Int),v10=.int .i64 (j:Int)∧j≤l.length∧oG c n (w.heap.size+1) gL gW gP bb s ws v9 j wr∧bb≤wr.heap.size∧ae w wr∧jI c (l.drop j) s ws=mf) (fun _ v10 _ _ _ _ _ _ _=>((l.length:Int)-intOf v10).toNat)
 case atStart=>exact⟨0,ls0,bL n,rfl,Nat.zero_le _,A8.o,by omega,M8.o,by simpa using hmf⟩
 case round =>
  obtain⟨j,s,ws,rfl,hj,hA0,hbw,hM0,hmf⟩:=hrel
  by_cases hlt:j<l.length
  ·obtain⟨t,ht⟩:∃t,l[j]?=some t:=⟨_,List.getElem?_eq_getElem hlt⟩
   have htm:t∈l:=List.mem_of_getElem? ht
   have hdr:l.drop j=t::l.drop (j+1):=Dz ht
   rw[hdr] at hmf
   have hmf:jI c (l.drop (j+1)) (fV c t.1 t.2.1 t.2.2.1 (nthI t.2.2.2 s.all.length) s ws).1 (fV c t.1 t.2.1 t.2.2.1 (nthI t.2.2.2 s.all.length) s ws).2=mf:=hmf
   obtain⟨hw1,hw2⟩:=HOK.o t htm
   rcases IS.o.more hM0 with e0|⟨so,off,rfl,hso,hcl⟩
   ·rw[e0] at hlt;simp at hlt
   have AC:=hQQ (hcl j t ht)
   obtain⟨t1,t2,t3,t4⟩:=t
   simp only at hmf hw1 hw2 AC
   have LA:=hQQ hA0
   have MW:=hQQ hM0
   have BW:=hQQ hbw
   have MF:=hQQ hmf
   have y6:=hA0.lay
   obtain⟨wb,eb,hbb1,mb,sb⟩:=df wr (.cells #[.int .i64 0,.int .i64 0,.int .i64 0,.int .i64 0] 67)
   obtain⟨wa,ea⟩:∃wa,wb.setRow wr.heap.size #[.int .i64 t1,.int .i64 t2,.int .i64 t3,.int .i64 t4]=wa:=⟨_,rfl⟩
   have ma:ae wr wa:=by rw[←ea];exact mb.setRow _ _ (Nat.le_refl _)
   have BA:Hq (wa.heap[wr.heap.size]?=some (.cells #[.int .i64 t1,.int .i64 t2,.int .i64 t3,.int .i64 t4] 67 (0,0))):=hQQ (by rw[←ea];exact setRow_heap _ _ _ _ _ _ hbb1)
   have BB:=hQQ hbb1
   have MA:=hQQ ma
   have a0:wa.cell? ⟨wr.heap.size,0,none⟩=some (.int .i64 t1):=by simp[World.cell?,BA.o]
   clear hA0 hM0 hbw hmf hbb1 mb sb ma ht htm hdr hso hcl y6
   by_cases hk:t1<3
   ·have d0:decide (t1<3)=true:=by simp[hk]
    have a1:wa.cell? ⟨wr.heap.size,1,none⟩=some (.int .i64 t2):=by simp[World.cell?,BA.o]
    have a2:wa.cell? ⟨wr.heap.size,2,none⟩=some (.int .i64 t3):=by simp[World.cell?,BA.o]
    obtain⟨a1p,n1,c1p,its,hP,hIR,hln,hEq,hle⟩:=LA.o.pur
    obtain⟨r,O,RL,hI⟩:=LA.o.inv
    obtain⟨C,hF⟩:=hI.fri
    have hlw:=LA.o.len
    have NI:=hQQ (tw HR.o HH.o HWW.o HN.o hI t1 t2 t3 (i:=nthI t4 s.all.length) (fun e=>td t4 (List.length_pos_iff.2 e)))
    have AL:=hQQ (fun W (hV:IR 0 W (.slice a1p n1 c1p) its) (hW:Ws W gW n ws)=>show Calls Tryz.prog 26 #[.agg c.cells,.slice (some ⟨gW,0,none⟩) n n,.int .i64 0,.agg #[.slice a1p n1 c1p],.int .i64 t2,.int .i64 t3] W (AlR W gW n n1 (alW c 0 s.P t2 t3 ws)) from by
     have:=rI HR.o ws (by rw[hlw];exact HH.o) (by rw[hlw];exact HN.o) (by rw[hlw];exact HWW.o) hI.lim (by rw[hlw];exact hF) gW n (u:=0) (by have:=HR.o.cp1;simp;omega) t2 t3 (by unfold W64 at hw1;omega) (.slice a1p n1 c1p) its hEq (by have:=HL.o;omega) W hV hW
     rw[hlw,hln] at this
     exact this)
    obtain⟨res,hres⟩:∃res,alW c 0 s.P t2 t3 ws=res:=⟨_,rfl⟩
    rw[hres] at AL
    have y2:wa.cell? ⟨gP,0,none⟩=some (.slice a1p n1 c1p):=by simp[World.cell?,MA.o.block hP]
    have IRA:=hQQ (hIR.more MA.o)
    have XA:=hQQ (LA.o.words.more MA.o)
    have LYA:=hQQ (MA.o.block LA.o.lay)
    have PA:=hQQ (MA.o.block hP)
    have PO:Hq (∀W,Turned (fun b=>b=gW) wr W→W.heap[gP]?=some (.cells #[.slice a1p n1 c1p] 62 (0,0))):=hQQ fun W t=>(t.block _ (ac hP) (by have:=G8.o;omega)).trans hP
    have EQ:=hQQ hEq
    have LE:=hQQ hle
    have LNI:=hQQ hln
    clear hP hIR hln hEq hle hI hF hlw
    go_wp2_with (first|(refine gm rfl 67 _ rfl _ _ rfl _ _ _ _ _ AC.o Tryz.underlying67 rfl (by kernel_rfl) ?_)|(refine wpList_store_row rfl 67 _ _ rfl _ _ rfl rfl 67 _ BB.o (by kernel_rfl) rfl (by simp[Value.oneCell']) ?_;rw[ea])|(first|(refine az rfl rfl rfl LYA.o (by kernel_rfl) ?_)|(refine az rfl rfl rfl LYA.o (by kernel_rfl) ?_)))
    clear ea eb BB
    refine(AL.o _ IRA.o XA.o).mono ?_
    rintro e wc ⟨v5,its5,rfl,hr5,he5,hl5,hx5,ht5⟩
    obtain⟨a5,c5,rfl,_,_,_⟩:=hr5.at
    obtain⟨n5,hn5⟩:∃n5,its5.length=n5:=⟨_,rfl⟩
    rw[hn5] at hr5 hl5⊢
    obtain⟨wd,ed,hbd,md,sd⟩:=df wc (.cells #[.slice none 0 0] 62)
    obtain⟨we,ee⟩:∃we,wd.setRow wc.heap.size #[.slice a5 n5 c5]=we:=⟨_,rfl⟩
    have me:ae wc we:=by rw[←ee];exact md.setRow _ _ (Nat.le_refl _)
    have BQ:Hq (we.heap[wc.heap.size]?=some (.cells #[.slice a5 n5 c5] 62 (0,0))):=hQQ (by rw[←ee];exact setRow_heap _ _ _ _ _ _ hbd)
    have BD:=hQQ hbd
    have TE:=hQQ (show Turned (fun b=>b=gW) wr we from Turned.trans (turned_more MA.o) (Turned.trans ht5 (turned_more me)))
    have XE:=hQQ (hx5.more me)
    have RE:=hQQ (hr5.more me)
    have E5:=hQQ he5
    have L5:=hQQ hl5
    have HN5:=hQQ hn5
    have WC:Hq (bb≤wc.heap.size):=hQQ (by have:=ht5.size;have:=MA.o.size;have:=BW.o;omega)
    have AE:Hq (we.heap[wr.heap.size]?=some (.cells #[.int .i64 t1,.int .i64 t2,.int .i64 t3,.int .i64 t4] 67 (0,0))):=hQQ (me.block ((ht5.block _ (ac BA.o) (by have:=G8.o;have:=BW.o;omega)).trans BA.o))
    have DD:=G8.o
    clear hbd md sd me hr5 he5 hl5 hx5 ht5 hn5 y2 a0 a1 a2 IRA XA PA
    obtain⟨er,her⟩:∃er,res.1.2=er:=⟨_,rfl⟩
    rw[her]
    by_cases h0:er=0
    ·subst h0
     have d1:((0:Int)==0)=true:=rfl
     have hst:=BL (c:=c) (al:=t3) (i:=nthI t4 s.all.length) (s:=s) (ws:=ws) hk (m:=t2) (by rw[hres,her])
     have MF1:=MF.o
     have NI1:=NI.o
     rw[hst,hres] at MF1 NI1
     obtain⟨nb,hnb⟩:∃nb,res.1.1.1.1=nb:=⟨_,rfl⟩
     obtain⟨nP,hnP⟩:∃nP,res.1.1.2=nP:=⟨_,rfl⟩
     obtain⟨wz,hwz⟩:∃wz,res.2=wz:=⟨_,rfl⟩
     have q1:IntKind.i64.wrap ((j:Int)+1)=(j:Int)+1:=aj (by have:=HL.o;omega) (by have:=HL.o;omega)
     have PE:we.heap[gP]?=some (.cells #[.slice a1p n1 c1p] 62 (0,0)):=by
      exact PO.o we TE.o
     have PEH:=hQQ PE
     have y14:we.cell? ⟨wc.heap.size,0,none⟩=some (.slice a5 n5 c5):=by simp[World.cell?,BQ.o]
     obtain⟨wf,ef⟩:∃wf,we.setRow gP #[.slice a5 n5 c5]=wf:=⟨_,rfl⟩
     have tf:Turned (fun b=>b=gP) we wf:=by rw[←ef];exact Turned.setRow (Turned.refl _ we) _ _ (fun _=>rfl)
     have PF:wf.heap[gP]?=some (.cells #[.slice a5 n5 c5] 62 (0,0)):=by rw[←ef];exact setRow_heap _ _ _ _ _ _ PE
     obtain⟨wg,eg,hbg,mg,sg⟩:=df wf (.cells #[.int .i64 nb] 3)
     have TG:Turned (fun b=>b=gW∨b=gP) wr wg:=Turned.trans (TE.o.mono (fun _ _ q=> .inl q)) (Turned.trans (tf.mono (fun _ _ q=> .inr q)) (turned_more mg))
     have RG:=hQQ (LA.o.row.keepT TG (fun k q=>by have:=LA.o.row.own q;omega))
     have OWN:Hq (∀k,u9.ownBlock=some k→bb≤k∧k<wr.heap.size):=hQQ fun k q=>LA.o.row.own q
     have TYP:Hq (∀k,u9.ownBlock=some k→∃cs fr,wg.heap[k]?=some (.cells cs 3 fr)):=hQQ fun k q=>JA RG.o q
     have BG:=hQQ hbg
     have IRG:Hq (IR 0 wg (.slice a5 n5 c5) its5):=hQQ ((RE.o.keep tf (fun k q=>by subst q;exact⟨_,_,_,PE,by decide⟩)).more mg)
     have XG:=hQQ ((XE.o.keep tf (by omega)).more mg)
     have LG:=hQQ ((TG.block _ (ac LA.o.lay) (by omega)).trans LA.o.lay)
     have PG:=hQQ (mg.block PF)
     have AG':=hQQ (mg.block ((tf.block _ (ac AE.o) (by have:=BW.o;omega)).trans AE.o))
     have TGH:=hQQ TG
     have HB':Hq (bb≤wg.heap.size):=hQQ (by have:=TG.size;have:=BW.o;omega)
     have HA':Hq (s.all.length≤1000000):=hQQ (by have:=LA.o.all;have:=HL.o;omega)
     rw[hnb,hnP,hwz] at MF1 NI1
     rw[hnb]
     rw[hnP] at E5
     rw[hwz] at XG
     have LZ5:Hq (wz.length=n):=hQQ (by obtain⟨_,hF5⟩:=ID HR.o HH.o HWW.o HN.o LA.o.inv t2 t3;rw[hres,hwz] at hF5;exact hF5.1)
     have MFH:=hQQ MF1
     have NIH:=hQQ NI1
     clear hbg mg sg tf PE PF TG MF1 NI1 hst
     have MKC:=hQQ (fun W (hW:Ws W gW n wz)=>show Calls Tryz.prog 27 #[.agg c.cells,.slice (some ⟨gW,0,none⟩) n n,.int .i64 nb,.int .i64 t2] W (nL W gW n (.bool (lT (bG c nb) t2 wz).1) (lT (bG c nb) t2 wz).2) from by
      have:=vi HR.o wz (by rw[LZ5.o];exact HH.o) (by rw[LZ5.o];exact HWW.o) gW n nb t2 W hW
      rw[LZ5.o] at this
      exact this)
     by_cases h2:t1=2
     ·have d2:(t1==2)=true:=by simp[h2]
      rw[if_neg (by simp[h2])] at MFH NIH
      go_wp2_with (first
       |(refine wpList_store_row rfl 62 _ _ rfl _ _ rfl rfl 62 _ BD.o (by kernel_rfl) rfl (by simp[Value.oneCell']) ?_;rw[ee])
       |(refine wpList_store_row rfl 62 _ _ rfl _ _ rfl rfl 62 _ PEH.o (by kernel_rfl) rfl (by simp[Value.oneCell']) ?_;rw[ef])
       |(refine wpList_plain rfl (fun K hK=>yu (base:=bb) (g:=wf.heap.size) (v:=u9) (xs:=s.all) nb _ _ rfl rfl RG.o HB'.o HA'.o rfl BG.o (fun v9' wh rh th kh=>hK _ _ ?_));have b0:=(th.block _ (ac AG'.o) (fun q=>by have:=OWN.o _ q;omega)).trans AG'.o;have a0:wh.cell? ⟨wr.heap.size,0,none⟩=some (.int .i64 t1):=(by simp[World.cell?,b0]);have a1:wh.cell? ⟨wr.heap.size,1,none⟩=some (.int .i64 t2):=(by simp[World.cell?,b0]);have TH:=hQQ th;have RH:=hQQ rh;have LH:=hQQ ((th.block _ (ac LG.o) (fun q=>by have:=OWN.o _ q;omega)).trans LG.o);have XH0:Ws wh gW n wz:=zD XG.o th (fun q=>by have:=OWN.o _ q;omega))|(first|(refine az rfl rfl rfl LH.o (by kernel_rfl) ?_)|(refine az rfl rfl rfl LH.o (by kernel_rfl) ?_)))
      have XH:=hQQ XH0
      have TWH:Turned (fun b=>(b=gW∨b=gP)∨u9.ownBlock=some b) wr wh:=Turned.trans (TGH.o.mono (fun _ _ q=> .inl q)) (TH.o.mono (fun _ _ q=> .inr q))
      have PH2:wh.heap[gP]?=some (.cells #[.slice a5 n5 c5] 62 (0,0)):=(TH.o.block _ (ac PG.o) (fun q=>by have:=OWN.o _ q;omega)).trans PG.o
      have RH2:=(TWH.block _ (ac LA.o.res) (fun q=>by rcases q with(q|q)|q;omega;omega;have:=OWN.o _ q;omega)).trans LA.o.res
      have IRH:IR 0 wh (.slice a5 n5 c5) its5:=IRG.o.keep TH.o (fun k q=>by obtain⟨cs,fr,z⟩:=TYP.o k q;exact⟨cs,_,fr,z,by decide⟩)
      have NEW:Hq (∀(wq:World) (ww:List Int),Turned (fun b=>b=gW) wh wq→Ws wq gW n ww→(∃r' O' RL',LdI c n ⟨nP,s.all++ [nb]⟩ ww r' O' RL')→oG c n (w.heap.size+1) gL gW gP bb ⟨nP,s.all++ [nb]⟩ ww v9' (j+1) wq):=hQQ fun wq ww t hx hi=>by
       refine⟨(t.block _ (ac LH.o) (by omega)).trans LH.o,(t.block _ (ac RH2) (by omega)).trans RH2,⟨a5,n5,c5,its5,(t.block _ (ac PH2) (by omega)).trans PH2,jc IRH XH.o t,HN5.o,E5.o,by have:=L5.o;have:=LE.o;omega⟩,RH.o.keepT t (fun k q=>by have:=RH.o.own q;omega),by have:=LA.o.all;simp;omega,hx,?_,hi⟩
       obtain⟨_,_,_,z⟩:=hi
       obtain⟨_,z⟩:=z.fri
       exact z.len
      have MW1:Hq (∀wq:World,Turned (fun b=>b=gW) wh wq→ae w wq):=hQQ fun wq t=>au (F':=fun b=>((b=gW∨b=gP)∨u9.ownBlock=some b)∨b=gW) MW.o (Turned.trans (TWH.mono (fun _ _ q=> .inl q)) (t.mono (fun _ _ q=> .inr q))) (fun k q=> .inr (by rcases q with((q|q)|q)|q;omega;omega;have:=OWN.o k q;omega;omega))
      have SZ:Hq (∀wq:World,Turned (fun b=>b=gW) wh wq→bb≤wq.heap.size):=hQQ fun wq t=>by have:=t.size;have:=TWH.size;have:=BW.o;omega
      have HJ:Hq (j+1≤l.length):=hQQ hlt
      clear TWH PH2 RH2 IRH XH0 b0 a0 a1 rh th kh
      go_roundw
      case rel=>exact⟨j+1,⟨nP,s.all++ [nb]⟩,wz,by go_num,HJ.o,NEW.o _ _ (Turned.refl _ _) XH.o NIH.o,SZ.o _ (Turned.refl _ _),MW1.o _ (Turned.refl _ _),MFH.o⟩
      case measure=>simp[intOf];omega
     ·have d2:(t1==2)=false:=by simp[h2]
      rw[if_pos h2] at MFH NIH
      go_wp2_with (first
       |(refine wpList_store_row rfl 62 _ _ rfl _ _ rfl rfl 62 _ BD.o (by kernel_rfl) rfl (by simp[Value.oneCell']) ?_;rw[ee])
       |(refine wpList_store_row rfl 62 _ _ rfl _ _ rfl rfl 62 _ PEH.o (by kernel_rfl) rfl (by simp[Value.oneCell']) ?_;rw[ef])
       |(refine wpList_plain rfl (fun K hK=>yu (base:=bb) (g:=wf.heap.size) (v:=u9) (xs:=s.all) nb _ _ rfl rfl RG.o HB'.o HA'.o rfl BG.o (fun v9' wh rh th kh=>hK _ _ ?_));have b0:=(th.block _ (ac AG'.o) (fun q=>by have:=OWN.o _ q;omega)).trans AG'.o;have a0:wh.cell? ⟨wr.heap.size,0,none⟩=some (.int .i64 t1):=(by simp[World.cell?,b0]);have a1:wh.cell? ⟨wr.heap.size,1,none⟩=some (.int .i64 t2):=(by simp[World.cell?,b0]);have TH:=hQQ th;have RH:=hQQ rh;have LH:=hQQ ((th.block _ (ac LG.o) (fun q=>by have:=OWN.o _ q;omega)).trans LG.o);have XH0:Ws wh gW n wz:=zD XG.o th (fun q=>by have:=OWN.o _ q;omega))|(first|(refine az rfl rfl rfl LH.o (by kernel_rfl) ?_)|(refine az rfl rfl rfl LH.o (by kernel_rfl) ?_)))
      refine(MKC.o _ XH0).mono ?_
      rintro e wk ⟨rfl,hxk,htk⟩
      have XH:=hQQ XH0
      have TWH:Turned (fun b=>(b=gW∨b=gP)∨u9.ownBlock=some b) wr wh:=Turned.trans (TGH.o.mono (fun _ _ q=> .inl q)) (TH.o.mono (fun _ _ q=> .inr q))
      have PH2:wh.heap[gP]?=some (.cells #[.slice a5 n5 c5] 62 (0,0)):=(TH.o.block _ (ac PG.o) (fun q=>by have:=OWN.o _ q;omega)).trans PG.o
      have RH2:=(TWH.block _ (ac LA.o.res) (fun q=>by rcases q with(q|q)|q;omega;omega;have:=OWN.o _ q;omega)).trans LA.o.res
      have IRH:IR 0 wh (.slice a5 n5 c5) its5:=IRG.o.keep TH.o (fun k q=>by obtain⟨cs,fr,z⟩:=TYP.o k q;exact⟨cs,_,fr,z,by decide⟩)
      have NEW:Hq (∀(wq:World) (ww:List Int),Turned (fun b=>b=gW) wh wq→Ws wq gW n ww→(∃r' O' RL',LdI c n ⟨nP,s.all++ [nb]⟩ ww r' O' RL')→oG c n (w.heap.size+1) gL gW gP bb ⟨nP,s.all++ [nb]⟩ ww v9' (j+1) wq):=hQQ fun wq ww t hx hi=>by
       refine⟨(t.block _ (ac LH.o) (by omega)).trans LH.o,(t.block _ (ac RH2) (by omega)).trans RH2,⟨a5,n5,c5,its5,(t.block _ (ac PH2) (by omega)).trans PH2,jc IRH XH.o t,HN5.o,E5.o,by have:=L5.o;have:=LE.o;omega⟩,RH.o.keepT t (fun k q=>by have:=RH.o.own q;omega),by have:=LA.o.all;simp;omega,hx,?_,hi⟩
       obtain⟨_,_,_,z⟩:=hi
       obtain⟨_,z⟩:=z.fri
       exact z.len
      have MW1:Hq (∀wq:World,Turned (fun b=>b=gW) wh wq→ae w wq):=hQQ fun wq t=>au (F':=fun b=>((b=gW∨b=gP)∨u9.ownBlock=some b)∨b=gW) MW.o (Turned.trans (TWH.mono (fun _ _ q=> .inl q)) (t.mono (fun _ _ q=> .inr q))) (fun k q=> .inr (by rcases q with((q|q)|q)|q;omega;omega;have:=OWN.o k q;omega;omega))
      have SZ:Hq (∀wq:World,Turned (fun b=>b=gW) wh wq→bb≤wq.heap.size):=hQQ fun wq t=>by have:=t.size;have:=TWH.size;have:=BW.o;omega
      have HJ:Hq (j+1≤l.length):=hQQ hlt
      clear TWH PH2 RH2 IRH XH0 b0 a0 a1 rh th kh
      have XK:=hQQ hxk
      have TK:=hQQ htk
      clear hxk htk
      go_wp2_with fail
      go_roundw
      case rel=>exact⟨j+1,⟨nP,s.all++ [nb]⟩,_,by go_num,HJ.o,NEW.o _ _ TK.o XK.o NIH.o,SZ.o _ TK.o,MW1.o _ TK.o,MFH.o⟩
      case measure=>simp[intOf];omega
    ·have d1:(er==0)=false:=by simp[h0]
     have hst:=E0 (c:=c) (al:=t3) (i:=nthI t4 s.all.length) (s:=s) (ws:=ws) hk (m:=t2) (by rw[hres,her];exact h0)
     have MF1:=MF.o
     have NI1:=NI.o
     rw[hst,hres] at MF1 NI1
     have q1:IntKind.i64.wrap ((j:Int)+1)=(j:Int)+1:=aj (by have:=HL.o;omega) (by have:=HL.o;omega)
     have NEW:Hq (oG c n (w.heap.size+1) gL gW gP bb s res.2 u9 (j+1) we):=hQQ (by
      obtain⟨a1p',n1',c1p',its',hP,hIR,hln,hEq,hle⟩:=LA.o.pur
      refine⟨(TE.o.block _ (ac LA.o.lay) (by omega)).trans LA.o.lay,(TE.o.block _ (ac LA.o.res) (by omega)).trans LA.o.res,⟨a1p',n1',c1p',its',(TE.o.block _ (ac hP) (by omega)).trans hP,jc hIR LA.o.words TE.o,hln,hEq,by omega⟩,LA.o.row.keepT TE.o (fun k q=>by have:=LA.o.row.own q;omega),by have:=LA.o.all;omega,XE.o,?_,NI1⟩
      obtain⟨_,_,_,z⟩:=NI1
      obtain⟨_,z⟩:=z.fri
      exact z.len)
     have MW1:=hQQ (show ae w we from au (F':=fun b=>b=gW) MW.o TE.o (fun k q=> .inr (by omega)))
     have HJ:Hq (j+1≤l.length):=hQQ hlt
     have MF2:=hQQ MF1
     have SZ:Hq (bb≤we.heap.size):=hQQ (by have:=TE.o.size;have:=BW.o;omega)
     clear MF1 NI1 hst hres her DD
     go_wp2_with (refine wpList_store_row rfl 62 _ _ rfl _ _ rfl rfl 62 _ BD.o (by kernel_rfl) rfl (by simp[Value.oneCell']) ?_;rw[ee])
     go_roundw
     case rel=>exact⟨j+1,s,res.2,by go_num,HJ.o,NEW.o,SZ.o,MW1.o,MF2.o⟩
     case measure=>simp[intOf];omega
   ·have d0:decide (t1<3)=false:=by simp;omega
    have a3:wa.cell? ⟨wr.heap.size,3,none⟩=some (.int .i64 t4):=by simp[World.cell?,BA.o]
    obtain⟨a9,c9,e9,hrd⟩:=LA.o.row.reads
    subst e9
    have q1:IntKind.i64.wrap ((j:Int)+1)=(j:Int)+1:=aj (by have:=HL.o;omega) (by have:=HL.o;omega)
    have HJ:Hq (j+1≤l.length):=hQQ hlt
    obtain⟨n9,hn9⟩:∃n9,s.all.length=n9:=⟨_,rfl⟩
    have HN9:=hQQ hn9
    rw[hn9] at LA MF hrd⊢
    clear hn9
    have MWA:=hQQ (MW.o.trans MA.o)
    have BWA:Hq (bb≤wa.heap.size):=hQQ (by have:=MA.o.size;have:=BW.o;omega)
    by_cases hne:n9=0
    ·subst hne
     have MF1:=MF.o
     have he:s.all= []:=List.length_eq_zero_iff.1 HN9.o
     rw[show fV c t1 t2 t3 (nthI t4 0) s ws=(s,ws) by unfold fV;rw[if_neg hk,if_pos he]] at MF1
     have MF2:=hQQ MF1
     have NEW:=hQQ (LA.o.more MA.o)
     clear MF1 he
     go_wp2_with (first|(refine gm rfl 67 _ rfl _ _ rfl _ _ _ _ _ AC.o Tryz.underlying67 rfl (by kernel_rfl) ?_)|(refine wpList_store_row rfl 67 _ _ rfl _ _ rfl rfl 67 _ BB.o (by kernel_rfl) rfl (by simp[Value.oneCell']) ?_;rw[ea]))
     go_roundw
     case rel=>exact⟨j+1,s,ws,by go_num,HJ.o,NEW.o,BWA.o,MWA.o,MF2.o⟩
     case measure=>simp[intOf];omega
    ·have dn:((n9:Int)==0)=false:=by simp[hne]
     have dn2:decide ((n9:Int)=0)=false:=by simp[hne]
     have h60:n9≤60:=by have h1:=LA.o.all;have h2:=HL.o;have h3:=HN9.o;omega
     have hq9:IntKind.u64.wrap (n9:Int)=(n9:Int):=IC _ (by omega) (by omega)
     have hrem:=Ik t4 (n:=n9) (by omega) (by omega)
     obtain⟨ix,hix⟩:∃ix,nthI t4 n9=ix:=⟨_,rfl⟩
     have hixl:ix<n9:=by rw[←hix];exact td t4 (by omega)
     rw[hix] at hrem MF
     have HIX:=hQQ hixl
     obtain⟨g9,rfl,hb9,hg9,hc9⟩:=hrd 0 (by omega)
     obtain⟨x,hx⟩:∃x,qH s ix=x:=⟨_,rfl⟩
     have CXA:Hq (wa.cell? ⟨g9,ix,none⟩=some (.int .i64 x)):=hQQ (MA.o.cell (by rw[←hx];exact hc9 ix hixl))
     have B9:=hQQ (And.intro hb9 hg9)
     have LYA:=hQQ (MA.o.block LA.o.lay)
     have XA:=hQQ (LA.o.words.more MA.o)
     have NI:Hq (∃r' O' RL',LdI c n (fV c t1 t2 t3 ix s ws).1 (fV c t1 t2 t3 ix s ws).2 r' O' RL'):=hQQ (by
      obtain⟨r,O,RL,hI⟩:=LA.o.inv
      exact tw HR.o HH.o HWW.o HN.o hI t1 t2 t3 (fun _=>by have:=HN9.o;omega))
     have hane:¬s.all= []:=fun e=>hne (by have:=HN9.o;rw[e] at this;simpa using this.symm)
     have CLC:Hq (∀W,Ws W gW n ws→Calls Tryz.prog 29 #[.agg c.cells,.slice (some ⟨gW,0,none⟩) n n,.int .i64 x] W (nL W gW n (.bool (jd (bG c x) ws).1) (jd (bG c x) ws).2)):=hQQ fun W hW=>by
      obtain⟨r,O,RL,hI⟩:=LA.o.inv
      obtain⟨C,hF⟩:=hI.fri
      have hlw:=LA.o.len
      have:=Bh HR.o ws (by rw[hlw];exact HH.o) (by rw[hlw];exact HWW.o) hF.ok gW n x W (by exact hW)
      rw[hlw] at this
      exact this
     clear hb9 hg9 hc9 hrd hixl
     go_wp2_with (first|(refine gm rfl 67 _ rfl _ _ rfl _ _ _ _ _ AC.o Tryz.underlying67 rfl (by kernel_rfl) ?_)|(refine wpList_store_row rfl 67 _ _ rfl _ _ rfl rfl 67 _ BB.o (by kernel_rfl) rfl (by simp[Value.oneCell']) ?_;rw[ea]))
     clear ea eb BB a0 a3
     refine dg (fun W=>W.heap[gL]?=some (.cells c.cells 27 (0,0))∧W.cell? ⟨g9,ix,none⟩=some (.int .i64 x)) (by kernel_rfl) ?_
     change eN _ _ _ _ _ _ _ _ (wa.drewN 1)
     have M0:Hq (ae wa (wa.drewN 1)):=hQQ ((ae.refl wa).drewN 1)
     have C0:Hq ((wa.drewN 1).heap[gL]?=some (.cells c.cells 27 (0,0))∧(wa.drewN 1).cell? ⟨g9,ix,none⟩=some (.int .i64 x)):=hQQ (⟨M0.o.block LYA.o,M0.o.cell CXA.o⟩)
     generalize wa.drewN 1=wq at M0 C0⊢
     generalize hA:Act.mk _ _=A
     have HF:AG 109 A [(6,.pointer (some ⟨gL,0,none⟩)),(7,.slice (some ⟨gW,0,none⟩) n n),(9,.slice (some ⟨g9,0,none⟩) n9 c9),(16,.int .i64 (ix:Int))]:=by
      rw[←hA];try simp only[pts,List.foldl]
      refine⟨⟨Nat.le_of_ble_eq_true rfl,rfl⟩,?_⟩
      intro z hz;simp only[List.mem_cons,List.not_mem_nil,or_false] at hz;rcases hz with rfl|rfl|rfl|rfl<;>rfl
     refine eQ (fun a W=>a=(pts A [(76,.agg c.cells),(77,.slice (some ⟨gW,0,none⟩) n n),(78,.slice (some ⟨g9,0,none⟩) n9 c9),(79,.int .i64 (ix:Int)),(80,.pointer (some ⟨g9,ix,none⟩)),(81,.int .i64 x),(82,.bool (jd (bG c x) ws).1)])∧Turned (fun b=>b=gW) wa W∧Ws W gW n (jd (bG c x) ws).2) (fun _=>False) [] (fun a W hd h=>h.elim) (fun _ _ _ _ _ h=>h) ?_ ?_
     ·skip
      rintro a9 w9 ⟨rfl,ht,hx9⟩
      rw[←hA];try simp only[pts,List.foldl]
      have T9:Hq (Turned (fun b=>b=gW) wr w9):=hQQ (Turned.trans (turned_more MA.o) ht)
      have X9:=hQQ hx9
      have A9:=hQQ ((ht.block _ (ac BA.o) (by have:=G8.o;have:=BW.o;omega)).trans BA.o)
      have S9:Hq (bb≤w9.heap.size):=hQQ (by have:=T9.o.size;have:=BW.o;omega)
      have a0:w9.cell? ⟨wr.heap.size,0,none⟩=some (.int .i64 t1):=by simp[World.cell?,A9.o]
      clear HF hA ht hx9 C0 M0
      by_cases h3:t1=3
      ·have d3:(t1==3)=true:=by simp[h3]
       have hst:fV c t1 t2 t3 ix s ws=(⟨(frV c 0 s.P x (jd (bG c x) ws).2).1,s.all.eraseIdx ix⟩,(frV c 0 s.P x (jd (bG c x) ws).2).2):=by unfold fV;rw[if_neg (by omega),if_neg hane,if_pos h3,hx]
       have MF1:=MF.o
       have NI1:=NI.o
       rw[hst] at MF1 NI1
       have XIN:x∈s.all:=by
        rw[←hx];unfold qH
        have hi:ix<s.all.length:=by have:=HIX.o;have:=HN9.o;omega
        rw[show s.all.getD ix 0=s.all[ix] by simp[List.getD,hi]]
        exact List.getElem_mem hi
       have I9:Hq (∃r O RL,LdI c n s (jd (bG c x) ws).2 r O RL):=hQQ (by
        obtain⟨r,O,RL,hI⟩:=LA.o.inv
        obtain⟨r1,h1,_,_⟩:=vx HR.o HH.o HWW.o HN.o hI (zk HR.o HH.o HWW.o HN.o hI XIN)
        exact⟨r1,_,_,h1⟩)
       obtain⟨wc,hwc⟩:∃wc,(jd (bG c x) ws).2=wc:=⟨_,rfl⟩
       rw[hwc] at X9 MF1 NI1 I9
       obtain⟨a1p,n1,c1p,its,hP,hIR,hln,hEq,hle⟩:=LA.o.pur
       have hn1:n1≤10000:=by have:=HL.o;omega
       have P9:Hq (w9.heap[gP]?=some (.cells #[.slice a1p n1 c1p] 62 (0,0))):=hQQ ((T9.o.block _ (ac hP) (by have:=G8.o;omega)).trans hP)
       have IR9:Hq (IR 0 w9 (.slice a1p n1 c1p) its):=hQQ (jc hIR LA.o.words T9.o)
       have LY9:Hq (w9.heap[gL]?=some (.cells c.cells 27 (0,0))):=hQQ ((T9.o.block _ (ac LA.o.lay) (by have:=G8.o;omega)).trans LA.o.lay)
       have RW9:Hq (Rw bb w9 (.slice (some ⟨g9,0,none⟩) n9 c9) s.all):=hQQ (LA.o.row.keepT T9.o (fun k q=>by have:=LA.o.row.own q;have:=G8.o;omega))
       have CX9:Hq (w9.cell? ⟨g9,ix,none⟩=some (.int .i64 x)):=hQQ (RW9.o.lies.2.2.2.2 ix _ (by
        have hi:ix<s.all.length:=by have:=HIX.o;have:=HN9.o;omega
        rw[List.getElem?_map,←hx]
        unfold qH
        simp[List.getD,hi]))
       have ITL:=hQQ hln
       have FR:=hQQ (fun W (hV:IR 0 W (.slice a1p n1 c1p) its) (hW:Ws W gW n wc)=>show Calls Tryz.prog 30 #[.agg c.cells,.slice (some ⟨gW,0,none⟩) n n,.int .i64 0,.agg #[.slice a1p n1 c1p],.int .i64 x] W (ql W gW n its.length (frV c 0 s.P x wc).1 (frV c 0 s.P x wc).2) from by
        obtain⟨r,O,RL,hI⟩:=I9.o
        exact BK HR.o HH.o HWW.o HN.o hI XIN gW _ its hEq (by rw[ITL.o];exact hn1) W hV hW)
       obtain⟨fz,hfz⟩:∃fz,frV c 0 s.P x wc=fz:=⟨_,rfl⟩
       rw[hfz] at FR MF1 NI1
       have MF2:=hQQ MF1
       have NI2:=hQQ NI1
       have HLE:=hQQ hle
       have H60:=hQQ h60
       clear MF1 NI1 hst hP hIR hEq hle hn1 hln hwc hfz XIN h60 hx hane
       go_simp
       go_wp2_with fail
       refine fW (fun W=>W.heap[gL]?=some (.cells c.cells 27 (0,0))∧W.heap[gP]?=some (.cells #[.slice a1p n1 c1p] 62 (0,0))∧W.cell? ⟨g9,ix,none⟩=some (.int .i64 x)) 11 (by kernel_rfl) ?_
       change jf _ _ _ _ _ _ _ _ _ (w9.drewN 1)
       have M0:Hq (ae w9 (w9.drewN 1)):=hQQ ((ae.refl w9).drewN 1)
       have C0:Hq ((w9.drewN 1).heap[gL]?=some (.cells c.cells 27 (0,0))∧(w9.drewN 1).heap[gP]?=some (.cells #[.slice a1p n1 c1p] 62 (0,0))∧(w9.drewN 1).cell? ⟨g9,ix,none⟩=some (.int .i64 x)):=hQQ (⟨M0.o.block LY9.o,M0.o.block P9.o,M0.o.cell CX9.o⟩)
       generalize w9.drewN 1=wq at M0 C0⊢
       generalize hA:Act.mk _ _=A
       have HF:AG 109 A [(6,.pointer (some ⟨gL,0,none⟩)),(7,.slice (some ⟨gW,0,none⟩) n n),(8,.pointer (some ⟨gP,0,none⟩)),(9,.slice (some ⟨g9,0,none⟩) n9 c9),(16,.int .i64 (ix:Int))]:=by
        rw[←hA];try simp only[pts,List.foldl]
        refine⟨⟨Nat.le_of_ble_eq_true rfl,rfl⟩,?_⟩
        intro z hz;simp only[List.mem_cons,List.not_mem_nil,or_false] at hz;rcases hz with rfl|rfl|rfl|rfl|rfl<;>rfl
       refine jH (fun aa W=>∃(u87 u88 u89 u90 u91 u92 u93 u94 u86 u95 u96:Value),aa=(Act.put (pts A [(87,u87),(88,u88),(89,u89),(90,u90),(91,u91),(92,u92),(93,u93),(94,u94),(86,u86),(95,u95),(96,u96)]) none undef)∧∃vy ity wy,W=wy.setRow gP #[vy]∧IR 0 wy vy ity∧Eqv fz.1 ity∧ity.length≤n1+1∧Ws wy gW n fz.2∧Turned (fun b=>b=gW) w9 wy) (fun _=>False) [] (fun a W hd h=>h.elim) (fun _ _ _ _ _ h=>h) ?_ ?_
       ·skip
        rintro a9 wv ⟨u87,u88,u89,u90,u91,u92,u93,u94,u86,u95,u96,rfl,vy,ity,wy,rfl,hIy,hEy,hly,hXy,hTy⟩
        rw[←hA];try simp only[pts,List.foldl]
        obtain⟨ay,cy,rfl,_⟩:=hIy.at
        obtain⟨ny,hny⟩:∃ny,ity.length=ny:=⟨_,rfl⟩
        rw[hny] at hIy hly
        rw[hny]
        have Py:=(hTy.block _ (ac P9.o) (by have:=G8.o;omega)).trans P9.o
        have tp:Turned (fun b=>b=gP) wy (wy.setRow gP #[.slice ay ny cy]):=Turned.setRow (Turned.refl _ wy) _ _ (fun _=>rfl)
        have PV:=hQQ (setRow_heap wy gP _ #[.slice ay ny cy] _ _ Py)
        have IV:Hq (IR 0 (wy.setRow gP #[.slice ay ny cy]) (.slice ay ny cy) ity):=hQQ (hIy.keep tp (fun k q=>by subst q;exact⟨_,_,_,Py,by decide⟩))
        have XV:Hq (Ws (wy.setRow gP #[.slice ay ny cy]) gW n fz.2):=hQQ (hXy.keep tp (by have:=G8.o;omega))
        have TV:Hq (Turned (fun b=>b=gW∨b=gP) w9 (wy.setRow gP #[.slice ay ny cy])):=hQQ (Turned.trans (hTy.mono (fun _ _ q=> .inl q)) (tp.mono (fun _ _ q=> .inr q)))
        generalize wy.setRow gP #[.slice ay ny cy]=wv at PV IV XV TV⊢
        have TVR:Hq (Turned (fun b=>b=gW∨b=gP) wr wv):=hQQ (Turned.trans (T9.o.mono (fun _ _ q=> .inl q)) TV.o)
        have LYV:=hQQ ((TV.o.block _ (ac LY9.o) (by have:=G8.o;omega)).trans LY9.o)
        have RSV:=hQQ ((TVR.o.block _ (ac LA.o.res) (by have:=G8.o;omega)).trans LA.o.res)
        have RWV:Hq (Rw bb wv (.slice (some ⟨g9,0,none⟩) n9 c9) s.all):=hQQ (RW9.o.keepT TV.o (fun k q=>by have:=RW9.o.own q;have:=G8.o;omega))
        have RWL:=hQQ RWV.o.lies
        have JN:Hq (n9≤c9):=hQQ (by have:=RWL.o;omega)
        have JC:Hq (ix≤c9):=hQQ (by have:=JN.o;have:=HIX.o;omega)
        have QX:Hq (IntKind.i64.wrap ((ix:Int)+1)=(ix:Int)+1):=hQQ (aj (by omega) (by have:=HIX.o;have:=H60.o;omega))
        have SV:Hq (bb≤wv.heap.size):=hQQ (by have:=TV.o.size;have:=S9.o;omega)
        have HNY:=hQQ (And.intro hny (And.intro hEy hly))
        clear HF hA M0 C0 hIy hEy hly hXy hTy hny Py tp
        go_simp
        go_wp2_with fail
        refine dg (fun W=>ae wv W) (by kernel_rfl) ?_
        change eN _ _ _ _ _ _ _ _ (wv.drewN 1)
        have M0:Hq (ae wv (wv.drewN 1)):=hQQ ((ae.refl wv).drewN 1)
        generalize wv.drewN 1=wq at M0⊢
        generalize hA:Act.mk _ _=A
        have HF:AG 109 A [(9,.slice (some ⟨g9,0,none⟩) n9 c9),(16,.int .i64 (ix:Int))]:=by
         rw[←hA];try simp only[pts,List.foldl]
         refine⟨⟨Nat.le_of_ble_eq_true rfl,rfl⟩,?_⟩
         intro z hz;simp only[List.mem_cons,List.not_mem_nil,or_false] at hz;rcases hz with rfl|rfl<;>rfl
        refine eQ (fun aa W=>∃(u98 u99 u100 u102 u103 u104 u105 u97 u101 u106 u9:Value),aa=(pts A [(98,u98),(99,u99),(100,u100),(102,u102),(103,u103),(104,u104),(105,u105),(97,u97),(101,u101),(106,u106),(9,u9)])∧Rw bb W u9 (s.all.eraseIdx ix)∧ae wv W) (fun _=>False) [] (fun a W hd h=>h.elim) (fun _ _ _ _ _ h=>h) ?_ ?_
        ·skip
         rintro a9 wz ⟨u98,u99,u100,u102,u103,u104,u105,u97,u101,u106,u9,rfl,hrz,hmz⟩
         rw[←hA];try simp only[pts,List.foldl]
         have RWZ:=hQQ hrz
         have MZ:=hQQ hmz
         have NEW:Hq (oG c n (w.heap.size+1) gL gW gP bb ⟨fz.1,s.all.eraseIdx ix⟩ fz.2 u9 (j+1) wz):=hQQ (by
          refine⟨hmz.block LYV.o,hmz.block RSV.o,⟨ay,ny,cy,ity,hmz.block PV.o,IV.o.more hmz,HNY.o.1,HNY.o.2.1,by have:=HNY.o.2.2;have:=HLE.o;omega⟩,hrz,by have:=LA.o.all;have:=HN9.o;have:=HIX.o;simp only[List.length_eraseIdx];split<;>omega,XV.o.more hmz,?_,NI2.o⟩
          obtain⟨_,_,_,z⟩:=NI2.o
          obtain⟨_,z⟩:=z.fri
          exact z.len)
         have MW1:Hq (ae w wz):=hQQ (au (F':=fun b=>b=gW∨b=gP) MW.o (Turned.trans TVR.o (turned_more hmz)) (fun k q=> .inr (by have:=G8.o;rcases q with q|q<;>omega)))
         have SZ:Hq (bb≤wz.heap.size):=hQQ (Nat.le_trans SV.o hmz.size)
         clear HF hA M0 hrz hmz
         go_simp
         go_wp2_with fail
         go_roundw
         case rel=>exact⟨j+1,⟨fz.1,s.all.eraseIdx ix⟩,fz.2,by go_num,HJ.o,NEW.o,SZ.o,MW1.o,MF2.o⟩
         case measure=>simp[intOf];omega
        intro QQ FINE FIND FINQ
        clear hA
        refine tqM 1 98 0 rfl (.inl rfl) rfl (by kernel_rfl) FINQ M0.o HF fun A β1 HF=>?_
        refine tqM 2 99 2 rfl (.inl rfl) rfl (by kernel_rfl) FINQ M0.o HF fun A β2 HF=>?_
        refine tqC 3 100 (.slice (some ⟨g9,0,none⟩) ix c9) (by kernel_rfl) FINQ M0.o HF (by exact vD (ai rfl) rfl (HF.get 1 rfl) (HF.get 0 rfl) JC.o) fun A β3 HF=>?_
        refine tqM 5 102 3 rfl (.inl rfl) rfl (by kernel_rfl) FINQ M0.o HF fun A β4 HF=>?_
        refine tqM 6 103 5 rfl (.inl rfl) rfl (by kernel_rfl) FINQ M0.o HF fun A β5 HF=>?_
        refine tqC 7 104 (.int .i64 ((ix:Int)+1)) (by kernel_rfl) FINQ M0.o HF (by exact mo (ai rfl) rfl (HF.get 0 rfl) rfl _ QX.o) fun A β6 HF=>?_
        refine tqC 8 105 (.slice (some (hiJ g9 ix c9)) (n9-(ix+1)) (c9-(ix+1))) (by kernel_rfl) FINQ M0.o HF (by exact vE (ai rfl) rfl (HF.get 2 rfl) (HF.get 0 rfl) HIX.o JN.o) fun A β7 HF=>?_
        refine tqO 0 97 (by kernel_rfl) HF fun K hK=>?_
        refine xW rfl ?_
        have M1:Hq (ae wv (wq.alloc (.cells #[] 3))):=hQQ (M0.o.alloc _)
        have Z1:=hQQ (GM wq)
        have S1:Hq (wq.heap.size≤(wq.alloc (.cells #[] 3)).heap.size):=hQQ (by simp)
        generalize wq.alloc (.cells #[] 3)=y1 at M1 Z1 S1 hK⊢
        refine hK _ _ M1.o fun A β8 HF=>?_
        clear hK K
        refine eV (i:=4) (some 101) (by kernel_rfl) rfl (ai rfl) rfl (fun K hK=>?_)
        refine zB _ _ rfl (HF.get 0 rfl) Z1.o (S1.o) (HF.get 5 rfl) (BI (fun i y hi=>M1.o.cell (RWL.o.2.2.2.2 i y hi)) (by have:=HIX.o;have:=HN9.o;omega)) (by have:=H60.o;have:=HN9.o;simp;omega) ?_
        intro v2 y2 r2 t2 k2
        have M2:Hq (ae wv y2):=hQQ (au (F':=fun k=>Value.ownBlock (.slice (some ⟨wq.heap.size,0,none⟩) 0 0)=some k) M1.o t2 (fun k q=> .inr (by cases q;exact M0.o.size)))
        have R2:Hq (Rw wq.heap.size y2 v2 (s.all.take ix)):=hQQ r2
        have S2:Hq (wq.heap.size≤y2.heap.size):=hQQ (Nat.le_trans S1.o t2.size)
        refine hK _ _ M2.o ?_
        clear hK K r2 t2 k2
        replace HF:=HF.put 101 (v2) (by decide) rfl
        generalize β9:Act.put _ _ _=A at HF⊢
        refine eV (i:=9) (some 106) (by kernel_rfl) rfl (ai rfl) rfl (fun K hK=>?_)
        refine zB _ _ rfl (HF.get 0 rfl) R2.o (S2.o) (HF.get 2 rfl) (by have h:=BJ (c:=c9-(ix+1)) (fun i y hi=>M2.o.cell (RWL.o.2.2.2.2 i y hi)) (m:=ix) (cv:=c9) (by have:=HIX.o;have:=HN9.o;omega) (by have:=JN.o;have:=HN9.o;omega);rw[HN9.o] at h;exact h) (by have:=H60.o;have:=HN9.o;simp;omega) ?_
        intro v3 y3 r3 t3 k3
        have M3:Hq (ae wv y3):=hQQ (au (F':=fun k=>v2.ownBlock=some k) M2.o t3 (fun k q=> .inr (by have:=R2.o.own q;have:=M0.o.size;omega)))
        have R3:Hq (Rw wq.heap.size y3 v3 (s.all.eraseIdx ix)):=hQQ (by rw[List.eraseIdx_eq_take_drop_succ];exact r3)
        refine hK _ _ M3.o ?_
        clear hK K r3 t3 k3
        replace HF:=HF.put 106 (v3) (by decide) rfl
        generalize β10:Act.put _ _ _=A at HF⊢
        replace HF:=AG.sub HF (L':= [(106,v3)]) (by intro q hq;simp only[List.mem_singleton] at hq;subst hq;simp)
        refine tqM 10 9 0 rfl (.inr rfl) rfl (by kernel_rfl) FINQ M3.o HF fun A β11 HF=>?_
        exact d9 (by kernel_rfl) (FINE _ _ ⟨(.slice (some ⟨g9,0,none⟩) n9 c9),(.int .i64 (ix:Int)),(.slice (some ⟨g9,0,none⟩) ix c9),(.slice (some ⟨g9,0,none⟩) n9 c9),(.int .i64 (ix:Int)),(.int .i64 ((ix:Int)+1)),(.slice (some (hiJ g9 ix c9)) (n9-(ix+1)) (c9-(ix+1))),(.slice (some ⟨wq.heap.size,0,none⟩) 0 0),(v2),(v3),(v3),by rw[← β11,← β10,← β9,← β8,← β7,← β6,← β5,← β4,← β3,← β2,← β1]<;>rfl,gE R3.o (by have:=M0.o.size;have:=SV.o;omega),M3.o⟩)
       intro QQ FINE FIND FINQ
       clear hA
       refine aQ (i:=0) (v:=.agg c.cells) (by kernel_rfl) (by kernel_rfl) (by kernel_rfl) (some 87) rfl rfl (by kernel_rfl) (by kernel_rfl) (by kernel_rfl) (fun c a w=>FINQ c a _ _ w) C0.o (by exact bB (C:=(fun W=>W.heap[gL]?=some (.cells c.cells 27 (0,0))∧W.heap[gP]?=some (.cells #[.slice a1p n1 c1p] 62 (0,0))∧W.cell? ⟨g9,ix,none⟩=some (.int .i64 x))) (ai rfl) 27 _ rfl gL (HF.get 0 rfl) 27 _ _ _ (fun W hW=>hW.1) Tryz.underlying27 rfl (by kernel_rfl)) ?_
       replace HF:=HF.put 87 (.agg c.cells) (by decide) rfl
       generalize β1:Act.put _ _ _=A at HF⊢
       refine aQ (i:=1) (v:=.slice (some ⟨gW,0,none⟩) n n) (by kernel_rfl) (by kernel_rfl) (by kernel_rfl) (some 88) rfl rfl (by kernel_rfl) (by kernel_rfl) (by kernel_rfl) (fun c a w=>FINQ c a _ _ w) C0.o (by exact aV (ai rfl) _ rfl (HF.get 2 rfl)) ?_
       replace HF:=HF.put 88 (.slice (some ⟨gW,0,none⟩) n n) (by decide) rfl
       generalize β2:Act.put _ _ _=A at HF⊢
       refine aQ (i:=2) (v:=.agg #[.slice a1p n1 c1p]) (by kernel_rfl) (by kernel_rfl) (by kernel_rfl) (some 89) rfl rfl (by kernel_rfl) (by kernel_rfl) (by kernel_rfl) (fun c a w=>FINQ c a _ _ w) C0.o (by exact bB (C:=(fun W=>W.heap[gL]?=some (.cells c.cells 27 (0,0))∧W.heap[gP]?=some (.cells #[.slice a1p n1 c1p] 62 (0,0))∧W.cell? ⟨g9,ix,none⟩=some (.int .i64 x))) (ai rfl) 62 _ rfl gP (HF.get 4 rfl) 62 _ _ _ (fun W hW=>hW.2.1) Tryz.underlying62 rfl (by kernel_rfl)) ?_
       replace HF:=HF.put 89 (.agg #[.slice a1p n1 c1p]) (by decide) rfl
       generalize β3:Act.put _ _ _=A at HF⊢
       refine aQ (i:=3) (v:=.slice (some ⟨g9,0,none⟩) n9 c9) (by kernel_rfl) (by kernel_rfl) (by kernel_rfl) (some 90) rfl rfl (by kernel_rfl) (by kernel_rfl) (by kernel_rfl) (fun c a w=>FINQ c a _ _ w) C0.o (by exact aV (ai rfl) _ rfl (HF.get 6 rfl)) ?_
       replace HF:=HF.put 90 (.slice (some ⟨g9,0,none⟩) n9 c9) (by decide) rfl
       generalize β4:Act.put _ _ _=A at HF⊢
       refine aQ (i:=4) (v:=.int .i64 (ix:Int)) (by kernel_rfl) (by kernel_rfl) (by kernel_rfl) (some 91) rfl rfl (by kernel_rfl) (by kernel_rfl) (by kernel_rfl) (fun c a w=>FINQ c a _ _ w) C0.o (by exact aV (ai rfl) _ rfl (HF.get 8 rfl)) ?_
       replace HF:=HF.put 91 (.int .i64 (ix:Int)) (by decide) rfl
       generalize β5:Act.put _ _ _=A at HF⊢
       refine aQ (i:=5) (v:=.pointer (some ⟨g9,ix,none⟩)) (by kernel_rfl) (by kernel_rfl) (by kernel_rfl) (some 92) rfl rfl (by kernel_rfl) (by kernel_rfl) (by kernel_rfl) (fun c a w=>FINQ c a _ _ w) C0.o (by exact ko (j:=ix) (ai rfl) rfl (HF.get 1 rfl) (HF.get 0 rfl) HIX.o) ?_
       replace HF:=HF.put 92 (.pointer (some ⟨g9,ix,none⟩)) (by decide) rfl
       generalize β6:Act.put _ _ _=A at HF⊢
       refine aQ (i:=6) (v:=.int .i64 x) (by kernel_rfl) (by kernel_rfl) (by kernel_rfl) (some 93) rfl rfl (by kernel_rfl) (by kernel_rfl) (by kernel_rfl) (fun c a w=>FINQ c a _ _ w) C0.o (by exact cY (C:=(fun W=>W.heap[gL]?=some (.cells c.cells 27 (0,0))∧W.heap[gP]?=some (.cells #[.slice a1p n1 c1p] 62 (0,0))∧W.cell? ⟨g9,ix,none⟩=some (.int .i64 x))) (ai rfl) 3 _ rfl g9 ix (HF.get 0 rfl) (.int .i64 x) _ Tryz.underlying3 rfl (fun W hW=>hW.2.2)) ?_
       replace HF:=HF.put 93 (.int .i64 x) (by decide) rfl
       generalize β7:Act.put _ _ _=A at HF⊢
       refine dm (i:=7) (some 94) (by kernel_rfl) rfl (ai rfl) rfl (fun K hK=>?_)
       refine j8 (v0:=.agg c.cells) (v1:=.slice (some ⟨gW,0,none⟩) n n) (v2:=(.int .i64 0)) (v3:=.agg #[.slice a1p n1 c1p]) (v4:=.int .i64 x) rfl (HF.get 6 rfl) (HF.get 5 rfl) rfl (HF.get 4 rfl) (HF.get 0 rfl) (enters_of Tryz.func30 (by kernel_rfl) rfl) ?_
       refine(FR.o _ (IR9.o.more M0.o) (X9.o.more M0.o)).mono ?_
       rintro e y1 ⟨vy,ity,rfl,hIy,hEy,hly,hXy,ht⟩
       rw[ITL.o] at hly
       have T1:Hq (Turned (fun b=>b=gW) w9 y1):=hQQ (Turned.trans (turned_more M0.o) ht)
       have Y1:=hQQ (And.intro hIy (And.intro hEy (And.intro hly hXy)))
       have C1:Hq (y1.heap[gL]?=some (.cells c.cells 27 (0,0))∧y1.heap[gP]?=some (.cells #[.slice a1p n1 c1p] 62 (0,0))∧y1.cell? ⟨g9,ix,none⟩=some (.int .i64 x)):=hQQ ⟨(ht.block _ (ac C0.o.1) (by have:=G8.o;omega)).trans C0.o.1,(ht.block _ (ac C0.o.2.1) (by have:=G8.o;omega)).trans C0.o.2.1,(World.cell?_of_block (w:=wq) (ht.block g9 (dB C0.o.2.2) (by have:=G8.o;have:=B9.o;omega))).trans C0.o.2.2⟩
       clear hIy hEy hly hXy ht
       refine hK _ _ (.inr C1.o) ?_
       clear hK K
       replace HF:=HF.put 94 (.tuple #[.agg #[vy],.bool true]) (by decide) rfl
       generalize β8:Act.put _ _ _=A at HF⊢
       refine aQ (i:=8) (v:=.tuple #[.agg #[vy],.bool true]) (by kernel_rfl) (by kernel_rfl) (by kernel_rfl) (some 86) rfl rfl (by kernel_rfl) (by kernel_rfl) (by kernel_rfl) (fun c a w=>FINQ c a _ _ w) C1.o (by exact aV (ai rfl) _ rfl (HF.get 0 rfl)) ?_
       replace HF:=HF.put 86 (.tuple #[.agg #[vy],.bool true]) (by decide) rfl
       generalize β9:Act.put _ _ _=A at HF⊢
       refine aQ (i:=9) (v:=.agg #[vy]) (by kernel_rfl) (by kernel_rfl) (by kernel_rfl) (some 95) rfl rfl (by kernel_rfl) (by kernel_rfl) (by kernel_rfl) (fun c a w=>FINQ c a _ _ w) C1.o (by exact(Or.inl ⟨(ai rfl),fun W hW=>by have h50:=(HF.getD 0 rfl);go_simp⟩)) ?_
       replace HF:=HF.put 95 (.agg #[vy]) (by decide) rfl
       generalize β10:Act.put _ _ _=A at HF⊢
       refine xO (i:=10) (v:=.bool true) (by kernel_rfl) (some 96) rfl rfl (by kernel_rfl) (by kernel_rfl) (by kernel_rfl) (fun c a w=>FINQ c a _ _ w) C1.o (by exact(Or.inl ⟨(ai rfl),fun W hW=>by have h50:=(HF.getD 1 rfl);go_simp⟩)) ?_
       replace HF:=HF.put 96 (.bool true) (by decide) rfl
       generalize β11:Act.put _ _ _=A at HF⊢
       have ONE:=IB Y1.o.1
       refine dm (i:=11) none (by kernel_rfl) rfl (ai rfl) rfl (fun K hK=>?_)
       refine wp_store_row 62 _ _ rfl gP _ (HF.get 13 rfl) (HF.get 1 rfl) 62 _ C1.o.2.1 (by kernel_rfl) rfl ONE ?_
       refine hK _ _ (.inl (by kernel_rfl)) ?_
       exact kZ (by kernel_rfl) (FINE _ _ ⟨(.agg c.cells),(.slice (some ⟨gW,0,none⟩) n n),(.agg #[.slice a1p n1 c1p]),(.slice (some ⟨g9,0,none⟩) n9 c9),(.int .i64 (ix:Int)),(.pointer (some ⟨g9,ix,none⟩)),(.int .i64 x),(.tuple #[.agg #[vy],.bool true]),(.tuple #[.agg #[vy],.bool true]),(.agg #[vy]),(.bool true),by rw[← β11,← β10,← β9,← β8,← β7,← β6,← β5,← β4,← β3,← β2,← β1]<;>rfl,vy,ity,y1,rfl,Y1.o.1,Y1.o.2.1,Y1.o.2.2.1,Y1.o.2.2.2,T1.o⟩)
      ·have d3:(t1==3)=false:=by simp[h3]
       have hst:fV c t1 t2 t3 ix s ws=(s,(jd (bG c x) ws).2):=by unfold fV;rw[if_neg (by omega),if_neg hane,if_neg h3,hx]
       have MF1:=MF.o
       have NI1:=NI.o
       rw[hst] at MF1 NI1
       have MF2:=hQQ MF1
       have NEW:=hQQ (LA.o.turn T9.o X9.o NI1 (by have:=G8.o;omega))
       have MW1:Hq (ae w w9):=hQQ (au (F':=fun b=>b=gW) MW.o T9.o (fun k q=> .inr (by have:=G8.o;omega)))
       clear MF1 NI1 hst
       go_simp
       go_wp2_with fail
       go_roundw
       case rel=>exact⟨j+1,s,_,by go_num,HJ.o,NEW.o,S9.o,MW1.o,MF2.o⟩
       case measure=>simp[intOf];omega
     intro QQ FINE FIND FINQ
     clear hA
     refine tqC 0 76 (.agg c.cells) (by kernel_rfl) FINQ C0.o HF (by exact bB (ai rfl) 27 _ rfl gL (HF.get 0 rfl) 27 _ _ _ (fun W hW=>hW.1) Tryz.underlying27 rfl (by kernel_rfl)) fun A β1 HF=>?_
     refine tqM 1 77 2 rfl (.inl rfl) rfl (by kernel_rfl) FINQ C0.o HF fun A β2 HF=>?_
     refine tqM 2 78 4 rfl (.inl rfl) rfl (by kernel_rfl) FINQ C0.o HF fun A β3 HF=>?_
     refine tqM 3 79 6 rfl (.inl rfl) rfl (by kernel_rfl) FINQ C0.o HF fun A β4 HF=>?_
     refine tqC 4 80 (.pointer (some ⟨g9,ix,none⟩)) (by kernel_rfl) FINQ C0.o HF (by exact ko (j:=ix) (ai rfl) rfl (HF.get 1 rfl) (HF.get 0 rfl) HIX.o) fun A β5 HF=>?_
     refine tqC 5 81 (.int .i64 x) (by kernel_rfl) FINQ C0.o HF (by exact cY (ai rfl) 3 _ rfl g9 ix (HF.get 0 rfl) (.int .i64 x) _ Tryz.underlying3 rfl (fun W hW=>hW.2)) fun A β6 HF=>?_
     refine tqO 6 82 (by kernel_rfl) HF fun K hK=>?_
     refine iX (v0:=.agg c.cells) (v1:=.slice (some ⟨gW,0,none⟩) n n) (v2:=.int .i64 x) rfl (HF.get 5 rfl) (HF.get 4 rfl) (HF.get 0 rfl) (enters_of Tryz.func29 (by kernel_rfl) rfl) ?_
     refine(CLC.o _ (XA.o.more M0.o)).mono ?_
     rintro e y1 ⟨rfl,hx,ht⟩
     have T1:Hq (Turned (fun b=>b=gW) wa y1):=hQQ (Turned.trans (turned_more M0.o) ht)
     have X1:=hQQ hx
     have C1:Hq (y1.heap[gL]?=some (.cells c.cells 27 (0,0))∧y1.cell? ⟨g9,ix,none⟩=some (.int .i64 x)):=hQQ ⟨(ht.block _ (ac C0.o.1) (by have:=G8.o;omega)).trans C0.o.1,(World.cell?_of_block (w:=wq) (ht.block g9 (dB C0.o.2) (by have:=G8.o;have:=B9.o;omega))).trans C0.o.2⟩
     clear hx ht
     refine hK _ _ C1.o fun A β7 HF=>?_
     clear hK K
     exact d9 (by kernel_rfl) (FINE _ _ ⟨by rw[← β7,← β6,← β5,← β4,← β3,← β2,← β1]<;>rfl,T1.o,X1.o⟩)
  ·have hje:j=l.length:=by omega
   subst hje
   have hmf:(s,ws)=mf:=by rw[List.drop_length] at hmf;exact hmf
   have LYR:=hQQ hA0.lay
   have RSR:=hQQ hA0.res
   have XR:=hQQ hA0.words
   have LNR:=hQQ hA0.len
   have DG:=G8.o
   have FIN:Hq (∃g,(Ending.returned (.tuple #[.agg c.cells,.slice (some ⟨gW,0,none⟩) n n]))=.returned (.tuple #[.agg c.cells,.slice (some ⟨g,0,none⟩) n n])∧w.heap.size≤g∧Ws (wr.setRow (w.heap.size+1) c.cells) g n mf.2∧ae w (wr.setRow (w.heap.size+1) c.cells)):=hQQ (by
    refine⟨gW,rfl,by omega,?_,hM0.setRow _ _ (by omega)⟩
    rw[←hmf]
    exact XR.o.keep (Turned.setRow (S:=fun b=>b=w.heap.size+1) (Turned.refl _ wr) _ _ (fun _=>rfl)) (by omega))
   clear hA0 hM0 hbw hmf DG
   go_wp2_with (first|(first|(refine az rfl rfl rfl LYR.o (by kernel_rfl) ?_)|(refine az rfl rfl rfl LYR.o (by kernel_rfl) ?_))|(refine wpList_store_row rfl 27 _ _ rfl _ _ rfl rfl 27 _ RSR.o (by kernel_rfl) rfl (iY c) ?_))
   refine bodyPost_ret (v:=.tuple #[.agg c.cells,.slice (some ⟨gW,0,none⟩) n n]) (kX Tryz.results8 _ _ _ 27 _ (0,0) _ rfl (setRow_heap _ _ _ _ _ _ RSR.o) Tryz.underlying27 rfl (by kernel_rfl)) rfl FIN.o
def tcP (c:Cfg)(q:Int):Prg (TS×TS):=aI (oE c q) (fun s=>aI (qc c) (fun t=>aK (s,t)))
theorem E3 (c:Cfg)(q:Int):eG (tcP c q):=cT (rB _ _) (fun _=>cT (rC _) (fun _=>cG _))
theorem GN {c:Cfg}(R:c.Ok){n:Nat}(H:PgIn c.pg c.st n)(hw:(n:Int)=c.words)(q:Int):fY n (fun _=>True) (tcP c q):=dl (mR R H hw q) (fun _ _=>dl (mS R H hw) (fun _ _=>cO n trivial))
theorem GO {c:Cfg}(R:c.Ok){n:Nat}(H:PgIn c.pg c.st n)(hw:(n:Int)=c.words)(q:Int):bO n (tcP c q) (fun ws=>((qh c q ws,tlV c ws),ws)):=
 aF (vt R H hw q) (fun s=>aF (vu R H hw) (fun t=>aA n (s,t)))
structure TcY (c:Cfg)(g1 gq ga gb bt:Nat)(q:Int)(w:World):Prop where
 h1:w.heap[g1]?=some (.cells c.arr 33 (0,0))
 hq:lH w gq q
 ha:∃s,dX ga w s
 hb:∃s,dX gb w s
 sz:iQ bt w
def TcX (ga gb:Nat)(V:TS×TS)(w:World):Prop:=dX ga w V.1∧dX gb w V.2
theorem IG {c:Cfg}(R:c.Ok){n bt:Nat}(H:PgIn c.pg c.st n)(hw:(n:Int)=c.words)(hn:n≤10000)(F:Nat→Prop)(p g1 gq ga gb:Nat)(q:Int)(hq64:W64 q)(kn:Int→Option Int)(W:World)(hv:bJ W F p kn [])(hk:OkK kn)(hY:TcY c g1 gq ga gb bt q W)(n1:¬F g1)(nq:¬F gq)(na:¬F ga)(nb':¬F gb)(n0:¬F 0)(nb:¬F bt)(hd:(g1≠ga∧g1≠gb)∧(gq≠ga∧gq≠gb)∧ga≠gb∧(0≠ga∧0≠gb)∧bt≠ga∧bt≠gb)(V:TS×TS)
 (ht:∀x D,tcP c q kn []=.ok x D→x=V):
 Calls Tryz.prog 11 #[.pointer (some ⟨p,0,none⟩),.pointer (some ⟨g1,0,none⟩),.pointer (some ⟨gq,0,none⟩),.pointer (some ⟨ga,0,none⟩),.pointer (some ⟨gb,0,none⟩)] W (lm W F (fun b=>b=ga∨b=gb) (fun w'=>TcY c g1 gq ga gb bt q w') (fun w'=>TcX ga gb V w') p kn (gO (tcP c q kn []))):=by
 obtain⟨Rr,hR⟩:∃Rr,tcP c q kn []=Rr:=⟨_,rfl⟩
 rw[hR] at ht⊢
 obtain⟨⟨d1a,d1b⟩,⟨dqa,dqb⟩,dab,⟨d0a,d0b⟩,dta,dtb⟩:=hd
 obtain⟨x0,h2⟩:=hY.ha
 obtain⟨y0,h3⟩:=hY.hb
 have la:=ac h2
 have lb:=ac h3
 have L1:=hQQ hY.h1
 have c0:=(aZ hY.hq).1
 have KT:∀wr,Turned (fun b=>F b∨(b=ga∨b=gb)) W wr→(∃s,dX ga wr s)→(∃s,dX gb wr s)→TcY c g1 gq ga gb bt q wr:=fun wr t a b =>
  ⟨(t.block g1 (ac hY.h1) (by rintro(z|z|z);exact n1 z;exact d1a z;exact d1b z)).trans hY.h1,(t.block gq (ac hY.hq) (by rintro(z|z|z);exact nq z;exact dqa z;exact dqb z)).trans hY.hq,a,b,hY.sz.keep t (by rintro(z|z|z);exact n0 z;exact d0a z;exact d0b z) (by rintro(z|z|z);exact nb z;exact dta z;exact dtb z)⟩
 have M0:MidV W W F (fun b=>b=ga∨b=gb) p kn n [] F:=MidV.begin hv (fO _)
 have PG:=EU R H hw hn F p kn [] q hq64 W hv hk (fO _) hY.sz n0 nb
 have GP:=mR R H hw q
 have GT:=hQQ (mS R H hw)
 have NEED:Hq (∀x w2,Rr=.need x→eK w2 p x→Turned (fun b=>F b∨(b=ga∨b=gb)) W w2→(∃s,dX ga w2 s)→(∃s,dX gb w2 s)→lm W F (fun b=>b=ga∨b=gb) (fun w'=>TcY c g1 gq ga gb bt q w') (fun w'=>TcX ga gb V w') p kn (gO Rr) (.panicked (fg p)) w2):=hQQ fun x w2 e hd' ht' a b =>
  yj (pi e) hd' ht' (KT _ ht' a b)
 have DONE:Hq (∀x w2 D F',Rr=.ok x D→MidV W w2 F (fun b=>b=ga∨b=gb) p kn n D F'→dX ga w2 x.1→dX gb w2 y0→¬F' gb→lm W F (fun b=>b=ga∨b=gb) (fun w'=>TcY c g1 gq ga gb bt q w') (fun w'=>TcX ga gb V w') p kn (gO Rr) (.returned (.tuple #[])) (w2.setRow gb x.2.arr)):=hQQ fun x w2 D F' e h b2 b3 nf=>by
  obtain rfl:=ht x D e
  have hm:=h.setRow (b:=gb) (fun _=> .inr rfl) nf x.2.arr b3
  have e3:dX gb (w2.setRow gb x.2.arr) x.2:=setRow_heap w2 gb _ x.2.arr _ _ b3
  have t3:Turned (fun k=>k=gb) w2 (w2.setRow gb x.2.arr):=Turned.setRow (Turned.refl _ w2) _ _ (fun _=>rfl)
  have e2:dX ga (w2.setRow gb x.2.arr) x.1:=(t3.block ga (ac b2) dab).trans b2
  exact yk hm (tU e) (KT _ hm.turn ⟨_,e2⟩ ⟨_,e3⟩) ⟨e2,e3⟩
 have HRr:=hQQ (show aI (oE c q) (fun s=>aI (qc c) (fun t=>aK (s,t))) kn []=Rr from hR)
 have KTH:=hQQ KT
 have CTN:=hQQ (fun W' F' D' (hv':bJ W' F' p kn D') (hD':ft n D') (hs':iQ bt W') (a0:¬F' 0) (ab:¬F' bt)=>zt R H hw hn F' p kn D' W' hv' hk hD' hs' a0 ab)
 have SZ0:=hQQ hY.sz
 clear ht KT hR
 go_enter Tryz.func11,Tryz.ntmps11
 go_wp2_with (refine dh rfl rfl rfl L1.o (by kernel_rfl) ?_)
 refine PG.mono ?_
 intro e w4 he
 rcases M0.step (ae.refl _) hk GP he with⟨a',hE,rfl,hd',ht',hk4⟩|⟨x4,D4,F4,hE,rfl,M4,_,hk4,hn4⟩
 ·exact⟨rfl,NEED.o a' w4 (HRr.o.symm.trans (bS hE)) hd' ht' ⟨_,hk4 _ _ na h2⟩ ⟨_,hk4 _ _ nb' h3⟩⟩
 have R4:=hQQ ((bF hE).symm.trans HRr.o)
 have a4:dX ga w4 x0:=hk4 _ _ na h2
 have b4:dX gb w4 y0:=hk4 _ _ nb' h3
 have off4:∀k,k<W.heap.size→¬F k→¬F4 k:=fun k hk' nf z=>by
  rcases hn4 _ z with r|r
  ·exact nf r
  ·omega
 have nfa:¬F4 ga:=off4 _ la na
 have nfb:¬F4 gb:=off4 _ lb nb'
 have nf0:¬F4 0:=off4 _ SZ0.o.lt0 n0
 have nft:¬F4 bt:=off4 _ SZ0.o.lt nb
 have A4:=hQQ a4
 obtain⟨w5,e5⟩:∃w5,w4.setRow ga x4.arr=w5:=⟨_,rfl⟩
 have m5:=M4.setRow (b:=ga) (fun _=> .inl rfl) nfa x4.arr a4
 have a5:dX ga w5 x4:=by rw[←e5];exact setRow_heap w4 ga _ x4.arr _ _ a4
 have t5:Turned (fun k=>k=ga) w4 w5:=by rw[←e5];exact Turned.setRow (Turned.refl _ w4) _ _ (fun _=>rfl)
 rw[e5] at m5
 have b5:dX gb w5 y0:=(t5.block gb (ac b4) (fun z=>dab z.symm)).trans b4
 have y5:=KTH.o w5 m5.turn ⟨_,a5⟩ ⟨_,b5⟩
 have M5:=hQQ m5
 have L5:=hQQ y5.h1
 have A5:=hQQ a5
 have B5:=hQQ b5
 have CT5:=hQQ (CTN.o w5 F4 D4 m5.view m5.inv y5.sz nf0 nft)
 clear he hE hk4 hn4 M4 a4 b4 off4 m5 a5 t5 b5 y5 c0
 simp only[vTS]
 go_wp2_with (first|(refine wpList_store_row rfl 38 _ _ rfl ga x4.arr rfl rfl 38 _ A4.o (by kernel_rfl) rfl (cW _) ?_;rw[e5])|(refine dh rfl rfl rfl L5.o (by kernel_rfl) ?_))
 clear e5
 refine CT5.o.mono ?_
 intro e w6 he
 rcases M5.o.step (ae.refl _) hk GT.o he with⟨a',hE,rfl,hd',ht',hk6⟩|⟨x6,D6,F6,hE,rfl,M6,_,hk6,hn6⟩
 ·exact⟨rfl,NEED.o a' w6 (R4.o.symm.trans (bS hE)) hd' ht' ⟨_,hk6 _ _ nfa A5.o⟩ ⟨_,hk6 _ _ nfb B5.o⟩⟩
 have R6:=(bF hE).symm.trans R4.o
 have b6:dX gb w6 y0:=hk6 _ _ nfb B5.o
 have nf6:¬F6 gb:=fun z=>by
  rcases hn6 _ z with r|r
  ·exact nfb r
  ·have:=ac B5.o;omega
 have FIN:=hQQ (DONE.o (x4,x6) w6 D6 F6 R6.symm M6 (hk6 _ _ nfa A5.o) b6 nf6)
 have B6:=hQQ b6
 clear he hE hk6 hn6 M6 b6 R6
 simp only[vTS]
 go_wp2_with (refine wpList_store_row rfl 38 _ _ rfl gb x6.arr rfl rfl 38 _ B6.o (by kernel_rfl) rfl (cW _) ?_)
 go_end0
 exact FIN.o
theorem JB {c:Cfg}(R:c.Ok){bt:Nat}(zs:List Int)(H:PgIn c.pg c.st zs.length)(hw:(zs.length:Int)=c.words)(hn:zs.length≤1000)(ok:OkW zs)(w:World)(g1 gq ga gb:Nat)(q:Int)(hq64:W64 q)(a:Option Addr)(cap:Nat)(hY:TcY c g1 gq ga gb bt q w)(hd:(g1≠ga∧g1≠gb)∧(gq≠ga∧gq≠gb)∧ga≠gb∧(0≠ga∧0≠gb)∧bt≠ga∧bt≠gb)(hz:gV w a zs):
 Calls Tryz.prog 10 #[.slice a zs.length cap,.func (.func 11) #[] #[.pointer (some ⟨g1,0,none⟩),.pointer (some ⟨gq,0,none⟩),.pointer (some ⟨ga,0,none⟩),.pointer (some ⟨gb,0,none⟩)]] w (fun e w'=>∃v1 v2,e=.returned (.tuple #[v1,v2,.int .i64 0])∧TcX ga gb (qh c q zs,tlV c zs) w'∧Turned (fun b=>b=ga∨b=gb) w w'):=by
 have l1:=ac hY.h1
 have lq:=ac hY.hq
 have la:ga<w.heap.size:=by obtain⟨x,h⟩:=hY.ha;exact ac h
 have lb:gb<w.heap.size:=by obtain⟨x,h⟩:=hY.hb;exact ac h
 have l0:=hY.sz.lt0
 have lt:=hY.sz.lt
 have G:=GN R H hw q
 obtain⟨K',hK',_,hans⟩:=yc (zs:=zs) (E3 c q) G ok (GO R H hw q)
 have M:=EV a cap zs (fun K=>gO (tcP c q (look K) [])) (some (_,K')) zs.length w hz (by omega) ok (yb G ok (by omega)) (by omega) hK' 11 #[.pointer (some ⟨g1,0,none⟩),.pointer (some ⟨gq,0,none⟩),.pointer (some ⟨ga,0,none⟩),.pointer (some ⟨gb,0,none⟩)] (fun k=>k=ga∨k=gb)
  (fun w'=>TcY c g1 gq ga gb bt q w') (fun b w'=>TcX ga gb (qh c q zs,tlV c zs) w')
  (fun k z=>by rcases z with rfl|rfl<;>assumption)
  (fun w' w'' y t=>⟨(t.block g1 (ac y.h1) (by omega)).trans y.h1,(t.block gq (ac y.hq) (by omega)).trans y.hq,by obtain⟨z,q⟩:=y.ha;exact⟨z,(t.block ga (ac q) (by omega)).trans q⟩,by obtain⟨z,q⟩:=y.hb;exact⟨z,(t.block gb (ac q) (by omega)).trans q⟩,y.sz.keep t (by omega) (by omega)⟩)
  (fun b w' w'' hb x t=>⟨(t.block ga (ac x.1) (by omega)).trans x.1,(t.block gb (ac x.2) (by omega)).trans x.2⟩) hY (enters_of Tryz.func11 (by kernel_rfl) rfl)
  (fun K hK W F p t y hv hF=>IG R H hw (by omega) F p g1 gq ga gb q hq64 (look K) W hv (rO hK ok) y (fun q=>by have:=hF _ q;omega) (fun q=>by have:=hF _ q;omega) (fun q=>by have:=hF _ q;omega) (fun q=>by have:=hF _ q;omega) (fun q=>by have:=hF _ q;omega) (fun q=>by have:=hF _ q;omega) hd _
   (fun x D e=>hans K hK x D e))
 refine M.mono ?_
 rintro e w' ⟨v1,v2,b,rfl,r1,_,t,y,hb,x⟩
 exact⟨v1,v2,rfl,x,t⟩
theorem qn {c:Cfg}(R:c.Ok){n:Nat}(H:cB c.pg c.st n)(hw:(n:Int)=c.words)(hn:n≤1000):∀(l:List nw) (s:LSt) (ws:List Int),(∃r O RL,LdI c n s ws r O RL)→∃r O RL,LdI c n (jI c l s ws).1 (jI c l s ws).2 r O RL
 | [],s,ws,h=>h
 |t::l,s,ws,⟨r,O,RL,h⟩=>by
  refine qn R H hw hn l _ _ (tw R H hw hn h t.1 t.2.1 t.2.2.1 (fun ne=>td _ ?_))
  cases hs:s.all with
  |nil=>exact absurd hs ne
  |cons x xs=>simp
theorem E4 (y0 y1 y2 y3 y4 y5 y6 y7 y8 y9 y10:Int)(f0:(Lit.int .i64 y0).wf=true)(f1:(Lit.int .i64 y1).wf=true)(f2:(Lit.int .i64 y2).wf=true)(f3:(Lit.int .i64 y3).wf=true)(f4:(Lit.int .i64 y4).wf=true)(f5:(Lit.int .i64 y5).wf=true)(f6:(Lit.int .i64 y6).wf=true)(f7:(Lit.int .i64 y7).wf=true)(f8:(Lit.int .i64 y8).wf=true)(f9:(Lit.int .i64 y9).wf=true)(f10:(Lit.int .i64 y10).wf=true)(l:List nw)(hl:l.length≤60)(ho:FQ l):∃(d:Cfg) (n:Nat) (s:LSt) (zs:List Int),d.Small∧(n:Int)=d.words∧(∃r O RL,LdI d n s zs r O RL)∧Hq (∀(ad:Option Addr) (cap:Nat) (w:World),im w ad l→Calls Tryz.prog 8 #[.agg #[.int .i64 y0,.int .i64 y1,.int .i64 y2,.int .i64 y3,.int .i64 y4,.int .i64 y5,.int .i64 y6,.int .i64 y7,.int .i64 y8,.int .i64 y9,.int .i64 y10],.slice ad l.length cap] w (fun e w'=>∃g,e=.returned (.tuple #[.agg d.cells,.slice (some ⟨g,0,none⟩) n n])∧w.heap.size≤g∧Ws w' g n zs∧ae w w')):=by
 obtain⟨wk,cp,pg,st,tr,wt,ck,pr,ca,bi,ba,R0,S0⟩:=wD y0 y1 y2 y3 y4 y5 y6 y7 y8 y9 y10 f0 f1 f2 f3 f4 f5 f6 f7 f8 f9 f10
 have R:Cfg.Ok ⟨wk,cp,pg,st,tr,wt,ck,pr,ca,bi,ba⟩:=R0
 have S:=ue R
 have SM:=fun W=>qU R y0 y1 y2 y3 y4 y5 y6 y7 y8 y9 y10 _ W S0.o rfl
 generalize j6 ⟨wk,cp,pg,st,tr,wt,ck,pr,ca,bi,ba⟩=d at S SM
 have wd:=S.words
 have hn:((d.words.toNat:Nat):Int)=d.words:=by omega
 have H:cB d.pg d.st d.words.toNat:=by
  have h2:=fP S.ok;have h3:=S.ok.pg1
  have h5:aN d.st d.pg+62≤cF d.cp d.pg d.st d.ca d.bi:=by
   have:=jU S.ok;have:=S.ok.bi1
   unfold cF dZ cD;omega
  refine { S.tbl hn with top5:= ?_,top62:= ?_ }
  ·rw[hn]
   have ew:d.words=bQ d.cp d.pg d.st d.ca d.bi+32 * d.pg:=rfl
   unfold aN at h5
   omega
  ·rw[hn]
   have ew:d.words=bQ d.cp d.pg d.st d.ca d.bi+32 * d.pg:=rfl
   unfold aN at h5
   omega
 exact⟨d,d.words.toNat,_,_,S,hn,qn S.ok H hn (by omega) l ls0 (bL d.words.toNat) ⟨_,_,_,zC S.ok H hn⟩,
  fun ad cap w h=>BM S.ok H hn (by omega) #[.int .i64 y0,.int .i64 y1,.int .i64 y2,.int .i64 y3,.int .i64 y4,.int .i64 y5,.int .i64 y6,.int .i64 y7,.int .i64 y8,.int .i64 y9,.int .i64 y10] rfl SM l hl (fun t ht=>⟨(ho t ht).1,(ho t ht).2.2⟩) ad cap w h⟩
theorem vF (y0 y1 y2 y3 y4 y5 y6 y7 y8 y9 y10:Int)(a:Option Addr)(capl:Nat)(l:List nw)(q:Int)(w:World)(hS:uo w)(f0:(Lit.int .i64 y0).wf=true)(f1:(Lit.int .i64 y1).wf=true)(f2:(Lit.int .i64 y2).wf=true)(f3:(Lit.int .i64 y3).wf=true)(f4:(Lit.int .i64 y4).wf=true)(f5:(Lit.int .i64 y5).wf=true)(f6:(Lit.int .i64 y6).wf=true)(f7:(Lit.int .i64 y7).wf=true)(f8:(Lit.int .i64 y8).wf=true)(f9:(Lit.int .i64 y9).wf=true)(f10:(Lit.int .i64 y10).wf=true)(hl:im w a l)(ho:FQ l)(hm:l.length≤9223372036854775807)(fq:(Lit.int .i64 q).wf=true):
 Calls Tryz.prog 3 #[.agg #[.int .i64 y0,.int .i64 y1,.int .i64 y2,.int .i64 y3,.int .i64 y4,.int .i64 y5,.int .i64 y6,.int .i64 y7,.int .i64 y8,.int .i64 y9,.int .i64 y10],.slice a l.length capl,.int .i64 q] w (aE w (.bool true)):=by
 obtain⟨w2,e2,ha2,hb2,m2,hs2⟩:=iO w (.cells #[.int .i64 y0,.int .i64 y1,.int .i64 y2,.int .i64 y3,.int .i64 y4,.int .i64 y5,.int .i64 y6,.int .i64 y7,.int .i64 y8,.int .i64 y9,.int .i64 y10] 23) (.cells #[.int .i64 q] 3)
 obtain⟨bt,hsz⟩:=hS
 have HSZ:Hq (iQ bt w):=hQQ hsz
 have sz0:=HSZ.o.lt0
 have szb:=HSZ.o.lt
 have HM:=hQQ m2
 have HA:=hQQ ha2
 have HQ:=hQQ hb2
 clear ha2 hb2 hsz
 by_cases hbig:60<l.length
 ·have d0:decide ((60:Int)<(l.length:Int))=true:=by simp;omega
  clear m2 hs2 HA HQ f0 f1 f2 f3 f4 f5 f6 f7 f8 f9 f10
  go_enter Tryz.func3,Tryz.ntmps3
  go_wp2_with fail
  refine(qm bt _ (HSZ.o.more HM.o)).mono ?_
  rintro e w8 ⟨rfl,h8⟩
  have HM8:=hQQ (HM.o.trans h8)
  clear h8
  go_wp2_with fail
  go_ret
  exact⟨rfl,HM8.o⟩
 ·have d0:decide ((60:Int)<(l.length:Int))=false:=by simp;omega
  have q64:W64 q:=⟨jN fq,jO fq⟩
  obtain⟨d,n,s,zs,S,hn,⟨rr,OO,RL,INV⟩,LD⟩:=E4 y0 y1 y2 y3 y4 y5 y6 y7 y8 y9 y10 f0 f1 f2 f3 f4 f5 f6 f7 f8 f9 f10 l (by omega) ho
  have wds:=S.words
  have hnb:160≤n∧n≤800:=by omega
  obtain⟨C,FRI⟩:=INV.fri
  obtain⟨G,PW⟩:=FRI.pgs
  have hzl:zs.length=n:=FRI.len
  have hzo:OkW zs:=FRI.ok
  have hkd:∀q,ag d.pg q=true→0≤ao d.pg d.st zs q:=fun q hq=>(PW.f.wf.b q hq).1
  have H:cB d.pg d.st n:=by
   have h2:=fP S.ok;have h3:=S.ok.pg1
   have h5:aN d.st d.pg+62≤cF d.cp d.pg d.st d.ca d.bi:=by
    have:=jU S.ok;have:=S.ok.bi1
    unfold cF dZ cD;omega
   refine { S.tbl hn with top5:= ?_,top62:= ?_ }
   ·rw[hn]
    have ew:d.words=bQ d.cp d.pg d.st d.ca d.bi+32 * d.pg:=rfl
    unfold aN at h5
    omega
   ·rw[hn]
    have ew:d.words=bQ d.cp d.pg d.st d.ca d.bi+32 * d.pg:=rfl
    unfold aN at h5
    omega
  have LDA:=hQQ (LD.out a capl w2 (hl.more m2))
  have E1:=hQQ (zA.2 (zq d q zs (hkd q)))
  have E2:=hQQ (zA.2 (Iw d zs hkd))
  have SS:=hQQ S
  have R17P:=hQQ (fun g W (hW:Ws W g n zs)=>show Calls Tryz.prog 14 #[.agg d.cells,.slice (some ⟨g,0,none⟩) n n,.int .i64 q] W (aE W (.agg (rPg d q zs).arr)) from by
   have:=vv S.ok zs (by rw[hzl];exact H) (by omega) (by rw[hzl];exact hn) hzo g n q q64 W hW
   rw[hzl] at this;exact this)
  have R17C:=hQQ (fun g W (hW:Ws W g n zs)=>show Calls Tryz.prog 15 #[.agg d.cells,.slice (some ⟨g,0,none⟩) n n] W (aE W (.agg (rTl d zs).arr)) from by
   have:=Bz S.ok zs (by rw[hzl];exact H) (by omega) (by rw[hzl];exact hn) hzo g n W hW
   rw[hzl] at this;exact this)
  have DOA:=hQQ (fun W g1 gq ga gb (a':Option Addr) (hY:TcY d g1 gq ga gb bt q W) hd (hz:gV W a' zs)=>show Calls Tryz.prog 10 #[.slice a' n n,.func (.func 11) #[] #[.pointer (some ⟨g1,0,none⟩),.pointer (some ⟨gq,0,none⟩),.pointer (some ⟨ga,0,none⟩),.pointer (some ⟨gb,0,none⟩)]] W (fun e w'=>∃v1 v2,e=.returned (.tuple #[v1,v2,.int .i64 0])∧TcX ga gb (qh d q zs,tlV d zs) w'∧Turned (fun b=>b=ga∨b=gb) W w') from by
   have:=JB S.ok zs (by rw[hzl];exact H.toPgIn) (by rw[hzl];exact hn) (by omega) hzo W g1 gq ga gb q q64 a' n hY hd hz
   rw[hzl] at this;exact this)
  clear m2 f0 f1 f2 f3 f4 f5 f6 f7 f8 f9 f10 hl ho hm LD S H hn wds INV FRI PW hzl hzo hkd q64 fq
  have R5:=hQQ SS.o.ok
  go_enter Tryz.func3,Tryz.ntmps3
  go_wp2_with (refine tH rfl rfl rfl HA.o (by kernel_rfl) ?_)
  clear e2
  refine LDA.o.mono ?_
  rintro e w3 ⟨gz,rfl,hgz,hxz,m3⟩
  have hQ3:=m3.block HQ.o
  obtain⟨w4,e4,hb4,m4,s4⟩:=df w3 (.cells #[.int .i64 0,.int .i64 0,.int .i64 0,.int .i64 0,.int .i64 0,.int .i64 0,.int .i64 0,.int .i64 0,.int .i64 0,.int .i64 0,.int .i64 0] 27)
  have B4:=hQQ hb4
  obtain⟨w5,e5⟩:∃w5,w4.setRow w3.heap.size d.cells=w5:=⟨_,rfl⟩
  have m5:ae w3 w5:=by rw[←e5];exact m4.setRow _ _ (Nat.le_refl _)
  have B5:Hq (w5.heap[w3.heap.size]?=some (.cells d.cells 27 (0,0))):=hQQ (by rw[←e5];exact setRow_heap _ _ _ _ _ _ hb4)
  have X5:=hQQ (hxz.more m5)
  have Q5:=hQQ (m5.block hQ3)
  have M5:=hQQ (HM.o.trans (m3.trans m5))
  have g3:w.heap.size+1<w3.heap.size:=ac hQ3
  have gz3:gz<w3.heap.size:=hxz.lt
  clear hb4 m4 s4 m5 hQ3 hxz m3 LDA HQ
  go_wp2_with (first
   |(refine wpList_store_row rfl 27 _ _ rfl w3.heap.size _ rfl rfl 27 _ B4.o (by kernel_rfl) rfl (iY d) ?_;rw[e5])
   |(refine wpList_load_row rfl 23 _ rfl w3.heap.size rfl 27 _ _ _ B5.o Tryz.underlying23 rfl (by kernel_rfl) ?_))
  refine(I8 R5.o _).mono ?_
  rintro e w6 ⟨rfl,m6⟩
  obtain⟨w7,e7,hb7,m7,s7⟩:=df w6 (.cells CW 33)
  have B7:=hQQ hb7
  obtain⟨w8,e8⟩:∃w8,w7.setRow w6.heap.size d.arr=w8:=⟨_,rfl⟩
  have m8:ae w6 w8:=by rw[←e8];exact m7.setRow _ _ (Nat.le_refl _)
  have hb8:w8.heap[w6.heap.size]?=some (.cells d.arr 33 (0,0)):=by rw[←e8];exact setRow_heap _ _ _ _ _ _ hb7
  obtain⟨w9,e9,hb9,m9,s9⟩:=df w8 (.cells #[.int .i64 0,.int .i64 0,.int .i64 0,.int .i64 0,.int .i64 0,.int .i64 0,.int .i64 0] 38)
  obtain⟨w10,e10,hb10,m10,s10⟩:=df w9 (.cells #[.int .i64 0,.int .i64 0,.int .i64 0,.int .i64 0,.int .i64 0,.int .i64 0,.int .i64 0] 38)
  have mm:=m6.trans (m8.trans (m9.trans m10))
  have M10:=hQQ (M5.o.trans mm)
  have L10:=hQQ (mm.block B5.o)
  have X10:=hQQ (X5.o.more mm)
  have Q10:=hQQ (mm.block Q5.o)
  have g6:=m6.size
  have g8:=ac hb8
  have g5:=ac B5.o
  rw[s9] at hb10
  have DO:=hQQ (DOA.o w10 w6.heap.size (w.heap.size+1) w8.heap.size (w8.heap.size+1) (some ⟨gz,0,none⟩) ⟨m10.block (m9.block hb8),Q10.o,⟨noT,m10.block hb9⟩,⟨noT,hb10⟩,HSZ.o.more M10.o⟩ ⟨⟨by omega,by omega⟩,⟨by omega,by omega⟩,by omega,⟨by omega,by omega⟩,by omega,by omega⟩ X10.o.words)
  have E10:=hQQ s9
  clear mm hb7 m7 s7 m8 hb8 hb9 m9 hb10 m10 s10 m6 B5 X5 Q5 M5 DOA
  go_wp2_with (refine wpList_store_row rfl 33 _ _ rfl w6.heap.size d.arr rfl rfl 33 _ B7.o (by kernel_rfl) rfl (yw d) ?_;rw[e8])
  refine DO.o.mono ?_
  rintro e w11 ⟨v1,v2,rfl,⟨hxa,hxb⟩,ht⟩
  have BA:=hQQ hxa
  have BB:=hQQ hxb
  have M11:Hq (ae w w11):=hQQ (Turned.mono (au (F:=fun _=>False) M10.o ht (fun k z=> .inr (by omega))) (fun _ _ z=>z))
  have L11:=hQQ ((ht.block _ (ac L10.o) (by omega)).trans L10.o)
  have Q11:=(aZ ((ht.block _ (ac Q10.o) (by omega)).trans Q10.o)).1
  have X11:=hQQ (X10.o.keep ht (by omega))
  clear hxa hxb ht DO e4 e5 e7 e8 e9 e10 s9 B4 B7 M10 L10 X10 Q10
  go_wp2_with fail
  refine aw (by kernel_rfl) (by kernel_rfl) ?_
  iterate 7
   with_reducible refine wpQuiet_step (fun K hK=>?_)
   go_simp
   first
   |(refine hK _ ?_;clear hK K)
   |(apply Exists.intro
     refine⟨fun W hW=>?_,hK _ ?_⟩
     first
     |(go_simp;try rfl)
     clear hK K)
  refine af rfl 38 _ rfl _ rfl 38 _ _ _ (fun W hW=>hW.block BA.o) Tryz.underlying38 rfl (by kernel_rfl) ?_
  refine af rfl 27 _ rfl _ rfl 27 _ _ _ (fun W hW=>hW.block L11.o) Tryz.underlying27 rfl (by kernel_rfl) ?_
  iterate 2
   with_reducible refine wpQuiet_step (fun K hK=>?_)
   go_simp
   first
   |(refine hK _ ?_;clear hK K)
   |(apply Exists.intro
     refine⟨fun W hW=>?_,hK _ ?_⟩
     first
     |(have c9:=hW.cell Q11;go_simp;try rfl)
     clear hK K)
  iterate 1
   with_reducible refine wpQuiet_step (fun K hK=>?_)
   go_simp
   first
   |(refine hK _ ?_;clear hK K)
   |(apply Exists.intro
     refine⟨fun W hW=>?_,hK _ ?_⟩
     first
     |(go_at_call 14;exact Calls.more hW (R17P.o _ W (X11.o.more hW)))
     clear hK K)
  refine ox _ _ (by with_reducible rfl) rfl (qh d q zs) (rPg d q zs) rfl rfl true E1.o ?_
  iterate 2
   with_reducible refine wpQuiet_step (fun K hK=>?_)
   go_simp
   first
   |(refine hK _ ?_;clear hK K)
   |(apply Exists.intro
     refine⟨fun W hW=>?_,hK _ ?_⟩
     first
     |(go_simp;try rfl)
     clear hK K)
  refine af rfl 38 _ rfl _ rfl 38 _ _ _ (fun W hW=>hW.block BB.o) Tryz.underlying38 rfl (by kernel_rfl) ?_
  refine af rfl 27 _ rfl _ rfl 27 _ _ _ (fun W hW=>hW.block L11.o) Tryz.underlying27 rfl (by kernel_rfl) ?_
  iterate 1
   with_reducible refine wpQuiet_step (fun K hK=>?_)
   go_simp
   first
   |(refine hK _ ?_;clear hK K)
   |(apply Exists.intro
     refine⟨fun W hW=>?_,hK _ ?_⟩
     first
     |(go_simp;try rfl)
     clear hK K)
  iterate 1
   with_reducible refine wpQuiet_step (fun K hK=>?_)
   go_simp
   first
   |(refine hK _ ?_;clear hK K)
   |(apply Exists.intro
     refine⟨fun W hW=>?_,hK _ ?_⟩
     first
     |(go_at_call 15;exact Calls.more hW (R17C.o _ W (X11.o.more hW)))
     clear hK K)
  refine ox _ _ (by with_reducible rfl) rfl (tlV d zs) (rTl d zs) rfl rfl true E2.o ?_
  iterate 2
   with_reducible refine wpQuiet_step (fun K hK=>?_)
   go_simp
   first
   |(refine hK _ ?_;clear hK K)
   |(apply Exists.intro
     refine⟨fun W hW=>?_,hK _ ?_⟩
     first
     |(go_simp;try rfl)
     clear hK K)
  iterate 1
   with_reducible refine wpQuiet_step (fun K hK=>?_)
   go_simp
   first
   |(refine hK _ ?_;clear hK K)
   |(apply Exists.intro
     refine⟨fun W hW=>?_,hK _ ?_⟩
     first
     |(go_at_call 7;exact Calls.more hW (qm bt W (HSZ.o.more (M11.o.trans hW))))
     clear hK K)
  iterate 2
   with_reducible refine wpQuiet_step (fun K hK=>?_)
   go_simp
   first
   |(refine hK _ ?_;clear hK K)
   |(apply Exists.intro
     refine⟨fun W hW=>?_,hK _ ?_⟩
     first
     |(go_simp;try rfl)
     clear hK K)
  refine wpQuiet_nil ?_
  intro w12 h12
  have M12:=hQQ (M11.o.trans h12)
  clear h12
  go_wp2_with fail
  go_ret
  exact⟨rfl,M12.o⟩
open Go.ChangeShapes Go.WideShapes Go.ChangeAt Go.Deep
section
variable {H:Type}{enc:TypeId×Value→H}{P:Program}{w:World}{base:Nat}{spare:Nat→Bool}{held:Bool}
theorem oH {r:Reach}{b0:Nat}{t T:TypeId}{fs:Array Field}{v:Value}{d:DataW H}{p:List MemPlace}(hs:P.underlying t=some (.struct fs))(hone:oneCellFields P fs=true)(hC:P.cellsOf t=fs.size)
 (hT:(fs.all fun f=>f.type==T)=true) (u:P.underlying T=some (.int .i64)) (hv:Value.okWide P w r b0 t v) (h:DataW.Trod enc P w base spare held t v d p):
 ∃xs:List Int,xs.length=fs.size∧v=.agg (xs.map (Value.int .i64)).toArray∧∀x∈xs,(Lit.int .i64 x).wf=true:=by
 obtain⟨cs,rfl,hsz⟩:=okWide_struct hs hv
 obtain⟨fuel,hf⟩:=h
 obtain⟨ys,n,_,_,_,hlen,hg⟩:=DataW.trod_struct hs hf
 have key:∀j,j<cs.toList.length→∃x:Int,cs.toList[j]?=some (.int .i64 x)∧(Lit.int .i64 x).wf=true:=by
  intro j hj
  have hj':j<fs.size:=by simp at hj;omega
  have hfj:fs[j]?=some fs[j]:=by simp[hj']
  obtain⟨ho,hk⟩:=hone_of hone j _ hfj
  have ht:fs[j].type=T:=by
   have:=Array.all_eq_true.1 hT j hj'
   simpa using this
  have h1:=hg j _ hfj
  rw[ho,hk] at h1
  have hys:ys[j]?=some (ys[j]'(by omega)):=List.getElem?_eq_getElem (by omega)
  rw[hys] at h1
  obtain⟨x,e,_,wx⟩:=DataW.trod_int (by rw[ht];exact u) h1
  refine⟨x,?_,wx⟩
  have e':(cs.toList.drop j).take 1= [.int .i64 x]:=by simpa [Value.cells] using e
  rw[List.drop_eq_getElem_cons hj] at e'
  simp at e'
  rw[List.getElem?_eq_getElem hj]
  simp[e']
 have hall:∀l:List Value,(∀j,j<l.length→∃x:Int,l[j]?=some (.int .i64 x)∧(Lit.int .i64 x).wf=true)→∃xs:List Int,xs.length=l.length∧l=xs.map (Value.int .i64)∧∀x∈xs,(Lit.int .i64 x).wf=true:=by
  intro l
  induction l with
  |nil=>intro _;exact⟨[],rfl,rfl,by simp⟩
  |cons a l ih =>
   intro hl
   obtain⟨x,hx,wx⟩:=hl 0 (by simp)
   obtain⟨xs,h1,h2,h3⟩:=ih (fun j hj=>by have:=hl (j+1) (by simp;omega);simpa using this)
   simp at hx
   exact⟨x::xs,by simp[h1],by simp[hx,←h2],by intro z hz;rcases List.mem_cons.1 hz with q|q; (rw[q];exact wx);exact h3 z q⟩
 obtain⟨xs,h1,h2,h3⟩:=hall cs.toList key
 refine⟨xs,by simp at h1;omega,?_,h3⟩
 rw[←h2]
end
theorem IH {l:List Int}(h:l.length=11):∃x0 x1 x2 x3 x4 x5 x6 x7 x8 x9 x10,l= [x0,x1,x2,x3,x4,x5,x6,x7,x8,x9,x10]:=by
 match l,h with
 | [x0,x1,x2,x3,x4,x5,x6,x7,x8,x9,x10],_=>exact⟨x0,x1,x2,x3,x4,x5,x6,x7,x8,x9,x10,rfl⟩
end Go.Proofs.YtfddhogffpkhcaaGreatDoor
