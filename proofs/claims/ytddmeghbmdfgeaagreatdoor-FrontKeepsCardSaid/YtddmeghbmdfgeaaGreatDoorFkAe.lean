/-
  What is counted, covered and ensured by pages, and by chunks, is the same.
-/
import Derived.Test.YtddmeghbmdfgeaaGreatDoorFkAd
import Derived.Test.YtddmeghbmdfgeaaGreatDoorFkAc
import Derived.ScopeJumps
import Derived.WalkMore
import Derived.Test.YtddmeghbmdfgeaaGreatDoorFkAa
import Derived.Deep.LoopGhost
set_option maxRecDepth 100000
set_option maxHeartbeats 8000000
set_option linter.all false
namespace Go.Proofs.YtddmeghbmdfgeaaGreatDoor
structure EX (ws ws':List Int)(S:Int→Prop):Prop where
 len:ws'.length=ws.length
 eq:∀i:Int,0≤i→(S i→wAt ws' i=1)∧(¬S i→wAt ws' i=wAt ws i)
theorem EY (ws:List Int)(S:Int→Prop)(h:∀i,¬S i):EX ws ws S:=⟨rfl,fun i _=>⟨fun q=>absurd q (h i),fun _=>rfl⟩⟩
theorem EZ {pg st:Int}{n:Nat}(H:TblIn pg st n){ws a:List Int}{S:Int→Prop}(h:EX ws a S)(hn:ws.length=n){k:Int}(hk:bR pg k=true):EX ws (lP pg st k 1 a).2 (fun i=>S i∨i=dT pg st k):=by
 obtain⟨t0,t1,t2⟩:=pl H hk
 have hv:∀i:Int,0≤i→wAt (lP pg st k 1 a).2 i=if i=dT pg st k then 1 else wAt a i:=fun i h0=>by
  unfold lP
  rw[if_pos hk]
  split
  ·rename_i q
   have:wAt a (dT pg st k)=1:=by
    unfold bK at q;rw[hk] at q;simpa using q
   split
   ·rename_i e;rw[e];exact this
   ·rfl
  ·rw[show(fC pg k,a.set (dT pg st k).toNat 1).2=a.set (dT pg st k).toNat 1 from rfl,dH (by omega) h0 (by rw[h.len,hn];exact t1)]
 refine⟨by rw[Hu];exact h.len,fun i h0=>⟨fun q=>?_,fun q=>?_⟩⟩
 ·rw[hv i h0]
  split
  ·rfl
  ·rename_i e;exact(h.eq i h0).1 (q.resolve_right e)
 ·rw[hv i h0,if_neg (fun e=>q (.inr e))]
  exact(h.eq i h0).2 (fun r=>q (.inl r))
theorem zk {pg st:Int}{n:Nat}(H:TblIn pg st n)(m:Nat):∀(k s:Int) (ws a:List Int) (S:Int→Prop),ws.length=n→EX ws a S→(∀i:Nat,i<m→bR pg (k+i)=true)→EX ws (rT pg st m k s a).2 (fun i=>S i∨∃j:Nat,j<m∧i=dT pg st (k+j)):=by
 induction m with
 |zero =>
  intro k s ws a S hn h hc
  exact⟨h.len,fun i h0=>⟨fun q=>by rcases q with q|⟨j,hj,_⟩;exact(h.eq i h0).1 q;omega,fun q=>(h.eq i h0).2 (fun r=>q (.inl r))⟩⟩
 |succ m ih =>
  intro k s ws a S hn h hc
  have h1:=EZ H h hn (by simpa using hc 0 (by omega))
  have h2:=ih (k+1) (s+(lP pg st k 1 a).1) ws _ _ hn h1 (fun i hi=>by have:=hc (i+1) (by omega);rwa [show k+((i+1:Nat):Int)=k+1+(i:Int) by omega] at this)
  refine⟨h2.len,fun i h0=>?_⟩
  have e:(S i∨∃j:Nat,j<m+1∧i=dT pg st (k+j))↔((S i∨i=dT pg st k)∨∃j:Nat,j<m∧i=dT pg st (k+1+j)):=by
   constructor
   ·rintro(q|⟨j,hj,q⟩)
    ·exact .inl (.inl q)
    ·cases j with
     |zero=>exact .inl (.inr (by simpa using q))
     |succ j=>exact .inr ⟨j,by omega,by rw[q];congr 1;omega⟩
   ·rintro((q|q)|⟨j,hj,q⟩)
    ·exact .inl q
    ·exact .inr ⟨0,by omega,by simpa using q⟩
    ·exact .inr ⟨j+1,by omega,by rw[q];congr 1;omega⟩
  exact⟨fun q=>(h2.eq i h0).1 (e.1 q),fun q=>(h2.eq i h0).2 (fun r=>q (e.2 r))⟩
open Go.RowKit Go.Sort Go.Maps Go.Shelf
theorem OV (w:World)(x1 x2 y1 y2:Array Value)(t1 t2:TypeId):∃W,(((w.alloc (.cells x1 t1)).alloc (.cells x2 t2)).setRow w.heap.size y1).setRow (w.heap.size+1) y2=W ∧
 ((w.alloc (.cells x1 t1)).alloc (.cells x2 t2)).heap[w.heap.size]?=some (.cells x1 t1 (0,0))∧(((w.alloc (.cells x1 t1)).alloc (.cells x2 t2)).setRow w.heap.size y1).heap[w.heap.size+1]?=some (.cells x2 t2 (0,0)) ∧
 W.heap[w.heap.size]?=some (.cells y1 t1 (0,0))∧ae w W∧w.heap.size+2≤W.heap.size:=by
 have h0:=aW w x1 t1
 have s0:(w.alloc (.cells x1 t1)).heap.size=w.heap.size+1:=by simp
 have m0:ae w (w.alloc (.cells x1 t1)):=(ae.refl _).alloc _
 generalize w.alloc (.cells x1 t1)=w1 at h0 s0 m0⊢
 have h1:=aW w1 x2 t2
 rw[s0] at h1
 have s1:(w1.alloc (.cells x2 t2)).heap.size=w.heap.size+2:=by simp[s0]
 have m1:ae w1 (w1.alloc (.cells x2 t2)):=(ae.refl _).alloc _
 generalize w1.alloc (.cells x2 t2)=w2 at h1 s1 m1⊢
 have a0:=m1.block h0
 refine⟨_,rfl,a0,(setRow_other _ _ _ _ (by omega)).trans h1,(setRow_other _ _ _ _ (by omega)).trans (setRow_heap _ _ _ _ _ _ a0),((m0.trans m1).setRow _ _ (by omega)).setRow _ _ (by omega),?_⟩
 simp[s1]
theorem E0 (w:World)(g k:Nat)(h:w.heap[g]?=some (.cells (o6 (cJ k)) 3 (0,0))):kN w (some ⟨g,0,none⟩) (cJ k):=
 .inr ⟨g,0,rfl,ac h,fun i hi=>by
  rw[Nat.zero_add,cell_of_row w g i _ _ _ h]
  rw[j9] at hi
  simp[o6,cJ,hi]⟩
theorem sX (k:Nat)(hk:k≤1000000)(w:World):
 (Instr.makeSlice 29 (.int .i64 (k:Int)) (.int .i64 (k:Int))).run Tryz.prog w=.ok (.slice (some ⟨w.heap.size,0,none⟩) k k) (w.alloc (.cells (o6 (cJ k)) 3)):=by
 obtain⟨i,hi,hz,hs,hb⟩:=jf
 have:=run_make (P:=Tryz.prog) w 29 3 i (.int .i64 0) Tryz.underlying29 hi hz .i64 .i64 k k (by omega) (by omega) (by rw[hb];omega) (by omega)
 rw[this]
 simp only[Int.toNat_natCast,hs,Nat.mul_one]
 have e:madeCells (Value.int .i64 0).cells k=o6 (cJ k):=by
  apply Array.ext
  ·simp[size_madeCells,o6,cJ]
  ·intro j h1 h2
   simp[madeCells,o6,cJ,Value.cells,Nat.mod_one]
 rw[e]
def TrC (c:Cfg)(g1:Nat)(W:World):Prop:=W.heap[g1]?=some (.cells c.arr 28 (0,0))
structure TrY (c:Cfg)(g1 g2:Nat)(w:World):Prop where
 h1:w.heap[g1]?=some (.cells c.arr 28 (0,0))
 h2:∃b,j7 g2 w b
def af (pg p:Int):Bool:=decide (0≤p) && decide (p<pg)
theorem ax {pg p:Int} :af pg p=true↔0≤p∧p<pg:=by simp[af]
theorem sY {pg p:Int} :af pg p=false↔¬(0≤p∧p<pg):=by
 cases h:af pg p with
 |true=>simp[ax.1 h]
 |false=>simp only[true_iff];intro q;rw[ax.2 q] at h;cases h
def kA (pg st p:Int):Int:=aZ st+aL pg+p
def cA (pg st p:Int):Int:=aZ st+aL pg+pg+p
def bA (pg st p:Int):Int:=aZ st+aL pg+2 * pg+p
theorem Mk {pg st p:Int}(h:af pg p=true):dC pg st 0 p=kA pg st p:=by unfold dC kA;rw[if_pos (ax.1 h)];omega
theorem ta {pg st p:Int}(h:af pg p=true):dC pg st 1 p=cA pg st p:=by unfold dC cA;rw[if_pos (ax.1 h)];omega
theorem DA {pg st p:Int}(h:af pg p=true):dC pg st 2 p=bA pg st p:=by unfold dC bA;rw[if_pos (ax.1 h)]
theorem Ml {pg st i p:Int}(h:af pg p=false):dC pg st i p=0:=by unfold dC;rw[if_neg (sY.1 h)]
def fh (pg st p:Int):Prg Int:=if af pg p then cS (kA pg st p) else ay (-1)
def lD (pg st p k x:Int):Prg Unit:=ak (cM (kA pg st p) k) fun _=>ak (cM (cA pg st p) x) fun _=>cM (bA pg st p) 0
def pp (pg st:Int):Nat→Int→Prg Bool
 | 0,_=>ay true
 |m+1,q=>ak (fh pg st q) (fun k=>if k=0 then pp pg st m (q+1) else ay false)
def pq (pg st p n:Int):Prg Bool:=if ce pg p n then pp pg st n.toNat p else ay false
def iK (pg st k:Int):Nat→Int→Prg Unit
 | 0,_=>ay ()
 |m+1,q=>ak (lD pg st q k 0) fun _=>iK pg st k m (q+1)
def ou (k:Int):Bool:=decide (1≤k) && decide (k≤5)
theorem Kq {k:Int} :ou k=true↔1≤k∧k≤5:=by simp[ou]
def ow (k n:Int):Bool:=decide (k=6) ||(ou k && decide (n=1))
theorem Kr {k n:Int} :ow k n=true↔k=6∨(1≤k∧k≤5∧n=1):=by simp[ow,ou,and_assoc]
def jm (pg st p n k:Int):Prg Bool:=if ow k n then ak (pq pg st p n) (fun b=>if b then ak (gw pg st p n) (fun _=>ak (lD pg st p k (if k=6 then n else 0)) (fun _=>ak (iK pg st 7 (n-1).toNat (p+1)) (fun _=>ay true))) else ay false) else ay false
def nT (pg st p:Int):Prg Int:=ak (fh pg st p) (fun k=>if ou k then ay 1 else if k=6 then ak (cS (cA pg st p)) (fun x=>ay (max 1 (min x (pg-p)))) else ay 0)
def lS (pg st p:Int):Prg Int:=ak (nT pg st p) (fun n=>ak (iK pg st 0 n.toNat p) (fun _=>ay n))
def lT (pg st q:Int):Prg Bool:=ak (fh pg st q) (fun k=>ay (decide (k=0)))
def lU (pg st q:Int):Prg Bool:=ak (dP pg st (ofV q)) (fun b=>if b then lT pg st q else ay false)
def jY (f:Int→Prg Bool):Nat→Int→Prg (Option Int)
 | 0,_=>ay none
 |m+1,q=>ak (f q) (fun b=>if b then jY f m (q+1) else ay (some q))
def jn (f:Int→Prg Bool)(pg n step:Int):Nat→Int→Prg Int
 | 0,_=>ay (-1)
 |m+1,p=>if p≤pg-n then ak (jY f n.toNat p) (fun r=>match r with|none=>ay p|some q=>jn f pg n step m ((q / step+1) * step)) else ay (-1)
def mY (f:Int→Prg Bool)(pg n step:Int):Prg Int:=jn f pg n step (pg.toNat+1) 0
def kR (pg st n step:Int):Prg Int:=if 1≤n∧1≤step then ak (mY (lU pg st) pg n step) (fun p=>if p= -1 then mY (lT pg st) pg n step else ay p) else ay (-1)
theorem kS (pg st p:Int):bh (fh pg st p):=aH (dx _) (ah _)
theorem vK (pg st p k x:Int):bh (lD pg st p k x):=aq (cT _ _) (fun _=>aq (cT _ _) (fun _=>cT _ _))
theorem BD (pg st:Int)(m:Nat):∀q,bh (pp pg st m q):=by
 induction m with
 |zero=>intro q;exact ah _
 |succ m ih=>intro q;exact aq (kS _ _ _) (fun _=>aH (ih _) (ah _))
theorem E3 (pg st p n:Int):bh (pq pg st p n):=aH (BD _ _ _ _) (ah _)
theorem td (pg st k:Int)(m:Nat):∀q,bh (iK pg st k m q):=by
 induction m with
 |zero=>intro q;exact ah _
 |succ m ih=>intro q;exact aq (vK _ _ _ _ _) (fun _=>ih _)
theorem BE (pg st p n k:Int):bh (jm pg st p n k):=
 aH (aq (E3 _ _ _ _) (fun _=>aH (aq (xr _ _ _ _) (fun _=>aq (vK _ _ _ _ _) (fun _=>aq (td _ _ _ _ _) (fun _=>ah _)))) (ah _))) (ah _)
theorem E8 (pg st p:Int):bh (nT pg st p):=aq (kS _ _ _) (fun _=>aH (ah _) (aH (aq (dx _) (fun _=>ah _)) (ah _)))
theorem BF (pg st p:Int):bh (lS pg st p):=aq (E8 _ _ _) (fun _=>aq (td _ _ _ _ _) (fun _=>ah _))
theorem te (pg st q:Int):bh (lT pg st q):=aq (kS _ _ _) (fun _=>ah _)
theorem BH (pg st q:Int):bh (lU pg st q):=aq (po _ _ _) (fun _=>aH (te _ _ _) (ah _))
theorem zm {f:Int→Prg Bool}(hf:∀q,bh (f q))(m:Nat):∀q,bh (jY f m q):=by
 induction m with
 |zero=>intro q;exact ah _
 |succ m ih=>intro q;exact aq (hf q) (fun _=>aH (ih _) (ah _))
theorem rd {f:Int→Prg Bool}(hf:∀q,bh (f q))(pg n step:Int)(m:Nat):∀p,bh (jn f pg n step m p):=by
 induction m with
 |zero=>intro q;exact ah _
 |succ m ih =>
  intro q
  refine aH (aq (zm hf _ _) (fun r=>?_)) (ah _)
  cases r with
  |none=>exact ah _
  |some q=>exact ih _
theorem BI (pg st n step:Int):bh (kR pg st n step):=aH (aq (rd (BH pg st) _ _ _ _ _) (fun _=>aH (rd (te pg st) _ _ _ _ _) (ah _))) (ah _)
structure PgIn (pg st:Int)(n:Nat):Prop extends TblIn pg st n where
 top5:aZ st+aL pg+5 * pg≤n
theorem aO {α:Type}{n:Nat}{Q:α→Prop}{c:Prop} [Decidable c] {p q:Prg α}(h1:c→bQ n Q p)(h2:¬c→bQ n Q q):bQ n Q (if c then p else q):=by
 split
 ·rename_i h;exact h1 h
 ·rename_i h;exact h2 h
section
variable {pg st:Int}{n:Nat}(H:PgIn pg st n)
include H
theorem cj {p:Int}(h:af pg p=true):(4≤kA pg st p∧kA pg st p<n∧W64 (kA pg st p))∧(4≤cA pg st p∧cA pg st p<n∧W64 (cA pg st p))∧(4≤bA pg st p∧bA pg st p<n∧W64 (bA pg st p)):=by
 have h0:=ax.1 h
 have h1:=H.st1;have h2:=H.st2;have h3:=H.top5;have h4:=H.pg1;have h5:=H.pg2
 unfold kA cA bA W64
 unfold aL aZ at *
 omega
theorem gp (p:Int):bQ n W64 (fh pg st p):=
 aO (fun h=>bb n (cj H h).1.2.1) (fun _=>ai n (by unfold W64;omega))
theorem pt {p:Int}(h:af pg p=true){k x:Int}(hk:W64 k)(hx:W64 x):bQ n (fun _=>True) (lD pg st p k x):=by
 obtain⟨⟨_,a1,a2⟩,⟨_,b1,b2⟩,_,c1,c2⟩:=cj H h
 exact ar (aQ n a2 a1 hk) (fun _ _=>ar (aQ n b2 b1 hx) (fun _ _=>aQ n c2 c1 (by unfold W64;omega)))
theorem vL (m:Nat):∀q,bQ n (fun _=>True) (pp pg st m q):=by
 induction m with
 |zero=>intro q;exact ai n trivial
 |succ m ih=>intro q;exact ar (gp H q) (fun k _=>aO (fun _=>ih _) (fun _=>ai n trivial))
theorem qA {k:Int}(hk:W64 k)(m:Nat):∀q,(∀i:Nat,i<m→af pg (q+i)=true)→bQ n (fun _=>True) (iK pg st k m q):=by
 induction m with
 |zero=>intro q _;exact ai n trivial
 |succ m ih =>
  intro q h
  exact ar (pt H (by simpa using h 0 (by omega)) hk (by unfold W64;omega)) (fun _ _=>ih _ (fun i hi=>by have:=h (i+1) (by omega);rwa [show q+((i+1:Nat):Int)=q+1+(i:Int) by omega] at this))
theorem pw (x y:Int):bQ n (fun _=>True) (gw pg st x y):=zi H.toTblIn x y
theorem vM (p m k:Int)(hk:W64 k)(hm:W64 m):bQ n (fun _=>True) (jm pg st p m k):=by
 unfold jm pq
 refine aO (fun hf=>?_) (fun _=>ai n trivial)
 cases h:ce pg p m with
 |false=>exact ar (ai n (Q:=fun b:Bool=>b=false) rfl) (fun b hb=>by subst hb;exact ai n trivial)
 |true =>
  obtain⟨q0,q1,q2⟩:=dW.1 h
  have hx:W64 (if k=6 then m else 0):=by
   split
   ·exact hm
   ·unfold W64;omega
  exact ar (vL H _ _) (fun b _=>aO (fun _=>ar (pw H _ _) (fun _ _=>ar (pt H (ax.2 ⟨by omega,by omega⟩) hk hx) (fun _ _=>ar (qA H (by unfold W64;omega) _ _ (fun i hi=>ax.2 ⟨by omega,by omega⟩)) (fun _ _=>ai n trivial)))) (fun _=>ai n trivial))
theorem tf (p:Int):bQ n (fun x:Int=>x=0∨af pg p=true∧1≤x∧x≤pg-p) (nT pg st p):=by
 unfold nT fh
 cases h:af pg p with
 |false=>exact ar (ai n (Q:=fun k:Int=>k= -1) rfl) (fun k hk=>by subst hk;exact ai n (.inl rfl))
 |true =>
  have:=ax.1 h
  exact ar (bb n (cj H h).1.2.1) (fun k _=>aO (fun _=>ai n (.inr ⟨rfl,by omega,by omega⟩)) (fun _=>aO (fun _=>ar (bb n (cj H h).2.1.2.1) (fun x _=>ai n (.inr ⟨rfl,by omega,by omega⟩))) (fun _=>ai n (.inl rfl))))
theorem qB (p:Int):bQ n (fun x:Int=>0≤x∧x≤256) (lS pg st p):=by
 have h5:=H.pg2
 exact ar (tf H p) (fun x hx=>by
  have hb:∀i:Nat,i<x.toNat→af pg (p+i)=true:=fun i hi=>by
   rcases hx with rfl|⟨h,h1,h2⟩
   ·simp at hi
   ·have:=ax.1 h;exact ax.2 ⟨by omega,by omega⟩
  exact ar (qA H (by unfold W64;omega) _ _ hb) (fun _ _=>ai n (by
   rcases hx with rfl|⟨h,h1,h2⟩
   ·omega
   ·have:=ax.1 h;omega)))
theorem kg (q:Int):bQ n (fun _=>True) (lT pg st q):=ar (gp H q) (fun _ _=>ai n trivial)
theorem qC (q:Int):bQ n (fun _=>True) (lU pg st q):=ar (jJ H.toTblIn _) (fun b _=>aO (fun _=>kg H q) (fun _=>ai n trivial))
theorem BJ {f:Int→Prg Bool}(hf:∀q,bQ n (fun _=>True) (f q))(m:Nat):∀q:Int,bQ n (fun r:Option Int=>∀x,r=some x→q≤x∧x<q+m) (jY f m q):=by
 induction m with
 |zero=>intro q;exact ai n (fun x h=>by cases h)
 |succ m ih=>intro q;exact ar (hf q) (fun b _=>aO (fun _=>de (ih _) (fun r hr x hx=>by have:=hr x hx;omega)) (fun _=>ai n (fun x hx=>by cases hx;omega)))
theorem ox {f:Int→Prg Bool}(hf:∀q,bQ n (fun _=>True) (f q))(m step:Int)(hm:1≤m)(hs:1≤step)(j:Nat):∀p:Int,0≤p→bQ n (fun x:Int=> -1≤x∧x<pg) (jn f pg m step j p):=by
 have h4:=H.pg1
 induction j with
 |zero=>intro p _;exact ai n (by omega)
 |succ j ih =>
  intro p hp
  refine aO (fun h=>ar (BJ H hf _ _) (fun r hr=>?_)) (fun _=>ai n (by omega))
  cases r with
  |none=>exact ai n (by omega)
  |some q =>
   have:=hr q rfl
   refine ih _ (Int.mul_nonneg ?_ (by omega))
   have:=Int.ediv_nonneg (a:=q) (b:=step) (by omega) (by omega)
   omega
theorem vN (m step:Int):bQ n (fun x:Int=> -1≤x∧x<pg) (kR pg st m step):=by
 have h4:=H.pg1
 exact aO (fun h=>ar (ox H (qC H) m step h.1 h.2 _ 0 (by omega)) (fun p hp=>aO (fun _=>ox H (kg H) m step h.1 h.2 _ 0 (by omega)) (fun _=>ai n hp))) (fun _=>ai n (by omega))
end
theorem bE {α:Type}{n:Nat}{c:Prop} [Decidable c] {p q:Prg α}{g h:List Int→α×List Int}(hp:c→bJ n p g)(hq:¬c→bJ n q h):bJ n (if c then p else q) (fun ws=>if c then g ws else h ws):=by
 by_cases e:c
 ·simp only[if_pos e];exact hp e
 ·simp only[if_neg e];exact hq e
theorem gc {α β:Type}{n:Nat}{p:Prg α}{f:α→Prg β}{g:List Int→α×List Int}{k:α→List Int→β×List Int}{Q:α→Prop}(h:bJ n p g)(hq:∀ws,ws.length=n→Q (g ws).1)(hf:∀x,Q x→bJ n (f x) (k x)):bJ n (ak p f) (fun ws=>k (g ws).1 (g ws).2):=fun zs D hn hz hD=>by
 obtain⟨D1,e1,a1,i1⟩:=h zs D hn hz hD
 obtain⟨D2,e2,a2,i2⟩:=hf (g (bZ zs D)).1 (hq _ (by rw[dX];exact hn)) zs D1 hn hz i1
 refine⟨D2,?_,?_,i2⟩
 ·rw[aj e1,e2,a1]
 ·rw[a2,a1]
def nA (pg st p:Int):Int:=aZ st+aL pg+3 * pg+p
def vA (pg st p:Int):Int:=aZ st+aL pg+4 * pg+p
theorem DB {pg st p:Int}(h:af pg p=true):dC pg st 3 p=nA pg st p:=by unfold dC nA;rw[if_pos (ax.1 h)]
theorem H8 {pg st p:Int}(h:af pg p=true):dC pg st 4 p=vA pg st p:=by unfold dC vA;rw[if_pos (ax.1 h)]
def gW (pg x:Int):Int:=if af pg (IntKind.i64.wrap (x-1)) then IntKind.i64.wrap (x-1) else -1
def eh (pg a:Int):Prg Int:=if a=0 then ay (-1) else ak (cS a) (fun x=>ay (gW pg x))
def kT (pg st p:Int):Nat→Int→List Int→Prg (List Int×Bool)
 | 0,_,l=>ay (l,false)
 |m+1,a,l=>ak (eh pg a) (fun q=>if q=p then ay (l,true) else if q= -1 then ay (l,false) else kT pg st p m (nA pg st q) (l++ [q]))
def kU (pg st p c f:Int):Prg (List Int×Bool):=kT pg st p pg.toNat (aF pg st c f) []
def eU (pg st h p q:Int):Prg Unit:=ak (if p= -1 then cM h (q+1) else cM (nA pg st p) (q+1)) (fun _=>if q= -1 then ay () else cM (vA pg st q) (p+1))
def iR (pg st p c f:Int):Prg Bool:=if aF pg st c f=0 then ay false else if af pg p then ak (eh pg (aF pg st c f)) (fun q=>ak (eU pg st (aF pg st c f) p q) fun _=>ak (eU pg st (aF pg st c f) (-1) p) fun _=>ay true) else ay false
def cy (l:List Int):Int:=l.getD (l.length-1) (-1)
def fH (pg st p c f:Int):Prg Bool:=if af pg p then ak (kU pg st p c f) (fun r=>if r.2 then ak (eh pg (nA pg st p)) (fun q=>ak (eU pg st (aF pg st c f) (cy r.1) q) fun _=>ak (cM (nA pg st p) 0) fun _=>ak (cM (vA pg st p) 0) fun _=>ay true) else ay false) else ay false
def eZ (pg st c:Int):Nat→Int→Prg Int
 | 0,_=>ay (-1)
 |m+1,f=>ak (eh pg (aF pg st c f)) (fun q=>if q= -1 then eZ pg st c m (f+1) else ay q)
theorem iT (pg a:Int):bh (eh pg a):=aH (ah _) (aq (dx _) (fun _=>ah _))
theorem xA (pg st p:Int)(m:Nat):∀a l,bh (kT pg st p m a l):=by
 induction m with
 |zero=>intro a l;exact ah _
 |succ m ih=>intro a l;exact aq (iT _ _) (fun _=>aH (ah _) (aH (ah _) (ih _ _)))
theorem zn (pg st p c f:Int):bh (kU pg st p c f):=xA _ _ _ _ _ _
theorem kV (pg st h p q:Int):bh (eU pg st h p q):=aq (aH (cT _ _) (cT _ _)) (fun _=>aH (ah _) (cT _ _))
theorem xB (pg st p c f:Int):bh (iR pg st p c f):=aH (ah _) (aH (aq (iT _ _) (fun _=>aq (kV _ _ _ _ _) (fun _=>aq (kV _ _ _ _ _) (fun _=>ah _)))) (ah _))
theorem th (pg st p c f:Int):bh (fH pg st p c f):=aH (aq (zn _ _ _ _ _) (fun _=>aH (aq (iT _ _) (fun _=>aq (kV _ _ _ _ _) (fun _=>aq (cT _ _) (fun _=>aq (cT _ _) (fun _=>ah _))))) (ah _))) (ah _)
theorem lV (pg st c:Int)(m:Nat):∀f,bh (eZ pg st c m f):=by
 induction m with
 |zero=>intro f;exact ah _
 |succ m ih=>intro f;exact aq (iT _ _) (fun _=>aH (ih _) (ah _))
structure cB (pg st:Int)(n:Nat):Prop extends PgIn pg st n where
 top62:aZ st+aL pg+5 * pg+62≤n
theorem bD {pg st c f:Int}{n:Nat}(H:cB pg st n):0≤aF pg st c f∧aF pg st c f<n∧W64 (aF pg st c f):=by
 have h1:=H.st1;have h2:=H.st2;have h3:=H.top62;have h4:=H.pg1;have h5:=H.pg2
 have hc:0≤aL pg∧aL pg≤64:=by unfold aL;omega
 have ht:0≤aZ st:=by unfold aZ;omega
 unfold aF
 split
 ·rename_i h
  obtain⟨c0,c4,f1,fs⟩:=h
  have:c=0∨c=1∨c=2∨c=3∨c=4:=by omega
  unfold bd W64 aZ at *
  rcases this with rfl|rfl|rfl|rfl|rfl<;>simp[fV,fy] at fs⊢ <;>omega
 ·unfold W64;omega
section
variable {pg st:Int}{n:Nat}(H:cB pg st n)
include H
theorem eC {p:Int}(h:af pg p=true):(4≤nA pg st p∧nA pg st p<n∧W64 (nA pg st p))∧(4≤vA pg st p∧vA pg st p<n∧W64 (vA pg st p)):=by
 have h0:=ax.1 h
 have h1:=H.st1;have h2:=H.st2;have h3:=H.top62;have h4:=H.pg1;have h5:=H.pg2
 unfold nA vA W64
 unfold aL aZ at *
 omega
theorem zo (x:Int):gW pg x= -1∨af pg (gW pg x)=true:=by
 unfold gW
 split
 ·rename_i h;exact .inr h
 ·exact .inl rfl
theorem dl {a:Int}(ha:a<n):bQ n (fun q:Int=>q= -1∨af pg q=true) (eh pg a):=
 aO (fun _=>ai n (.inl rfl)) (fun _=>ar (bb n ha) (fun x _=>ai n (zo H x)))
theorem zp {p:Int}(m:Nat):∀(a:Int) (l:List Int),a<n→(∀x∈l,af pg x=true)→bQ n (fun r:List Int×Bool=>(∀x∈r.1,af pg x=true)∧r.1.length≤l.length+m) (kT pg st p m a l):=by
 induction m with
 |zero=>intro a l _ hl;exact ai n ⟨hl,by simp⟩
 |succ m ih =>
  intro a l ha hl
  exact ar (dl H ha) (fun q hq=>aO (fun _=>ai n ⟨hl,by simp⟩) (fun _=>aO (fun _=>ai n ⟨hl,by simp⟩) (fun hne=>by
   have hp:af pg q=true:=hq.resolve_left hne
   exact de (ih _ _ (eC H hp).1.2.1 (fun x hx=>by
    rcases List.mem_append.1 hx with h|h
    ·exact hl x h
    ·rw[List.mem_singleton.1 h];exact hp)) (fun r hr=>⟨hr.1,by have:=hr.2;simp at this;omega⟩))))
theorem oy (p c f:Int):bQ n (fun r:List Int×Bool=>(∀x∈r.1,af pg x=true)∧r.1.length≤256) (kU pg st p c f):=de (zp H _ _ _ (bD H).2.1 (fun x hx=>by cases hx)) (fun r hr=>⟨hr.1,by have h1:=hr.2;have h2:=H.pg2;simp only[List.length_nil] at h1;omega⟩)
theorem nU {q:Int}(hq:q= -1∨af pg q=true):W64 (q+1):=by
 have h5:=H.pg2
 rcases hq with rfl|h
 ·unfold W64;omega
 ·have:=ax.1 h;unfold W64;omega
theorem dR {h p q:Int}(h1:W64 h)(h2:h<n)(hp:p= -1∨af pg p=true)(hq:q= -1∨af pg q=true):bQ n (fun _=>True) (eU pg st h p q):=
 ar (Q:=fun _=>True) (aO (fun _=>aQ n h1 h2 (nU H hq)) (fun hne=>aQ n (eC H (hp.resolve_left hne)).1.2.2 (eC H (hp.resolve_left hne)).1.2.1 (nU H hq)))
  (fun _ _=>aO (fun _=>ai n trivial) (fun hne=>aQ n (eC H (hq.resolve_left hne)).2.2.2 (eC H (hq.resolve_left hne)).2.2.1 (nU H hp)))
theorem lW (p c f:Int):bQ n (fun _=>True) (iR pg st p c f):=
 aO (fun _=>ai n trivial) (fun _=>aO (fun hp=>ar (dl H (bD H).2.1) (fun q hq=>ar (dR H (bD H).2.2 (bD H).2.1 (.inr hp) hq) (fun _ _=>ar (dR H (bD H).2.2 (bD H).2.1 (.inl rfl) (.inr hp)) (fun _ _=>ai n trivial)))) (fun _=>ai n trivial))
theorem kW {l:List Int}(hl:∀x∈l,af pg x=true):cy l= -1∨af pg (cy l)=true:=by
 unfold cy
 rcases Nat.eq_zero_or_pos l.length with h|h
 ·refine .inl ?_
  rw[List.length_eq_zero_iff.1 h];rfl
 ·refine .inr (hl _ ?_)
  rw[List.getD_eq_getElem?_getD,List.getElem?_eq_getElem (by omega)]
  exact List.getElem_mem _
theorem jZ (p c f:Int):bQ n (fun _=>True) (fH pg st p c f):=
 aO (fun hp=>ar (oy H _ _ _) (fun r hr=>aO (fun _=>ar (dl H (eC H hp).1.2.1) (fun q hq=>ar (dR H (bD H).2.2 (bD H).2.1 (kW H hr.1) hq) (fun _ _=>ar (aQ n (eC H hp).1.2.2 (eC H hp).1.2.1 (by unfold W64;omega)) (fun _ _=>ar (aQ n (eC H hp).2.2.2 (eC H hp).2.2.1 (by unfold W64;omega)) (fun _ _=>ai n trivial))))) (fun _=>ai n trivial))) (fun _=>ai n trivial)
theorem ik (c:Int)(m:Nat):∀f,bQ n (fun q:Int=>q= -1∨af pg q=true) (eZ pg st c m f):=by
 induction m with
 |zero=>intro f;exact ai n (.inl rfl)
 |succ m ih=>intro f;exact ar (dl H (bD H).2.1) (fun q hq=>aO (fun _=>ih _) (fun _=>ai n hq))
end
theorem lX {c:Cfg}(R:c.Ok)(w:World)(k:Int):Calls Tryz.prog 136 #[.agg c.arr,.int .i64 k] w (aP w (.int .i64 (dC c.pg c.st 3 k))):=Oz R w k
theorem qD {c:Cfg}(R:c.Ok)(w:World)(k:Int):Calls Tryz.prog 147 #[.agg c.arr,.int .i64 k] w (aP w (.int .i64 (dC c.pg c.st 4 k))):=OA R w k
theorem kX {c:Cfg}(R:c.Ok)(w:World)(k f:Int):Calls Tryz.prog 93 #[.agg c.arr,.int .i64 k,.int .i64 f] w (aP w (.int .i64 (aF c.pg c.st k f))):=OC R w k f
theorem iq {c:Cfg}(R:c.Ok){n:Nat}(H:cB c.pg c.st n)(q:Int)(w:World):Calls Tryz.prog 117 #[.agg c.arr,.int .i64 q] w (aP w (.bool (af c.pg q))):=by
 have hz:(dC c.pg c.st 3 q != 0)=af c.pg q:=by
  cases h:af c.pg q with
  |true=>rw[DB h];have:=(eC H h).1.1;simp;omega
  |false=>rw[Ml h];rfl
 obtain⟨w1,e1,hl1,m1,s1⟩:=a6 w (.cells c.arr 28)
 have L0:=hQQ hl1
 have MM:=hQQ m1
 have HR:=hQQ R
 clear hl1 m1 R H
 go_enter Tryz.func117,Tryz.ntmps117
 go_wp2_with (first|(refine aK rfl rfl rfl L0.o (by kernel_rfl) ?_)|(refine aK rfl rfl rfl L0.o (by kernel_rfl) ?_))
 refine(lX HR.o _ q).mono ?_
 rintro e w2 ⟨rfl,h2⟩
 have H2:=hQQ (MM.o.trans h2)
 clear h2
 go_wp2_with fail
 go_ret
 first
 |exact⟨rfl,H2.o⟩
 |exact⟨by rw[←hz],H2.o⟩
theorem lY {c:Cfg}(R:c.Ok){n:Nat}(H:cB c.pg c.st n)(F:Nat→Prop)(p:Nat)(kn:Int→Option Int)(D:List KV)(a:Int)(ha:W64 a)(hn:a<n)(w:World)(hv:aD w F p kn D)(hk:OkK kn)(hD:cC n D):
 Calls Tryz.prog 92 #[.pointer (some ⟨p,0,none⟩),.agg c.arr,.int .i64 a] w (aG w F p kn (fun x=> .int .i64 x) (eh c.pg a kn D)):=by
 obtain⟨Rr,hRr⟩:∃Rr,eh c.pg a kn D=Rr:=⟨_,rfl⟩
 rw[hRr]
 obtain⟨w1,e1,hl1,m1,s1⟩:=a6 w (.cells c.arr 28)
 have nFl:¬F w.heap.size:=fun q=>by have:=hv.lt _ q;omega
 have MM:=hQQ m1
 have L0:=hQQ hl1
 have M0:=m0Z (hv.more m1) hD
 have KL:=klZ (p:=p) (kn:=kn) (n:=n) L0.o nFl
 have NEED:=ndZ (F:=F) (p:=p) (kn:=kn) (R:=Rr) (fun x:Int=>Value.int .i64 x) MM.o
 have DONE:=dnZ (F:=F) (p:=p) (n:=n) (kn:=kn) (R:=Rr) (fun x:Int=>Value.int .i64 x) MM.o
 have HK:=hQQ hk
 have HR:=hQQ R
 have HH:=hQQ H
 clear hl1 m1 hv hD hk R H nFl
 unfold eh at hRr
 by_cases a0:a=0
 ·rw[if_pos a0] at hRr
  have d0:(a==0)=true:=by simp[a0]
  have FIN:=hQQ (DONE.o (-1) w1 D F hRr.symm M0.o)
  clear hRr a0
  go_enter Tryz.func92,Tryz.ntmps92
  go_wp2_with fail
  go_ret
  exact FIN.o
 ·rw[if_neg a0] at hRr
  have d0:(a==0)=false:=by simp[a0]
  have HRr:=hQQ hRr
  clear hRr a0
  go_enter Tryz.func92,Tryz.ntmps92
  go_wp2_with fail
  refine(jj F p kn D a w1 M0.o.view ha).mono ?_
  intro e w2 he
  rcases M0.o.step (ae.refl _) HK.o (bb n hn) he with⟨a',hE,rfl,hd',ht',_⟩|⟨x2,D2,F2,hE,rfl,M2,hq2,_,_⟩
  ·exact⟨rfl,NEED.o a' w2 (HRr.o.symm.trans (ag hE)) hd' ht'⟩
  have L2:=hQQ (KL.o _ _ _ M2)
  have R2:=hQQ ((aj hE).symm.trans HRr.o)
  have M2:=hQQ M2
  clear he hE
  have HV:=hQQ (show Rr=.ok (gW c.pg x2) D2 from R2.o.symm)
  clear R2
  unfold gW at HV
  obtain⟨y,qy⟩:∃y,IntKind.i64.wrap (x2-1)=y:=⟨_,rfl⟩
  rw[qy] at HV
  go_wp2_with (first|(refine aK rfl rfl rfl L2.o (by kernel_rfl) ?_)|(refine aK rfl rfl rfl L2.o (by kernel_rfl) ?_))
  clear qy
  refine(iq HR.o HH.o y _).mono ?_
  rintro e w3 ⟨rfl,h3⟩
  have M3:=hQQ (M2.o.more h3)
  clear h3
  cases hb:af c.pg y with
  |true =>
   have FIN:=hQQ (DONE.o y w3 D2 F2 (by have:=HV.o;rw[if_pos hb] at this;exact this) M3.o)
   clear HV hb
   go_wp2_with fail
   go_ret
   exact FIN.o
  |false =>
   have FIN:=hQQ (DONE.o (-1) w3 D2 F2 (by have:=HV.o;rw[if_neg (by rw[hb];simp)] at this;exact this) M3.o)
   clear HV hb
   go_wp2_with fail
   go_ret
   exact FIN.o
theorem rU {c:Cfg}(R:c.Ok){n:Nat}(H:cB c.pg c.st n)(hn:n≤10000)(F:Nat→Prop)(p:Nat)(kn:Int→Option Int)(D:List KV)(h x y:Int)(h1:W64 h)(h2:h<n)(hx:x= -1∨af c.pg x=true)(hy:y= -1∨af c.pg y=true)(w:World)(hv:aD w F p kn D)(hk:OkK kn)(hD:cC n D):
 Calls Tryz.prog 146 #[.pointer (some ⟨p,0,none⟩),.agg c.arr,.int .i64 h,.int .i64 x,.int .i64 y] w (aG w F p kn (fun _:Unit=> .tuple #[]) (eU c.pg c.st h x y kn D)):=by
 obtain⟨Rr,hRr⟩:∃Rr,eU c.pg c.st h x y kn D=Rr:=⟨_,rfl⟩
 rw[hRr]
 obtain⟨w1,e1,hl1,m1,s1⟩:=a6 w (.cells c.arr 28)
 have nFl:¬F w.heap.size:=fun q=>by have:=hv.lt _ q;omega
 have MM:=hQQ m1
 have L0:=hQQ hl1
 have M0:=m0Z (hv.more m1) hD
 have KL:=klZ (p:=p) (kn:=kn) (n:=n) L0.o nFl
 have NEED:=ndZ (F:=F) (p:=p) (kn:=kn) (R:=Rr) (fun _:Unit=>Value.tuple #[]) MM.o
 have DONE:=dnZ (F:=F) (p:=p) (n:=n) (kn:=kn) (R:=Rr) (fun _:Unit=>Value.tuple #[]) MM.o
 have HK:=hQQ hk
 have HR:=hQQ R
 have HH:=hQQ H
 clear hl1 m1 hv hD hk R H nFl
 unfold eU at hRr
 have pg2:=HR.o.pg2
 have hxw:=nU HH.o hx
 have hyw:=nU HH.o hy
 have qx:IntKind.i64.wrap (x+1)=x+1:=az hxw.1 hxw.2
 have qy:IntKind.i64.wrap (y+1)=y+1:=az hyw.1 hyw.2
 have GX:=hQQ hxw
 have GY:=hQQ hyw
 have PX:=hQQ hx
 have PY:=hQQ hy
 have PH:=hQQ (And.intro h1 h2)
 clear hxw hyw hx hy h1 h2
 by_cases ex:x= -1
 ·have d0:(x== -1)=true:=by simp[ex]
  rw[if_pos ex] at hRr
  have HRr:=hQQ hRr
  clear hRr ex
  go_enter Tryz.func146,Tryz.ntmps146
  go_wp2_with fail
  refine(dk F p kn D h (y+1) w1 M0.o.view (by have:=M0.o.inv.len;omega)).mono ?_
  intro e w2 he
  rcases M0.o.step (ae.refl _) HK.o (aQ n PH.o.1 PH.o.2 GY.o) he with⟨a',hE,rfl,hd',ht',_⟩|⟨x2,D2,F2,hE,rfl,M2,hq2,_,_⟩
  ·exact⟨rfl,NEED.o a' w2 (HRr.o.symm.trans (ag hE)) hd' ht'⟩
  have L2:=hQQ (KL.o _ _ _ M2)
  have R2:=hQQ ((aj hE).symm.trans HRr.o)
  have M2:=hQQ M2
  clear he hE
  by_cases ey:y= -1
  ·have d1:(y != -1)=false:=by simp[ey]
   have FIN:=hQQ (DONE.o () w2 D2 F2 (by have:=R2.o;rw[if_pos ey] at this;exact this.symm) M2.o)
   clear R2 ey
   go_wp2_with fail
   go_end0
   exact FIN.o
  ·have d1:(y != -1)=true:=by simp[ey]
   have hpy:=PY.o.resolve_left ey
   have P4:=hQQ (H8 (st:=c.st) hpy)
   have NY:=hQQ (eC HH.o hpy)
   have R2':=hQQ (by have:=R2.o;rw[if_neg ey] at this;exact this)
   clear R2 ey hpy
   go_wp2_with (first|(refine aK rfl rfl rfl L2.o (by kernel_rfl) ?_)|(refine aK rfl rfl rfl L2.o (by kernel_rfl) ?_))
   refine(qD HR.o _ y).mono ?_
   rw[P4.o]
   rintro e w3 ⟨rfl,h3⟩
   have M3:=hQQ (M2.o.more h3)
   clear h3
   go_wp2_with fail
   refine(dk F2 p kn D2 _ (x+1) w3 M3.o.view (by have:=M3.o.inv.len;omega)).mono ?_
   intro e w4 he
   rcases M3.o.step (ae.refl _) HK.o (aQ n NY.o.2.2.2 NY.o.2.2.1 GX.o) he with⟨a',hE,rfl,hd',ht',_⟩|⟨x4,D4,F4,hE,rfl,M4,hq4,_,_⟩
   ·exact⟨rfl,NEED.o a' w4 (R2'.o.symm.trans hE) hd' ht'⟩
   have FIN:=hQQ (DONE.o () w4 D4 F4 (R2'.o.symm.trans hE) M4)
   clear he hE M4
   go_wp2_with fail
   go_end0
   exact FIN.o
 ·have d0:(x== -1)=false:=by simp[ex]
  rw[if_neg ex] at hRr
  have hpx:=PX.o.resolve_left ex
  have HRr:=hQQ hRr
  have P3:=hQQ (DB (st:=c.st) hpx)
  have NB:=hQQ (eC HH.o hpx)
  clear hRr ex hpx
  go_enter Tryz.func146,Tryz.ntmps146
  go_wp2_with (first|(refine aK rfl rfl rfl L0.o (by kernel_rfl) ?_)|(refine aK rfl rfl rfl L0.o (by kernel_rfl) ?_))
  refine(lX HR.o _ x).mono ?_
  rw[P3.o]
  rintro e w5 ⟨rfl,h5⟩
  have M5:=hQQ (M0.o.more h5)
  clear h5
  go_wp2_with fail
  refine(dk F p kn D _ (y+1) w5 M5.o.view (by have:=M5.o.inv.len;omega)).mono ?_
  intro e w2 he
  rcases M5.o.step (ae.refl _) HK.o (aQ n NB.o.1.2.2 NB.o.1.2.1 GY.o) he with⟨a',hE,rfl,hd',ht',_⟩|⟨x2,D2,F2,hE,rfl,M2,hq2,_,_⟩
  ·exact⟨rfl,NEED.o a' w2 (HRr.o.symm.trans (ag hE)) hd' ht'⟩
  have L2:=hQQ (KL.o _ _ _ M2)
  have R2:=hQQ ((aj hE).symm.trans HRr.o)
  have M2:=hQQ M2
  clear he hE
  by_cases ey:y= -1
  ·have d1:(y != -1)=false:=by simp[ey]
   have FIN:=hQQ (DONE.o () w2 D2 F2 (by have:=R2.o;rw[if_pos ey] at this;exact this.symm) M2.o)
   clear R2 ey
   go_wp2_with fail
   go_end0
   exact FIN.o
  ·have d1:(y != -1)=true:=by simp[ey]
   have hpy:=PY.o.resolve_left ey
   have P4:=hQQ (H8 (st:=c.st) hpy)
   have NY:=hQQ (eC HH.o hpy)
   have R2':=hQQ (by have:=R2.o;rw[if_neg ey] at this;exact this)
   clear R2 ey hpy
   go_wp2_with (first|(refine aK rfl rfl rfl L2.o (by kernel_rfl) ?_)|(refine aK rfl rfl rfl L2.o (by kernel_rfl) ?_))
   refine(qD HR.o _ y).mono ?_
   rw[P4.o]
   rintro e w3 ⟨rfl,h3⟩
   have M3:=hQQ (M2.o.more h3)
   clear h3
   go_wp2_with fail
   refine(dk F2 p kn D2 _ (x+1) w3 M3.o.view (by have:=M3.o.inv.len;omega)).mono ?_
   intro e w4 he
   rcases M3.o.step (ae.refl _) HK.o (aQ n NY.o.2.2.2 NY.o.2.2.1 GX.o) he with⟨a',hE,rfl,hd',ht',_⟩|⟨x4,D4,F4,hE,rfl,M4,hq4,_,_⟩
   ·exact⟨rfl,NEED.o a' w4 (R2'.o.symm.trans hE) hd' ht'⟩
   have FIN:=hQQ (DONE.o () w4 D4 F4 (R2'.o.symm.trans hE) M4)
   clear he hE M4
   go_wp2_with fail
   go_end0
   exact FIN.o
def fm {α:Type}(w:World)(F:Nat→Prop)(p:Nat)(kn:Int→Option Int)(Post:α→Value→World→(Nat→Prop)→Prop)(R:Res α)(e:Ending)(w':World):Prop :=
 match R with
 | .need a=>vz w F p a e w'
 | .ok x D=>∃v F',e=.returned v∧Post x v w' F'∧aD w' F' p kn D∧Turned F w w'∧∀k,F' k→F k∨w.heap.size≤k
def dm (b:Nat)(F:Nat→Prop)(w:World)(v:Value)(xs:List Int):Prop:=Rw b w v xs∧(∀k,v.ownBlock=some k→¬F k∧b≤k∧k<w.heap.size)
theorem dm.nil (b:Nat)(F:Nat→Prop)(w:World):dm b F w (.slice none 0 0) []:=⟨Rw.nil _ _,fun k q=>by cases q⟩
theorem Rw.own {b:Nat}{w:World}{v:Value}{xs:List Int}(h:Rw b w v xs){k:Nat}(q:v.ownBlock=some k):b≤k∧k<w.heap.size:=by
 rcases h.2 with⟨rfl,_⟩|⟨g,cap,cur,rfl,hb,hg,_⟩
 ·cases q
 ·have:g=k:=by simpa [Value.ownBlock] using q
  subst this
  exact⟨hb,ac hg⟩
theorem Rw.keepT {b:Nat}{S:Nat→Prop}{w w':World}{v:Value}{xs:List Int}(h:Rw b w v xs)(t:Turned S w w')(hs:∀k,v.ownBlock=some k→¬S k):Rw b w' v xs:=by
 refine⟨h.1,?_⟩
 rcases h.2 with q|⟨g,cap,cur,rfl,hb,hg,r⟩
 ·exact .inl q
 ·exact .inr ⟨g,cap,cur,rfl,hb,(t.block g (ac hg) (hs g rfl)).trans hg,r⟩
theorem dm.more {b:Nat}{F:Nat→Prop}{w w':World}{v:Value}{xs:List Int}(h:dm b F w v xs)(m:ae w w'):dm b F w' v xs :=
 ⟨h.1.more m,fun k q=>⟨(h.2 k q).1,(h.2 k q).2.1,Nat.lt_of_lt_of_le (h.2 k q).2.2 m.size⟩⟩
theorem dm.went {b:Nat}{F F':Nat→Prop}{w w':World}{v:Value}{xs:List Int}(h:dm b F w v xs)(hk:∀k o,¬F k→w.heap[k]?=some o→w'.heap[k]?=some o)(hf:∀k,F' k→F k∨w.heap.size≤k):dm b F' w' v xs:=by
 obtain⟨r,n⟩:=h
 have key:∀k,v.ownBlock=some k→¬F' k:=fun k q z=>by
  rcases hf k z with y|y
  ·exact(n k q).1 y
  ·have:=(n k q).2.2;omega
 rcases r with⟨h1,q|⟨g,cap,cur,rfl,hb,hg,rest⟩⟩
 ·exact⟨⟨h1,.inl q⟩,fun k q'=>by rw[q.1] at q';cases q'⟩
 ·have hg':=hk g _ (n g rfl).1 hg
  exact⟨⟨h1,.inr ⟨g,cap,cur,rfl,hb,hg',rest⟩⟩,fun k q=>by
   have:g=k:=by simpa [Value.ownBlock] using q
   subst this
   exact⟨key g rfl,hb,ac hg'⟩⟩
theorem dm.mono {b b':Nat}{F:Nat→Prop}{w:World}{v:Value}{xs:List Int}(h:dm b F w v xs)(hb:b'≤b):dm b' F w v xs:=⟨h.1.mono hb,fun k q=>⟨(h.2 k q).1,by have:=(h.2 k q).2.1;omega,(h.2 k q).2.2⟩⟩
namespace MidV
variable {W wr w1 w2:World}{F S F':Nat→Prop}{p n:Nat}{kn:Int→Option Int}{D:List KV}
theorem stepR {α:Type}{Post:α→Value→World→(Nat→Prop)→Prop}{Q:α→Prop}{pr:Prg α}{e:Ending}(h:MidV W wr F S p kn n D F')(m:ae wr w1)(hk:OkK kn)(G:bQ n Q pr)(he:fm w1 F' p kn Post (pr kn D) e w2):
 (∃a,pr kn D=.need a∧e=.panicked (bg p)∧bB w2 p a∧Turned (fun b=>F b∨S b) W w2∧∀b o,¬F' b→wr.heap[b]?=some o→w2.heap[b]?=some o) ∨
 (∃x D1 F1 v,pr kn D=.ok x D1∧e=.returned v∧Post x v w2 F1∧MidV W w2 F S p kn n D1 F1∧Q x∧(∀b o,¬F' b→wr.heap[b]?=some o→w2.heap[b]?=some o)∧∀b,F1 b→F' b∨wr.heap.size≤b):=by
 have hm:=h.more m
 have hs:=m.size
 have hK:∀t,Turned F' w1 t→∀b o,¬F' b→wr.heap[b]?=some o→t.heap[b]?=some o:=fun t ht b o nb hb=>(ht.block b (ac (m.block hb)) nb).trans (m.block hb)
 cases hE:pr kn D with
 |need a =>
  rw[hE] at he
  obtain⟨h1,h2,h3⟩:=he
  exact .inl ⟨a,rfl,h1,h2,am hm.turn h3 (fun k q=>(h.from' k q).imp .inl id),hK _ h3⟩
 |ok x D1 =>
  rw[hE] at he
  obtain⟨v,F1,h1,hp,hv,ht,hn⟩:=he
  obtain⟨i1,q1⟩:=G.ok hk h.inv hE
  refine .inr ⟨x,D1,F1,v,rfl,h1,hp,⟨hv,fun k q=>?_,am hm.turn ht (fun k q=>(h.from' k q).imp .inl id),i1⟩,q1,hK _ ht,fun b q=>(hn b q).imp id (fun r=>by omega)⟩
  rcases hn k q with r|r
  ·exact h.from' k r
  ·have:=hm.size;exact .inr (by omega)
theorem grew {v v':Value}{b:Nat}{xs ys:List Int}(h:MidV W wr F S p kn n D F')(hr:dm b F' wr v xs)(hb:W.heap.size≤b)(t:Turned (fun k=>v.ownBlock=some k) wr w1)(hr':Rw b w1 v' ys)(hv':∀k,v'.ownBlock=some k→v.ownBlock=some k∨k=wr.heap.size):MidV W w1 F S p kn n D F'∧dm b F' w1 v' ys:=by
 have lt:=h.view.lt
 have hnc:∀(k:Nat) es cl,v.ownBlock=some k→wr.heap[k]? ≠some (.map es cl):=fun k es cl q z=>by
  rcases hr.1.2 with⟨q',_⟩|⟨g,cap,cur,q',_,hg,_⟩
  ·rw[q'] at q;cases q
  ·rw[q'] at q
   have:g=k:=by simpa [Value.ownBlock] using q
   subst this
   rw[hg] at z;cases z
 refine⟨⟨h.view.keepS t (fun k q e=>(hr.2 k e).1 q) (fun k es cl e q=>hnc k es cl e q),h.from',am h.turn t (fun k q=> .inr (by have:=(hr.2 k q).2.1;omega)),h.inv⟩,hr',fun k q=>?_⟩
 have hl:=hr'.own q
 refine⟨fun z=>?_,hl.1,hl.2⟩
 rcases hv' k q with r|r
 ·exact(hr.2 k r).1 z
 ·have:=lt k z;omega
end MidV
theorem kh {α:Type}{w w1 w2:World}{F S:Nat→Prop}{p:Nat}{kn:Int→Option Int}{Post:α→Value→World→(Nat→Prop)→Prop}{R:Res α}{a:Int}(m:ae w w1)(hS:∀b,S b→w.heap.size≤b)(hR:R=.need a)(hd:bB w2 p a)(ht:Turned (fun b=>F b∨S b) w1 w2):fm w F p kn Post R (.panicked (bg p)) w2:=by
 subst hR
 exact⟨rfl,hd,am (Turned.mono m (fun _ _ q=>q.elim)) ht (fun k q=>q.imp id (hS k))⟩
theorem ki {α:Type}{w w1 w2:World}{F S F':Nat→Prop}{p n:Nat}{kn:Int→Option Int}{Post:α→Value→World→(Nat→Prop)→Prop}{R:Res α}{x:α}{D:List KV}{v:Value}(m:ae w w1)(hS:∀b,S b→w.heap.size≤b)(h:MidV w1 w2 F S p kn n D F')(hR:R=.ok x D)(hp:Post x v w2 F'):fm w F p kn Post R (.returned v) w2:=by
 subst hR
 exact⟨v,F',rfl,hp,h.view,am (Turned.mono m (fun _ _ q=>q.elim)) h.turn (fun k q=>q.imp id (hS k)),fun k q=>(h.from' k q).imp id (fun r=>Nat.le_trans m.size r)⟩
def py (b:Nat)(r:List Int×Bool)(v:Value)(w:World)(F:Nat→Prop):Prop:=∃u,v=.tuple #[u,.bool r.2]∧dm b F w u r.1
theorem BN {c:Cfg}(R:c.Ok){n:Nat}(H:cB c.pg c.st n)(F:Nat→Prop)(p:Nat)(kn:Int→Option Int)(D:List KV)(q cl f:Int)(w:World)(hv:aD w F p kn D)(hk:OkK kn)(hD:cC n D):
 Calls Tryz.prog 145 #[.pointer (some ⟨p,0,none⟩),.agg c.arr,.int .i64 q,.int .i64 cl,.int .i64 f] w (fm w F p kn (py w.heap.size) (kU c.pg c.st q cl f kn D)):=by
 obtain⟨Rr,hRr⟩:∃Rr,kU c.pg c.st q cl f kn D=Rr:=⟨_,rfl⟩
 rw[hRr]
 obtain⟨w1,e1,hl1,m1,s1⟩:=a6 w (.cells c.arr 28)
 have nFl:¬F w.heap.size:=fun q=>by have:=hv.lt _ q;omega
 have MM:=hQQ m1
 have L0:=hQQ hl1
 have M0:=m0Z (hv.more m1) hD
 have KL:=klZ (p:=p) (kn:=kn) (n:=n) L0.o nFl
 have NEED:Hq (∀a w2,Rr=.need a→bB w2 p a→Turned (fun b=>F b∨False) w1 w2→fm w F p kn (py w.heap.size) Rr (.panicked (bg p)) w2):=hQQ fun a w2 e hd ht=>kh MM.o (fun _ q=>q.elim) e hd ht
 have DONE:Hq (∀x v w2 D' F',Rr=.ok x D'→MidV w1 w2 F (fun _=>False) p kn n D' F'→(py w.heap.size) x v w2 F'→fm w F p kn (py w.heap.size) Rr (.returned v) w2):=hQQ fun x v w2 D' F' e h hp=>ki MM.o (fun _ q=>q.elim) h e hp
 have HK:=hQQ hk
 have HR:=hQQ R
 have HH:=hQQ H
 clear hl1 m1 hv hD hk R H nFl
 unfold kU at hRr
 have HRr:=hQQ hRr
 have hfl:=fD c
 have pg1:=HR.o.pg1
 have pg2:=HR.o.pg2
 have hw1:w.heap.size≤w1.heap.size:=by omega
 clear hRr
 go_enter Tryz.func145,Tryz.ntmps145
 go_wp2_with fail
 refine wp_scope_jumps 0 (fun a' w'=>∃(v:Value) (b:Bool) (u12 u13 u14 u15 u16 u17 u18 u19 u20 u21 u22 u23 u24 u25 u26 u27 u28 u29 u30 u31 u32 u33 u34 u35 u36 u37 u38 u39 u40 u41 u42:Value),a'= { tmps:= #[.pointer (some ⟨p,0,none⟩),.agg c.arr,.int .i64 q,.int .i64 cl,.int .i64 f,undef,.pointer (some ⟨w.heap.size,0,none⟩),undef,undef,undef,v,.bool b,u12,u13,u14,u15,u16,u17,u18,u19,u20,u21,u22,u23,u24,u25,u26,u27,u28,u29,u30,u31,u32,u33,u34,u35,u36,u37,u38,u39,u40,u41,u42],defers:= [] } ∧∃(l:List Int) (D4:List KV) (F4:Nat→Prop),Rr=.ok (l,b) D4∧MidV w1 w' F (fun _=>False) p kn n D4 F4∧dm w1.heap.size F4 w' v l) (fun _ _=>0) rfl ?_ ?_
 ·go_wp2_with (first|(refine aK rfl rfl rfl L0.o (by kernel_rfl) ?_)|(refine aK rfl rfl rfl L0.o (by kernel_rfl) ?_))
  refine(kX HR.o _ cl f).mono ?_
  rintro e w2 ⟨rfl,h2⟩
  have M2:=hQQ (M0.o.more h2)
  have L2:=hQQ (KL.o _ _ _ M2.o)
  clear h2
  go_wp2_with (first|(refine aK rfl rfl rfl L2.o (by kernel_rfl) ?_)|(refine aK rfl rfl rfl L2.o (by kernel_rfl) ?_))
  refine(dD HR.o _).mono ?_
  rintro e w3 ⟨rfl,h3⟩
  have M3:=hQQ (M2.o.more h3)
  clear h3 M2 L2
  go_wp2_with fail
  go_loopw [10,11,12,21] (fun u10 v11 v12 v21 wr=>∃(v10:Value) (i:Nat) (a:Int) (l:List Int) (D':List KV) (F':Nat→Prop),v10=u10∧v11=.bool false∧v21=.int .i64 (i:Int)∧(i:Int)≤c.pg∧v12=.int .i64 a∧W64 a∧a<n∧MidV w1 wr F (fun _=>False) p kn n D' F'∧dm w1.heap.size F' wr v10 l∧l.length=i∧kT c.pg c.st q (c.pg.toNat-i) a l kn D'=Rr) (fun _ _ _ v21 _=>c.pg.toNat-(intOf v21).toNat)
  case atStart=>exact⟨_,0,_,[],D,F,rfl,rfl,rfl,by omega,rfl,(bD HH.o).2.2,(bD HH.o).2.1,M3.o,dm.nil _ _ _,rfl,HRr.o⟩
  case round =>
   clear M3 HRr
   obtain⟨v10,i,a,l,D',F',rfl,rfl,rfl,hi,rfl,haw,han,MI,RWI,hl,hrest⟩:=hrel
   have MI:=hQQ MI
   have RWI:=hQQ RWI
   have LI:=hQQ (KL.o _ _ _ MI.o)
   have qi:IntKind.i64.wrap ((i:Int)+1)=(i:Int)+1:=az (by omega) (by omega)
   by_cases hlt:(i:Int)<c.pg
   ·have d3:decide ((i:Int)<c.pg)=true:=by simp[hlt]
    rw[show c.pg.toNat-i=(c.pg.toNat-(i+1))+1 by omega] at hrest
    have RI:=hQQ (show ak (eh c.pg a) (fun x=>if x=q then ay (l,true) else if x= -1 then ay (l,false) else kT c.pg c.st q (c.pg.toNat-(i+1)) (nA c.pg c.st x) (l++ [x])) kn D'=Rr from hrest)
    clear hrest
    go_wp2_with (first|(refine aK rfl rfl rfl LI.o (by kernel_rfl) ?_)|(refine aK rfl rfl rfl LI.o (by kernel_rfl) ?_))
    refine(lY HR.o HH.o F' p kn D' a haw han wr MI.o.view HK.o MI.o.inv).mono ?_
    intro e w4 he
    rcases MI.o.step (ae.refl _) HK.o (dl HH.o han) he with⟨a',hE,rfl,hd',ht',_⟩|⟨x4,D4,F4,hE,rfl,M4,hq4,hkp,hnw⟩
    ·exact⟨rfl,NEED.o a' w4 (RI.o.symm.trans (ag hE)) hd' ht'⟩
    have R4:=hQQ ((aj hE).symm.trans RI.o)
    have RW4:=hQQ (RWI.o.went hkp hnw)
    have M4:=hQQ M4
    clear he hE hkp hnw
    by_cases ex:x4=q
    ·have d4:(x4==q)=true:=by simp[ex]
     have E4:=hQQ (show Rr=.ok (l,true) D4 from by have:=R4.o;rw[if_pos ex] at this;exact this.symm)
     clear R4 ex
     go_wp2_with fail
     go_step3
     refine⟨rfl,v10,true,_,_,_,_,_,_,_,_,_,_,_,_,_,_,_,_,_,_,_,_,_,_,_,_,_,_,_,_,_,_,_,rfl,⟨l,D4,F4,E4.o,M4.o,RW4.o⟩⟩
    have d4:(x4==q)=false:=by simp[ex]
    by_cases en:x4= -1
    ·have d5:(x4== -1)=true:=by simp[en]
     have E4:=hQQ (show Rr=.ok (l,false) D4 from by have:=R4.o;rw[if_neg ex,if_pos en] at this;exact this.symm)
     clear R4 ex en
     go_wp2_with fail
     go_step3
     refine⟨rfl,v10,false,_,_,_,_,_,_,_,_,_,_,_,_,_,_,_,_,_,_,_,_,_,_,_,_,_,_,_,_,_,_,_,rfl,⟨l,D4,F4,E4.o,M4.o,RW4.o⟩⟩
    have d5:(x4== -1)=false:=by simp[en]
    have hpx:=hq4.resolve_left en
    have P3:=hQQ (DB (st:=c.st) hpx)
    have NB:=hQQ (eC HH.o hpx)
    have NX:=hQQ (show kT c.pg c.st q (c.pg.toNat-(i+1)) (nA c.pg c.st x4) (l++ [x4]) kn D4=Rr from by have:=R4.o;rw[if_neg ex,if_neg en] at this;exact this)
    clear R4 ex en hq4 hpx haw han
    go_wp2_with fail
    refine aM (TrC c w.heap.size) (by kernel_rfl) ?_
    have MR:=hQQ (M4.o.more ((ae.refl w4).drewN 1))
    have RR:=hQQ (RW4.o.more ((ae.refl w4).drewN 1))
    change dc _ _ _ _ _ _ _ _ (w4.drewN 1)
    generalize w4.drewN 1=wq at MR RR⊢
    clear M4 RW4 MI RWI LI
    generalize hA:Act.mk _ _=A
    have HF:AG 43 A [(6,.pointer (some ⟨w.heap.size,0,none⟩)),(13,.int .i64 x4),(10,v10)]:=by
     rw[←hA];try simp only[pts,List.foldl]
     refine⟨⟨Nat.le_of_ble_eq_true rfl,rfl⟩,?_⟩
     intro z hz;simp only[List.mem_cons,List.not_mem_nil,or_false] at hz;rcases hz with rfl|rfl|rfl<;>rfl
    refine bH (fun a W=>∃(u28 u29 u32 u33 u30 u31 u34 v':Value) (D9:List KV) (F9:Nat→Prop),a=(pts A [(28,u28),(29,u29),(32,u32),(33,u33),(30,u30),(31,u31),(34,u34),(10,v'),(12,.int .i64 (nA c.pg c.st x4))])∧MidV w1 W F (fun _=>False) p kn n D4 F4∧dm w1.heap.size F4 W v' (l++ [x4])) (fun W=>fm w F p kn (py w.heap.size) Rr (.panicked (bg p)) W) (bg p) (fun a W hd h=>⟨hd,h⟩) (fun _ _ _ _ _ h=>h) ?_ ?_
    ·rintro a wa ⟨u28,u29,u32,u33,u30,u31,u34,v',_,_,rfl,MS,RS⟩
     rw[←hA];try simp only[pts,List.foldl]
     have MS:=hQQ MS
     have RS:=hQQ RS
     clear HF hA MR RR
     go_wp2_with fail
     go_roundw
     case rel=>exact⟨_,i+1,_,l++ [x4],D4,F4,rfl,rfl,by go_num,by omega,rfl,NB.o.1.2.2,NB.o.1.2.1,MS.o,RS.o,by simp[hl],NX.o⟩
     case measure=>simp[intOf];omega
    intro QQ FINE FIND FINQ
    clear hA
    refine fY (i:=0) (v:=v10) (some 28) rfl rfl (by kernel_rfl) (by kernel_rfl) (by kernel_rfl) (fun c a w=>FINQ c a _ _ w) (KL.o _ _ _ MR.o) (by exact ct (ab rfl) _ rfl (HF.get 2 rfl)) ?_
    replace HF:AG 43 A [(6,.pointer (some ⟨w.heap.size,0,none⟩)),(13,.int .i64 x4)]:=HF.sub (fun z hz=>by simp only[List.mem_cons,List.not_mem_nil,or_false] at hz⊢;rcases hz with h|h;exact .inl h;exact .inr (.inl h))
    replace HF:=HF.put 28 (v10) (by decide) rfl
    generalize hB1:Act.put _ _ _=A at HF⊢
    refine tqM 1 29 2 rfl (.inl rfl) rfl (by kernel_rfl) FINQ (KL.o _ _ _ MR.o) HF fun A hB2 HF=>?_
    refine tqC 4 32 (.agg c.arr) (by kernel_rfl) FINQ (KL.o _ _ _ MR.o) HF (by exact aC (ab rfl) 28 _ rfl w.heap.size (HF.get 2 rfl) 28 _ _ _ (fun W hW=>hW) Tryz.underlying28 rfl (by kernel_rfl)) fun A hB3 HF=>?_
    refine tqM 5 33 4 rfl (.inl rfl) rfl (by kernel_rfl) FINQ (KL.o _ _ _ MR.o) HF fun A hB4 HF=>?_
    refine bG (i:=2) (some 30) (by kernel_rfl) rfl (ab rfl) rfl (fun K hK=>?_)
    refine EU rfl x4 (HF.get 2 rfl) ?_
    have MRb:=hQQ (MR.o.more ((ae.refl wq).alloc (.cells #[.int .i64 x4] 3)))
    have RRb:=hQQ (RR.o.more ((ae.refl wq).alloc (.cells #[.int .i64 x4] 3)))
    have BL:=hQQ (a7 wq (.cells #[.int .i64 x4] 3))
    refine hK _ _ (KL.o _ _ _ MRb.o) ?_
    clear hK K
    generalize hg:wq.heap.size=gb at BL⊢
    generalize wq.alloc (.cells #[.int .i64 x4] 3)=wqb at MRb RRb BL⊢
    clear hg
    replace HF:=HF.put 30 (.slice (some ⟨gb,0,none⟩) 1 1) (by decide) rfl
    generalize hB5:Act.put _ _ _=A at HF⊢
    refine tqO 3 31 (by kernel_rfl) HF fun K hK=>?_
    refine Dz (xs:=l) x4 _ _ rfl (HF.get 4 rfl) RRb.o.1 (by have:=MRb.o.size;omega) (by omega) (HF.get 0 rfl) BL.o ?_
    intro v' wqba hr' ht' hv'
    obtain⟨mA,rA⟩:=MRb.o.grew RRb.o (Nat.le_refl _) ht' hr' hv'
    have MA:=hQQ mA
    have RA:=hQQ rA
    clear mA rA hr' ht' hv'
    refine hK _ _ (KL.o _ _ _ MA.o) fun A hB6 HF=>?_
    clear hK K
    refine tqO 6 34 (by kernel_rfl) HF fun K hK=>?_
    refine bO (v0:=.agg c.arr) (v1:=.int .i64 x4) rfl (HF.get 3 rfl) (HF.get 2 rfl) (enters_of Tryz.func136 (by kernel_rfl) rfl) ?_
    refine(lX HR.o wqba x4).mono ?_
    rw[P3.o]
    rintro e wqban ⟨rfl,hn'⟩
    have MAn:=hQQ (MA.o.more hn')
    have RAn:=hQQ (RA.o.more hn')
    skip
    clear hn'
    refine hK _ _ (KL.o _ _ _ MAn.o) fun A hB7 HF=>?_
    clear hK K
    refine tqM 7 10 1 rfl (.inr rfl) rfl (by kernel_rfl) FINQ (KL.o _ _ _ MAn.o) HF fun A hC1 HF=>?_
    refine tqM 8 12 1 rfl (.inr rfl) rfl (by kernel_rfl) FINQ (KL.o _ _ _ MAn.o) HF fun A hC2 HF=>?_
    exact bI (by kernel_rfl) (FINE _ _ ⟨_,_,_,_,_,_,_,v',D4,F4,by rw[←hC2,←hC1,←hB7,←hB6,←hB5,←hB4,←hB3,←hB2,←hB1]<;>rfl,MAn.o,RAn.o⟩)
   ·have hie:(i:Int)=c.pg:=by omega
    have d3:decide ((i:Int)<c.pg)=false:=by simp;omega
    rw[show c.pg.toNat-i=0 by omega] at hrest
    have FIN:=hQQ (DONE.o (l,false) (.tuple #[v10,.bool false]) wr D' F' hrest.symm MI.o ⟨v10,rfl,RWI.o.mono hw1⟩)
    clear hrest
    go_wp2_with fail
    go_step3
    go_wp2_with fail
    go_ret2
    exact FIN.o
 ·rintro a w' ⟨v,b,u12,u13,u14,u15,u16,u17,u18,u19,u20,u21,u22,u23,u24,u25,u26,u27,u28,u29,u30,u31,u32,u33,u34,u35,u36,u37,u38,u39,u40,u41,u42,rfl,l,D4,F4,hE,MS,RS⟩
  have FIN:=hQQ (DONE.o (l,b) (.tuple #[v,.bool b]) w' D4 F4 hE MS ⟨v,rfl,RS.mono hw1⟩)
  clear hE MS RS
  go_wp2_with fail
  go_ret2
  exact FIN.o
theorem Fa {c:Cfg}(R:c.Ok){n:Nat}(H:cB c.pg c.st n)(hn:n≤10000)(F:Nat→Prop)(p:Nat)(kn:Int→Option Int)(D:List KV)(q cl f:Int)(w:World)(hv:aD w F p kn D)(hk:OkK kn)(hD:cC n D):
 Calls Tryz.prog 130 #[.pointer (some ⟨p,0,none⟩),.agg c.arr,.int .i64 q,.int .i64 cl,.int .i64 f] w (aG w F p kn (fun b=> .bool b) (fH c.pg c.st q cl f kn D)):=by
 obtain⟨Rr,hRr⟩:∃Rr,fH c.pg c.st q cl f kn D=Rr:=⟨_,rfl⟩
 rw[hRr]
 obtain⟨w1,e1,hl1,m1,s1⟩:=a6 w (.cells c.arr 28)
 have nFl:¬F w.heap.size:=fun q=>by have:=hv.lt _ q;omega
 have MM:=hQQ m1
 have L0:=hQQ hl1
 have M0:=m0Z (hv.more m1) hD
 have KL:=klZ (p:=p) (kn:=kn) (n:=n) L0.o nFl
 have NEED:=ndZ (F:=F) (p:=p) (kn:=kn) (R:=Rr) (fun b:Bool=>Value.bool b) MM.o
 have DONE:=dnZ (F:=F) (p:=p) (n:=n) (kn:=kn) (R:=Rr) (fun b:Bool=>Value.bool b) MM.o
 have HK:=hQQ hk
 have HR:=hQQ R
 have HH:=hQQ H
 clear hl1 m1 hv hD hk R H nFl
 unfold fH at hRr
 cases hq:af c.pg q with
 |false =>
  rw[hq] at hRr
  have FIN:Hq (∀w2,ae w1 w2→aG w F p kn (fun b:Bool=>Value.bool b) Rr (.returned (.bool false)) w2):=hQQ fun w2 h=>DONE.o false w2 D F hRr.symm (M0.o.more h)
  clear hRr
  go_enter Tryz.func130,Tryz.ntmps130
  go_wp2_with (first|(refine aK rfl rfl rfl L0.o (by kernel_rfl) ?_)|(refine aK rfl rfl rfl L0.o (by kernel_rfl) ?_))
  refine(iq HR.o HH.o q _).mono ?_
  rw[hq]
  rintro e w3 ⟨rfl,h3⟩
  have H3:=hQQ h3
  clear h3
  go_wp2_with fail
  go_ret
  exact FIN.o _ H3.o
 |true =>
  rw[hq] at hRr
  have HRr:=hQQ (show ak (kU c.pg c.st q cl f) (fun r=>if r.2 then ak (eh c.pg (nA c.pg c.st q)) (fun x=>ak (eU c.pg c.st (aF c.pg c.st cl f) (cy r.1) x) fun _=>ak (cM (nA c.pg c.st q) 0) fun _=>ak (cM (vA c.pg c.st q) 0) fun _=>ay true) else ay false) kn D=Rr from hRr)
  have P3:=hQQ (DB (st:=c.st) hq)
  have P4:=hQQ (H8 (st:=c.st) hq)
  have NB:=hQQ (eC HH.o hq)
  have HQ:=hQQ hq
  clear hRr hq
  go_enter Tryz.func130,Tryz.ntmps130
  go_wp2_with (first|(refine aK rfl rfl rfl L0.o (by kernel_rfl) ?_)|(refine aK rfl rfl rfl L0.o (by kernel_rfl) ?_))
  refine(iq HR.o HH.o q _).mono ?_
  rw[HQ.o]
  rintro e w2 ⟨rfl,h2⟩
  have M2:=hQQ (M0.o.more h2)
  have L2:=hQQ (KL.o _ _ _ M2.o)
  clear h2
  go_wp2_with (first|(refine aK rfl rfl rfl L2.o (by kernel_rfl) ?_)|(refine aK rfl rfl rfl L2.o (by kernel_rfl) ?_))
  refine(BN HR.o HH.o F p kn D q cl f w2 M2.o.view HK.o M2.o.inv).mono ?_
  intro e w3 he
  rcases M2.o.stepR (ae.refl _) HK.o (oy HH.o q cl f) he with⟨a',hE,rfl,hd',ht',_⟩|⟨⟨xs,b⟩,D2,F2,v,hE,rfl,⟨u,rfl,hu⟩,M3,hxs,_,_⟩
  ·exact⟨rfl,NEED.o a' w3 (HRr.o.symm.trans (ag hE)) hd' ht'⟩
  have R2:=hQQ ((aj hE).symm.trans HRr.o)
  have HXS:=hQQ (show ∀x∈xs,af c.pg x=true from hxs.1)
  have hxl:xs.length≤256:=hxs.2
  have M3:=hQQ M3
  have L3:=hQQ (KL.o _ _ _ M3.o)
  have HU:=hQQ (show dm w2.heap.size F2 w3 u xs from hu)
  clear he hE hxs hu M2 L2
  cases b with
  |false =>
   have FIN:=hQQ (DONE.o false w3 D2 F2 R2.o.symm M3.o)
   clear R2
   go_wp2_with fail
   go_ret
   exact FIN.o
  |true =>
   have R2':=hQQ (show ak (eh c.pg (nA c.pg c.st q)) (fun x=>ak (eU c.pg c.st (aF c.pg c.st cl f) (cy xs) x) fun _=>ak (cM (nA c.pg c.st q) 0) fun _=>ak (cM (vA c.pg c.st q) 0) fun _=>ay true) kn D2=Rr from R2.o)
   obtain⟨av,cv,rfl,hrd⟩:=HU.o.1.reads
   by_cases h0:xs.length=0
   ·have hxn:xs= []:=List.length_eq_zero_iff.1 h0
    subst hxn
    clear R2 hrd h0 HU
    go_wp2_with fail
    refine aM (TrC c w.heap.size) (by kernel_rfl) ?_
    have MR:=hQQ (M3.o.more ((ae.refl w3).drewN 1))
    change dc _ _ _ _ _ _ _ _ (w3.drewN 1)
    generalize w3.drewN 1=wr at MR⊢
    generalize hA:Act.mk _ _=A
    have HF:AG 63 A [(0,.pointer (some ⟨p,0,none⟩)),(1,.agg c.arr),(2,.int .i64 q),(3,.int .i64 cl),(4,.int .i64 f),(6,.pointer (some ⟨w.heap.size,0,none⟩)),(13,.int .i64 (-1))]:=by
     rw[←hA];try simp only[pts,List.foldl]
     refine⟨⟨Nat.le_of_ble_eq_true rfl,rfl⟩,?_⟩
     intro z hz;simp only[List.mem_cons,List.not_mem_nil,or_false] at hz;rcases hz with rfl|rfl|rfl|rfl|rfl|rfl|rfl<;>rfl
    refine bH (fun a W=>∃(u39 u40 u41 u42 u43 u45 u46 u47 u48 u49 u44 u50 u51 u52:Value) (D9:List KV) (F9:Nat→Prop),a=(pts A [(39,u39),(40,u40),(41,u41),(42,u42),(43,u43),(45,u45),(46,u46),(47,u47),(48,u48),(49,u49),(44,u44),(50,u50),(51,u51),(52,u52)])∧MidV w1 W F (fun _=>False) p kn n D9 F9∧ak (cM (nA c.pg c.st q) 0) (fun _=>ak (cM (vA c.pg c.st q) 0) fun _=>ay true) kn D9=Rr) (fun W=>aG w F p kn (fun b:Bool=>Value.bool b) Rr (.panicked (bg p)) W) (bg p) (fun a W hd h=>⟨hd,h⟩) (fun _ _ _ _ _ h=>h) ?_ ?_
    ·skip
     rintro a wa ⟨u39,u40,u41,u42,u43,u45,u46,u47,u48,u49,u44,u50,u51,u52,D7,F7,rfl,MS,RS⟩
     rw[←hA];try simp only[pts,List.foldl]
     have MS:=hQQ MS
     have LS:=hQQ (KL.o _ _ _ MS.o)
     have RS:=hQQ RS
     clear HF hA MR M3 R2' L3
     go_wp2_with (first|(refine aK rfl rfl rfl LS.o (by kernel_rfl) ?_)|(refine aK rfl rfl rfl LS.o (by kernel_rfl) ?_))
     refine(lX HR.o _ q).mono ?_
     rw[P3.o]
     rintro e w8 ⟨rfl,h8⟩
     have M8:=hQQ (MS.o.more h8)
     clear h8
     go_wp2_with fail
     refine(dk F7 p kn D7 _ 0 w8 M8.o.view (by have:=M8.o.inv.len;omega)).mono ?_
     intro e w9 he
     rcases M8.o.step (ae.refl _) HK.o (aQ n NB.o.1.2.2 NB.o.1.2.1 (by unfold W64;omega)) he with⟨a',hE,rfl,hd',ht',_⟩|⟨x9,D9,F9,hE,rfl,M9,hq9,_,_⟩
     ·exact⟨rfl,NEED.o a' w9 (RS.o.symm.trans (ag hE)) hd' ht'⟩
     have L9:=hQQ (KL.o _ _ _ M9)
     have R9:=hQQ ((aj hE).symm.trans RS.o)
     have M9:=hQQ M9
     clear he hE
     go_wp2_with (first|(refine aK rfl rfl rfl L9.o (by kernel_rfl) ?_)|(refine aK rfl rfl rfl L9.o (by kernel_rfl) ?_))
     refine(qD HR.o _ q).mono ?_
     rw[P4.o]
     rintro e w10 ⟨rfl,h10⟩
     have M10:=hQQ (M9.o.more h10)
     clear h10
     go_wp2_with fail
     refine(dk F9 p kn D9 _ 0 w10 M10.o.view (by have:=M10.o.inv.len;omega)).mono ?_
     intro e w11 he
     rcases M10.o.step (ae.refl _) HK.o (aQ n NB.o.2.2.2 NB.o.2.2.1 (by unfold W64;omega)) he with⟨a',hE,rfl,hd',ht',_⟩|⟨x11,D11,F11,hE,rfl,M11,hq11,_,_⟩
     ·exact⟨rfl,NEED.o a' w11 (R9.o.symm.trans (ag hE)) hd' ht'⟩
     have FIN:=hQQ (DONE.o true w11 D11 F11 (R9.o.symm.trans (aj hE)) M11)
     clear he hE M11
     go_wp2_with fail
     go_ret
     exact FIN.o
    intro QQ FINE FIND FINQ
    clear hA
    refine tqM 0 39 0 rfl (.inl rfl) rfl (by kernel_rfl) FINQ (KL.o _ _ _ MR.o) HF fun A β1 HF=>?_
    refine tqC 1 40 (.agg c.arr) (by kernel_rfl) FINQ (KL.o _ _ _ MR.o) HF (by exact aC (ab rfl) 28 _ rfl w.heap.size (HF.get 6 rfl) 28 _ _ _ (fun W hW=>hW) Tryz.underlying28 rfl (by kernel_rfl)) fun A β2 HF=>?_
    refine tqC 2 41 (.agg c.arr) (by kernel_rfl) FINQ (KL.o _ _ _ MR.o) HF (by exact aC (ab rfl) 28 _ rfl w.heap.size (HF.get 7 rfl) 28 _ _ _ (fun W hW=>hW) Tryz.underlying28 rfl (by kernel_rfl)) fun A β3 HF=>?_
    refine tqM 3 42 6 rfl (.inl rfl) rfl (by kernel_rfl) FINQ (KL.o _ _ _ MR.o) HF fun A β4 HF=>?_
    refine tqM 4 43 8 rfl (.inl rfl) rfl (by kernel_rfl) FINQ (KL.o _ _ _ MR.o) HF fun A β5 HF=>?_
    refine tqM 6 45 11 rfl (.inl rfl) rfl (by kernel_rfl) FINQ (KL.o _ _ _ MR.o) HF fun A β6 HF=>?_
    refine tqM 7 46 6 rfl (.inl rfl) rfl (by kernel_rfl) FINQ (KL.o _ _ _ MR.o) HF fun A β7 HF=>?_
    refine tqC 8 47 (.agg c.arr) (by kernel_rfl) FINQ (KL.o _ _ _ MR.o) HF (by exact aC (ab rfl) 28 _ rfl w.heap.size (HF.get 12 rfl) 28 _ _ _ (fun W hW=>hW) Tryz.underlying28 rfl (by kernel_rfl)) fun A β8 HF=>?_
    refine tqC 9 48 (.agg c.arr) (by kernel_rfl) FINQ (KL.o _ _ _ MR.o) HF (by exact aC (ab rfl) 28 _ rfl w.heap.size (HF.get 13 rfl) 28 _ _ _ (fun W hW=>hW) Tryz.underlying28 rfl (by kernel_rfl)) fun A β9 HF=>?_
    refine tqM 10 49 11 rfl (.inl rfl) rfl (by kernel_rfl) FINQ (KL.o _ _ _ MR.o) HF fun A β10 HF=>?_
    refine tqO 5 44 (by kernel_rfl) HF fun K hK=>?_
    refine du (v0:=.agg c.arr) (v1:=.int .i64 cl) (v2:=.int .i64 f) rfl (HF.get 7 rfl) (HF.get 6 rfl) (HF.get 5 rfl) (enters_of Tryz.func93 (by kernel_rfl) rfl) ?_
    refine(kX HR.o wr cl f).mono ?_
    rintro e w4 ⟨rfl,h4⟩
    have M4:=hQQ (MR.o.more h4)
    clear h4
    refine hK _ _ (KL.o _ _ _ M4.o) fun A β11 HF=>?_
    clear hK K
    refine tqO 11 50 (by kernel_rfl) HF fun K hK=>?_
    refine bO (v0:=.agg c.arr) (v1:=.int .i64 q) rfl (HF.get 2 rfl) (HF.get 1 rfl) (enters_of Tryz.func136 (by kernel_rfl) rfl) ?_
    refine(lX HR.o w4 q).mono ?_
    rw[P3.o]
    rintro e w5 ⟨rfl,h5⟩
    have M5:=hQQ (M4.o.more h5)
    clear h5
    refine hK _ _ (KL.o _ _ _ M5.o) fun A β12 HF=>?_
    clear hK K
    refine tqO 12 51 (by kernel_rfl) HF fun K hK=>?_
    refine du (v0:=.pointer (some ⟨p,0,none⟩)) (v1:=.agg c.arr) (v2:=.int .i64 (nA c.pg c.st q)) rfl (HF.get 5 rfl) (HF.get 4 rfl) (HF.get 0 rfl) (enters_of Tryz.func92 (by kernel_rfl) rfl) ?_
    refine(lY HR.o HH.o F2 p kn D2 (nA c.pg c.st q) NB.o.1.2.2 NB.o.1.2.1 w5 M5.o.view HK.o M5.o.inv).mono ?_
    intro e w6 he
    rcases M5.o.step (ae.refl _) HK.o (dl HH.o NB.o.1.2.1) he with⟨a',hE,rfl,hd',ht',_⟩|⟨x6,D6,F6,hE,rfl,M6,hq6,_,_⟩
    ·exact FIND _ _ HF.1.2 (NEED.o a' w6 (R2'.o.symm.trans (ag hE)) hd' ht')
    have R6:=hQQ ((aj hE).symm.trans R2'.o)
    have M6:=hQQ M6
    clear he hE
    refine hK _ _ (KL.o _ _ _ M6.o) fun A β13 HF=>?_
    clear hK K
    refine tqO 13 52 (by kernel_rfl) HF fun K hK=>?_
    refine kb (v0:=.pointer (some ⟨p,0,none⟩)) (v1:=.agg c.arr) (v2:=.int .i64 (aF c.pg c.st cl f)) (v3:=.int .i64 (-1)) (v4:=.int .i64 x6) rfl (HF.get 12 rfl) (HF.get 11 rfl) (HF.get 2 rfl) (HF.get 7 rfl) (HF.get 0 rfl) (enters_of Tryz.func146 (by kernel_rfl) rfl) ?_
    refine(rU HR.o HH.o hn F6 p kn D6 (aF c.pg c.st cl f) (-1) x6 (bD HH.o).2.2 (bD HH.o).2.1 (.inl rfl) hq6 w6 M6.o.view HK.o M6.o.inv).mono ?_
    intro e w7 he
    rcases M6.o.step (ae.refl _) HK.o (dR HH.o (bD HH.o).2.2 (bD HH.o).2.1 (.inl rfl) hq6) he with⟨a',hE,rfl,hd',ht',_⟩|⟨x7,D7,F7,hE,rfl,M7,hq7,_,_⟩
    ·exact FIND _ _ HF.1.2 (NEED.o a' w7 (R6.o.symm.trans (ag hE)) hd' ht')
    have R7:=hQQ ((aj hE).symm.trans R6.o)
    have M7:=hQQ M7
    clear he hE
    refine hK _ _ (KL.o _ _ _ M7.o) fun A β14 HF=>?_
    clear hK K
    exact bI (by kernel_rfl) (FINE _ _ ⟨(.pointer (some ⟨p,0,none⟩)),(.agg c.arr),(.agg c.arr),(.int .i64 cl),(.int .i64 f),(.int .i64 (-1)),(.pointer (some ⟨p,0,none⟩)),(.agg c.arr),(.agg c.arr),(.int .i64 q),(.int .i64 (aF c.pg c.st cl f)),(.int .i64 (nA c.pg c.st q)),(.int .i64 x6),(.tuple #[]),D7,F7,by rw[← β14,← β13,← β12,← β11,← β10,← β9,← β8,← β7,← β6,← β5,← β4,← β3,← β2,← β1]<;>rfl,M7.o,R7.o⟩)
   ·obtain⟨g,rfl,_,_,hcell⟩:=hrd 0 (by omega)
    have d0:decide ((0:Int)<(xs.length:Int))=true:=by simp;omega
    have hlast:xs.getD (xs.length-1) 0=cy xs:=by
     unfold cy
     rw[List.getD_eq_getElem?_getD,List.getD_eq_getElem?_getD,List.getElem?_eq_getElem (by omega)]
     rfl
    have hc:=hcell (xs.length-1) (by omega)
    rw[hlast] at hc
    obtain⟨m,hm⟩:∃m:Nat,xs.length=m+1:=⟨xs.length-1,by omega⟩
    rw[hm] at hc⊢
    have hc:w3.cell? ⟨g,m,none⟩=some (.int .i64 (cy xs)):=hc
    have hm9:m<9000000000000000000:=by omega
    have q1:IntKind.i64.wrap (((m+1:Nat):Int)-1)=(m:Int):=by rw[show((m+1:Nat):Int)-1=(m:Int) by omega];exact az (by omega) (by omega)
    have d1:decide ((0:Int)<((m+1:Nat):Int))=true:=by simp
    clear R2 hrd h0 HU hcell hlast hm d0
    go_wp2_with fail
    clear hc
    refine aM (TrC c w.heap.size) (by kernel_rfl) ?_
    have MR:=hQQ (M3.o.more ((ae.refl w3).drewN 1))
    change dc _ _ _ _ _ _ _ _ (w3.drewN 1)
    generalize w3.drewN 1=wr at MR⊢
    generalize hA:Act.mk _ _=A
    have HF:AG 63 A [(0,.pointer (some ⟨p,0,none⟩)),(1,.agg c.arr),(2,.int .i64 q),(3,.int .i64 cl),(4,.int .i64 f),(6,.pointer (some ⟨w.heap.size,0,none⟩)),(13,.int .i64 (cy xs))]:=by
     rw[←hA];try simp only[pts,List.foldl]
     refine⟨⟨Nat.le_of_ble_eq_true rfl,rfl⟩,?_⟩
     intro z hz;simp only[List.mem_cons,List.not_mem_nil,or_false] at hz;rcases hz with rfl|rfl|rfl|rfl|rfl|rfl|rfl<;>rfl
    refine bH (fun a W=>∃(u39 u40 u41 u42 u43 u45 u46 u47 u48 u49 u44 u50 u51 u52:Value) (D9:List KV) (F9:Nat→Prop),a=(pts A [(39,u39),(40,u40),(41,u41),(42,u42),(43,u43),(45,u45),(46,u46),(47,u47),(48,u48),(49,u49),(44,u44),(50,u50),(51,u51),(52,u52)])∧MidV w1 W F (fun _=>False) p kn n D9 F9∧ak (cM (nA c.pg c.st q) 0) (fun _=>ak (cM (vA c.pg c.st q) 0) fun _=>ay true) kn D9=Rr) (fun W=>aG w F p kn (fun b:Bool=>Value.bool b) Rr (.panicked (bg p)) W) (bg p) (fun a W hd h=>⟨hd,h⟩) (fun _ _ _ _ _ h=>h) ?_ ?_
    ·skip
     rintro a wa ⟨u39,u40,u41,u42,u43,u45,u46,u47,u48,u49,u44,u50,u51,u52,D7,F7,rfl,MS,RS⟩
     rw[←hA];try simp only[pts,List.foldl]
     have MS:=hQQ MS
     have LS:=hQQ (KL.o _ _ _ MS.o)
     have RS:=hQQ RS
     clear HF hA MR M3 R2' L3
     go_wp2_with (first|(refine aK rfl rfl rfl LS.o (by kernel_rfl) ?_)|(refine aK rfl rfl rfl LS.o (by kernel_rfl) ?_))
     refine(lX HR.o _ q).mono ?_
     rw[P3.o]
     rintro e w8 ⟨rfl,h8⟩
     have M8:=hQQ (MS.o.more h8)
     clear h8
     go_wp2_with fail
     refine(dk F7 p kn D7 _ 0 w8 M8.o.view (by have:=M8.o.inv.len;omega)).mono ?_
     intro e w9 he
     rcases M8.o.step (ae.refl _) HK.o (aQ n NB.o.1.2.2 NB.o.1.2.1 (by unfold W64;omega)) he with⟨a',hE,rfl,hd',ht',_⟩|⟨x9,D9,F9,hE,rfl,M9,hq9,_,_⟩
     ·exact⟨rfl,NEED.o a' w9 (RS.o.symm.trans (ag hE)) hd' ht'⟩
     have L9:=hQQ (KL.o _ _ _ M9)
     have R9:=hQQ ((aj hE).symm.trans RS.o)
     have M9:=hQQ M9
     clear he hE
     go_wp2_with (first|(refine aK rfl rfl rfl L9.o (by kernel_rfl) ?_)|(refine aK rfl rfl rfl L9.o (by kernel_rfl) ?_))
     refine(qD HR.o _ q).mono ?_
     rw[P4.o]
     rintro e w10 ⟨rfl,h10⟩
     have M10:=hQQ (M9.o.more h10)
     clear h10
     go_wp2_with fail
     refine(dk F9 p kn D9 _ 0 w10 M10.o.view (by have:=M10.o.inv.len;omega)).mono ?_
     intro e w11 he
     rcases M10.o.step (ae.refl _) HK.o (aQ n NB.o.2.2.2 NB.o.2.2.1 (by unfold W64;omega)) he with⟨a',hE,rfl,hd',ht',_⟩|⟨x11,D11,F11,hE,rfl,M11,hq11,_,_⟩
     ·exact⟨rfl,NEED.o a' w11 (R9.o.symm.trans (ag hE)) hd' ht'⟩
     have FIN:=hQQ (DONE.o true w11 D11 F11 (R9.o.symm.trans (aj hE)) M11)
     clear he hE M11
     go_wp2_with fail
     go_ret
     exact FIN.o
    intro QQ FINE FIND FINQ
    clear hA
    refine tqM 0 39 0 rfl (.inl rfl) rfl (by kernel_rfl) FINQ (KL.o _ _ _ MR.o) HF fun A β1 HF=>?_
    refine tqC 1 40 (.agg c.arr) (by kernel_rfl) FINQ (KL.o _ _ _ MR.o) HF (by exact aC (ab rfl) 28 _ rfl w.heap.size (HF.get 6 rfl) 28 _ _ _ (fun W hW=>hW) Tryz.underlying28 rfl (by kernel_rfl)) fun A β2 HF=>?_
    refine tqC 2 41 (.agg c.arr) (by kernel_rfl) FINQ (KL.o _ _ _ MR.o) HF (by exact aC (ab rfl) 28 _ rfl w.heap.size (HF.get 7 rfl) 28 _ _ _ (fun W hW=>hW) Tryz.underlying28 rfl (by kernel_rfl)) fun A β3 HF=>?_
    refine tqM 3 42 6 rfl (.inl rfl) rfl (by kernel_rfl) FINQ (KL.o _ _ _ MR.o) HF fun A β4 HF=>?_
    refine tqM 4 43 8 rfl (.inl rfl) rfl (by kernel_rfl) FINQ (KL.o _ _ _ MR.o) HF fun A β5 HF=>?_
    refine tqM 6 45 11 rfl (.inl rfl) rfl (by kernel_rfl) FINQ (KL.o _ _ _ MR.o) HF fun A β6 HF=>?_
    refine tqM 7 46 6 rfl (.inl rfl) rfl (by kernel_rfl) FINQ (KL.o _ _ _ MR.o) HF fun A β7 HF=>?_
    refine tqC 8 47 (.agg c.arr) (by kernel_rfl) FINQ (KL.o _ _ _ MR.o) HF (by exact aC (ab rfl) 28 _ rfl w.heap.size (HF.get 12 rfl) 28 _ _ _ (fun W hW=>hW) Tryz.underlying28 rfl (by kernel_rfl)) fun A β8 HF=>?_
    refine tqC 9 48 (.agg c.arr) (by kernel_rfl) FINQ (KL.o _ _ _ MR.o) HF (by exact aC (ab rfl) 28 _ rfl w.heap.size (HF.get 13 rfl) 28 _ _ _ (fun W hW=>hW) Tryz.underlying28 rfl (by kernel_rfl)) fun A β9 HF=>?_
    refine tqM 10 49 11 rfl (.inl rfl) rfl (by kernel_rfl) FINQ (KL.o _ _ _ MR.o) HF fun A β10 HF=>?_
    refine tqO 5 44 (by kernel_rfl) HF fun K hK=>?_
    refine du (v0:=.agg c.arr) (v1:=.int .i64 cl) (v2:=.int .i64 f) rfl (HF.get 7 rfl) (HF.get 6 rfl) (HF.get 5 rfl) (enters_of Tryz.func93 (by kernel_rfl) rfl) ?_
    refine(kX HR.o wr cl f).mono ?_
    rintro e w4 ⟨rfl,h4⟩
    have M4:=hQQ (MR.o.more h4)
    clear h4
    refine hK _ _ (KL.o _ _ _ M4.o) fun A β11 HF=>?_
    clear hK K
    refine tqO 11 50 (by kernel_rfl) HF fun K hK=>?_
    refine bO (v0:=.agg c.arr) (v1:=.int .i64 q) rfl (HF.get 2 rfl) (HF.get 1 rfl) (enters_of Tryz.func136 (by kernel_rfl) rfl) ?_
    refine(lX HR.o w4 q).mono ?_
    rw[P3.o]
    rintro e w5 ⟨rfl,h5⟩
    have M5:=hQQ (M4.o.more h5)
    clear h5
    refine hK _ _ (KL.o _ _ _ M5.o) fun A β12 HF=>?_
    clear hK K
    refine tqO 12 51 (by kernel_rfl) HF fun K hK=>?_
    refine du (v0:=.pointer (some ⟨p,0,none⟩)) (v1:=.agg c.arr) (v2:=.int .i64 (nA c.pg c.st q)) rfl (HF.get 5 rfl) (HF.get 4 rfl) (HF.get 0 rfl) (enters_of Tryz.func92 (by kernel_rfl) rfl) ?_
    refine(lY HR.o HH.o F2 p kn D2 (nA c.pg c.st q) NB.o.1.2.2 NB.o.1.2.1 w5 M5.o.view HK.o M5.o.inv).mono ?_
    intro e w6 he
    rcases M5.o.step (ae.refl _) HK.o (dl HH.o NB.o.1.2.1) he with⟨a',hE,rfl,hd',ht',_⟩|⟨x6,D6,F6,hE,rfl,M6,hq6,_,_⟩
    ·exact FIND _ _ HF.1.2 (NEED.o a' w6 (R2'.o.symm.trans (ag hE)) hd' ht')
    have R6:=hQQ ((aj hE).symm.trans R2'.o)
    have M6:=hQQ M6
    clear he hE
    refine hK _ _ (KL.o _ _ _ M6.o) fun A β13 HF=>?_
    clear hK K
    refine tqO 13 52 (by kernel_rfl) HF fun K hK=>?_
    refine kb (v0:=.pointer (some ⟨p,0,none⟩)) (v1:=.agg c.arr) (v2:=.int .i64 (aF c.pg c.st cl f)) (v3:=.int .i64 (cy xs)) (v4:=.int .i64 x6) rfl (HF.get 12 rfl) (HF.get 11 rfl) (HF.get 2 rfl) (HF.get 7 rfl) (HF.get 0 rfl) (enters_of Tryz.func146 (by kernel_rfl) rfl) ?_
    refine(rU HR.o HH.o hn F6 p kn D6 (aF c.pg c.st cl f) (cy xs) x6 (bD HH.o).2.2 (bD HH.o).2.1 (kW HH.o HXS.o) hq6 w6 M6.o.view HK.o M6.o.inv).mono ?_
    intro e w7 he
    rcases M6.o.step (ae.refl _) HK.o (dR HH.o (bD HH.o).2.2 (bD HH.o).2.1 (kW HH.o HXS.o) hq6) he with⟨a',hE,rfl,hd',ht',_⟩|⟨x7,D7,F7,hE,rfl,M7,hq7,_,_⟩
    ·exact FIND _ _ HF.1.2 (NEED.o a' w7 (R6.o.symm.trans (ag hE)) hd' ht')
    have R7:=hQQ ((aj hE).symm.trans R6.o)
    have M7:=hQQ M7
    clear he hE
    refine hK _ _ (KL.o _ _ _ M7.o) fun A β14 HF=>?_
    clear hK K
    exact bI (by kernel_rfl) (FINE _ _ ⟨(.pointer (some ⟨p,0,none⟩)),(.agg c.arr),(.agg c.arr),(.int .i64 cl),(.int .i64 f),(.int .i64 (cy xs)),(.pointer (some ⟨p,0,none⟩)),(.agg c.arr),(.agg c.arr),(.int .i64 q),(.int .i64 (aF c.pg c.st cl f)),(.int .i64 (nA c.pg c.st q)),(.int .i64 x6),(.tuple #[]),D7,F7,by rw[← β14,← β13,← β12,← β11,← β10,← β9,← β8,← β7,← β6,← β5,← β4,← β3,← β2,← β1]<;>rfl,M7.o,R7.o⟩)
theorem zr {c:Cfg}(R:c.Ok){n:Nat}(H:cB c.pg c.st n)(p:Nat)(nd a:Int)(w:World)(hd:bB w p nd):
 Calls Tryz.prog 92 #[.pointer (some ⟨p,0,none⟩),.agg c.arr,.int .i64 a] w (aP w (.int .i64 (-1))):=by
 obtain⟨w1,e1,hl1,m1,s1⟩:=a6 w (.cells c.arr 28)
 have MM:=hQQ m1
 have L0:=hQQ hl1
 have DD:Hq (∀W,ae w1 W→bB W p nd):=hQQ fun W m=>(hd.keep m1 (fun q=>q)).keep m (fun q=>q)
 have HR:=hQQ R
 have HH:=hQQ H
 clear hl1 m1 hd R H
 have q0:IntKind.i64.wrap (0-1)= -1:=by decide
 have hb:af c.pg (-1)=false:=by
  cases e:af c.pg (-1) with
  |false=>rfl
  |true=>have:=ax.1 e;omega
 by_cases a0:a=0
 ·have d0:(a==0)=true:=by simp[a0]
  clear a0
  go_enter Tryz.func92,Tryz.ntmps92
  go_wp2_with fail
  go_ret
  exact⟨rfl,MM.o⟩
 ·have d0:(a==0)=false:=by simp[a0]
  clear a0
  go_enter Tryz.func92,Tryz.ntmps92
  go_wp2_with fail
  refine(vB p nd a w1 (DD.o _ (ae.refl _))).mono ?_
  rintro e w2 ⟨rfl,rfl⟩
  go_wp2_with (first|(refine aK rfl rfl rfl L0.o (by kernel_rfl) ?_)|(refine aK rfl rfl rfl L0.o (by kernel_rfl) ?_))
  refine(iq HR.o HH.o (-1) _).mono ?_
  rw[hb]
  rintro e w3 ⟨rfl,h3⟩
  have FIN:=hQQ (MM.o.trans h3)
  clear h3
  go_wp2_with fail
  go_ret
  exact⟨rfl,FIN.o⟩
theorem DC {c:Cfg}(R:c.Ok){n:Nat}(H:cB c.pg c.st n)(p:Nat)(nd h x y:Int)(w:World)(hd:bB w p nd):
 Calls Tryz.prog 146 #[.pointer (some ⟨p,0,none⟩),.agg c.arr,.int .i64 h,.int .i64 x,.int .i64 y] w (aP w (.tuple #[])):=by
 obtain⟨w1,e1,hl1,m1,s1⟩:=a6 w (.cells c.arr 28)
 have MM:=hQQ m1
 have L0:=hQQ hl1
 have DD:Hq (∀W,ae w1 W→bB W p nd):=hQQ fun W m=>(hd.keep m1 (fun q=>q)).keep m (fun q=>q)
 have HR:=hQQ R
 have HH:=hQQ H
 clear hl1 m1 hd R H
 have M0:Hq (ae w1 w1):=hQQ (ae.refl _)
 by_cases ex:x= -1
 ·have d0:(x== -1)=true:=by simp[ex]
  clear ex
  go_enter Tryz.func146,Tryz.ntmps146
  go_wp2_with fail
  refine(kJ p nd _ _ _ (DD.o _ M0.o)).mono ?_
  rintro e w2 ⟨rfl,rfl⟩
  by_cases ey:y= -1
  ·have d1:(y != -1)=false:=by simp[ey]
   have d2:(y== -1)=true:=by simp[ey]
   have FIN:=hQQ (MM.o.trans M0.o)
   clear ey
   go_wp2_with fail
   go_end0
   exact⟨rfl,FIN.o⟩
  ·have d1:(y != -1)=true:=by simpa using ey
   have d2:(y== -1)=false:=by simpa using ey
   clear ey
   go_wp2_with (first|(refine aK rfl rfl rfl L0.o (by kernel_rfl) ?_)|(refine aK rfl rfl rfl L0.o (by kernel_rfl) ?_))
   refine(qD HR.o _ y).mono ?_
   rintro e w7 ⟨rfl,h7⟩
   have M7:=hQQ (M0.o.trans h7)
   have L7:=hQQ (h7.block L0.o)
   clear h7
   have FIN:=hQQ (MM.o.trans M7.o)
   go_wp2_with fail
   refine(kJ p nd _ _ _ (DD.o _ M7.o)).mono ?_
   rintro e w8 ⟨rfl,rfl⟩
   go_wp2_with fail
   go_end0
   exact⟨rfl,FIN.o⟩
 ·have d0:(x== -1)=false:=by simp[ex]
  clear ex
  go_enter Tryz.func146,Tryz.ntmps146
  go_wp2_with (first|(refine aK rfl rfl rfl L0.o (by kernel_rfl) ?_)|(refine aK rfl rfl rfl L0.o (by kernel_rfl) ?_))
  refine(lX HR.o _ x).mono ?_
  rintro e w5 ⟨rfl,h5⟩
  have M5:=hQQ (M0.o.trans h5)
  have L5:=hQQ (h5.block L0.o)
  clear h5
  go_wp2_with fail
  refine(kJ p nd _ _ _ (DD.o _ M5.o)).mono ?_
  rintro e w2 ⟨rfl,rfl⟩
  by_cases ey:y= -1
  ·have d1:(y != -1)=false:=by simp[ey]
   have d2:(y== -1)=true:=by simp[ey]
   have FIN:=hQQ (MM.o.trans M5.o)
   clear ey
   go_wp2_with fail
   go_end0
   exact⟨rfl,FIN.o⟩
  ·have d1:(y != -1)=true:=by simpa using ey
   have d2:(y== -1)=false:=by simpa using ey
   clear ey
   go_wp2_with (first|(refine aK rfl rfl rfl L5.o (by kernel_rfl) ?_)|(refine aK rfl rfl rfl L5.o (by kernel_rfl) ?_))
   refine(qD HR.o _ y).mono ?_
   rintro e w7 ⟨rfl,h7⟩
   have M7:=hQQ (M5.o.trans h7)
   have L7:=hQQ (h7.block L5.o)
   clear h7
   have FIN:=hQQ (MM.o.trans M7.o)
   go_wp2_with fail
   refine(kJ p nd _ _ _ (DD.o _ M7.o)).mono ?_
   rintro e w8 ⟨rfl,rfl⟩
   go_wp2_with fail
   go_end0
   exact⟨rfl,FIN.o⟩
theorem BO {c:Cfg}(R:c.Ok){n:Nat}(H:cB c.pg c.st n)(p:Nat)(nd q cl f:Int)(hq:af c.pg q=true)(w:World)(hd:bB w p nd):
 Calls Tryz.prog 145 #[.pointer (some ⟨p,0,none⟩),.agg c.arr,.int .i64 q,.int .i64 cl,.int .i64 f] w (aP w (.tuple #[.slice none 0 0,.bool false])):=by
 obtain⟨w1,e1,hl1,m1,s1⟩:=a6 w (.cells c.arr 28)
 have MM:=hQQ m1
 have L0:=hQQ hl1
 have DD:Hq (∀W,ae w1 W→bB W p nd):=hQQ fun W m=>(hd.keep m1 (fun q=>q)).keep m (fun q=>q)
 have HR:=hQQ R
 have HH:=hQQ H
 clear hl1 m1 hd R H
 have hfl:=fD c
 have pg1:=HR.o.pg1
 have pg2:=HR.o.pg2
 have hqp:=ax.1 hq
 have d4:(-1==q)=false:=by simp;omega
 have M0:Hq (ae w1 w1):=hQQ (ae.refl _)
 clear hq
 go_enter Tryz.func145,Tryz.ntmps145
 go_wp2_with fail
 refine wp_scope_jumps 0 (fun a' w'=>∃(u12 u13 u14 u15 u16 u17 u18 u19 u20 u21 u22 u23 u24 u25 u26 u27 u28 u29 u30 u31 u32 u33 u34 u35 u36 u37 u38 u39 u40 u41 u42:Value),a'= { tmps:= #[.pointer (some ⟨p,0,none⟩),.agg c.arr,.int .i64 q,.int .i64 cl,.int .i64 f,undef,.pointer (some ⟨w.heap.size,0,none⟩),undef,undef,undef,.slice none 0 0,.bool false,u12,u13,u14,u15,u16,u17,u18,u19,u20,u21,u22,u23,u24,u25,u26,u27,u28,u29,u30,u31,u32,u33,u34,u35,u36,u37,u38,u39,u40,u41,u42],defers:= [] } ∧ae w1 w') (fun _ _=>0) rfl ?_ ?_
 ·go_wp2_with (first|(refine aK rfl rfl rfl L0.o (by kernel_rfl) ?_)|(refine aK rfl rfl rfl L0.o (by kernel_rfl) ?_))
  refine(kX HR.o _ cl f).mono ?_
  rintro e w2 ⟨rfl,h2⟩
  have M2:=hQQ (M0.o.trans h2)
  have L2:=hQQ (h2.block L0.o)
  clear h2
  go_wp2_with (first|(refine aK rfl rfl rfl L2.o (by kernel_rfl) ?_)|(refine aK rfl rfl rfl L2.o (by kernel_rfl) ?_))
  refine(dD HR.o _).mono ?_
  rintro e w3 ⟨rfl,h3⟩
  have M3:=hQQ (M2.o.trans h3)
  have L3:=hQQ (h3.block L2.o)
  clear h3
  go_wp2_with fail
  go_loopw [10,11,12,21] (fun v10 v11 v12 v21 wr=>v10=.slice none 0 0∧v11=.bool false∧v21=.int .i64 0∧v12=.int .i64 (aF c.pg c.st cl f)∧ae w1 wr) (fun _ _ _ _ _=>0)
  case atStart=>exact⟨rfl,rfl,rfl,rfl,M3.o⟩
  case round =>
   clear M3 L3
   obtain⟨rfl,rfl,rfl,rfl,mr⟩:=hrel
   have MI:=hQQ mr
   have LI:=hQQ (mr.block L0.o)
   clear mr
   have d3:decide ((0:Int)<c.pg)=true:=by simp;omega
   go_wp2_with (first|(refine aK rfl rfl rfl LI.o (by kernel_rfl) ?_)|(refine aK rfl rfl rfl LI.o (by kernel_rfl) ?_))
   refine(zr HR.o HH.o p nd _ wr (DD.o _ MI.o)).mono ?_
   rintro e w4 ⟨rfl,h4⟩
   have M4:=hQQ (MI.o.trans h4)
   clear h4
   go_wp2_with fail
   go_step3
   refine⟨rfl,_,_,_,_,_,_,_,_,_,_,_,_,_,_,_,_,_,_,_,_,_,_,_,_,_,_,_,_,_,_,_,rfl,M4.o⟩
 ·rintro a w' ⟨u12,u13,u14,u15,u16,u17,u18,u19,u20,u21,u22,u23,u24,u25,u26,u27,u28,u29,u30,u31,u32,u33,u34,u35,u36,u37,u38,u39,u40,u41,u42,rfl,mf⟩
  have FIN:=hQQ (MM.o.trans mf)
  clear mf
  go_wp2_with fail
  go_ret2
  exact⟨rfl,FIN.o⟩
theorem Fb {c:Cfg}(R:c.Ok){n:Nat}(H:cB c.pg c.st n)(p:Nat)(nd q k f:Int)(w:World)(hd:bB w p nd):
 Calls Tryz.prog 130 #[.pointer (some ⟨p,0,none⟩),.agg c.arr,.int .i64 q,.int .i64 k,.int .i64 f] w (aP w (.bool false)):=by
 obtain⟨w1,e1,hl1,m1,s1⟩:=a6 w (.cells c.arr 28)
 have MM:=hQQ m1
 have L0:=hQQ hl1
 have DD:Hq (∀W,ae w1 W→bB W p nd):=hQQ fun W m=>(hd.keep m1 (fun q=>q)).keep m (fun q=>q)
 have HR:=hQQ R
 have HH:=hQQ H
 clear hl1 m1 hd R H
 go_enter Tryz.func130,Tryz.ntmps130
 go_wp2_with (first|(refine aK rfl rfl rfl L0.o (by kernel_rfl) ?_)|(refine aK rfl rfl rfl L0.o (by kernel_rfl) ?_))
 refine(iq HR.o HH.o q _).mono ?_
 cases hq:af c.pg q with
 |false =>
  rintro e w2 ⟨rfl,h2⟩
  have FIN:=hQQ (MM.o.trans h2)
  clear h2
  go_wp2_with fail
  go_ret
  exact⟨rfl,FIN.o⟩
 |true =>
  rintro e w2 ⟨rfl,h2⟩
  have M2:=hQQ h2
  have L2:=hQQ (h2.block L0.o)
  clear h2
  go_wp2_with (first|(refine aK rfl rfl rfl L2.o (by kernel_rfl) ?_)|(refine aK rfl rfl rfl L2.o (by kernel_rfl) ?_))
  refine(BO HR.o HH.o p nd q k f hq w2 (DD.o _ M2.o)).mono ?_
  rintro e w3 ⟨rfl,h3⟩
  have FIN:=hQQ (MM.o.trans (M2.o.trans h3))
  clear h3
  go_wp2_with fail
  go_ret
  exact⟨rfl,FIN.o⟩
theorem Ks {c:Cfg}(R:c.Ok){n:Nat}(H:cB c.pg c.st n)(p:Nat)(nd q k f:Int)(w:World)(hd:bB w p nd):
 Calls Tryz.prog 131 #[.pointer (some ⟨p,0,none⟩),.agg c.arr,.int .i64 q,.int .i64 k,.int .i64 f] w (aP w (.bool (aF c.pg c.st k f != 0 && af c.pg q))):=by
 obtain⟨w1,e1,hl1,m1,s1⟩:=a6 w (.cells c.arr 28)
 have MM:=hQQ m1
 have L0:=hQQ hl1
 have DD:Hq (∀W,ae w1 W→bB W p nd):=hQQ fun W m=>(hd.keep m1 (fun q=>q)).keep m (fun q=>q)
 have HR:=hQQ R
 have HH:=hQQ H
 clear hl1 m1 hd R H
 obtain⟨hv,hhv⟩:∃hv,aF c.pg c.st k f=hv:=⟨_,rfl⟩
 have YH:=hQQ (fun W=>kX HR.o W k f)
 rw[hhv] at YH⊢
 clear hhv
 go_enter Tryz.func131,Tryz.ntmps131
 go_wp2_with (first|(refine aK rfl rfl rfl L0.o (by kernel_rfl) ?_)|(refine aK rfl rfl rfl L0.o (by kernel_rfl) ?_))
 refine(YH.o _).mono ?_
 rintro e w2 ⟨rfl,h2⟩
 have M2:=hQQ h2
 have L2:=hQQ (h2.block L0.o)
 clear h2
 by_cases hz:hv=0
 ·have d0:(hv==0)=true:=by simp[hz]
  have FIN:=hQQ (MM.o.trans M2.o)
  have HZ:=hQQ (show(hv != 0 && af c.pg q)=false by simp[hz])
  clear hz
  go_wp2_with fail
  go_ret
  exact⟨by rw[HZ.o];rfl,FIN.o⟩
 have d0:(hv==0)=false:=by simp[hz]
 have HZ:=hQQ (show(hv != 0 && af c.pg q)=af c.pg q by simp[hz])
 clear hz
 go_wp2_with (first|(refine aK rfl rfl rfl L2.o (by kernel_rfl) ?_)|(refine aK rfl rfl rfl L2.o (by kernel_rfl) ?_))
 refine(iq HR.o HH.o q _).mono ?_
 cases hq:af c.pg q with
 |false =>
  rintro e w3 ⟨rfl,h3⟩
  have FIN:=hQQ (MM.o.trans (M2.o.trans h3))
  clear h3
  go_wp2_with fail
  go_ret
  exact⟨by rw[HZ.o,hq];rfl,FIN.o⟩
 |true =>
  rintro e w3 ⟨rfl,h3⟩
  have M3:=hQQ (M2.o.trans h3)
  have L3:=hQQ (h3.block L2.o)
  clear h3
  have DL:=hQQ (fun W (hW:ae w3 W)=>zr HR.o HH.o p nd hv W (DD.o _ (M3.o.trans hW)))
  have DJ:=hQQ (fun W (hW:ae w3 W)=>DC HR.o HH.o p nd hv q (-1) W (DD.o _ (M3.o.trans hW)))
  go_wp2_with fail
  refine bS (by kernel_rfl) (by kernel_rfl) ?_
  iterate 1
   with_reducible refine wpQuiet_step (fun K hK=>?_)
   go_simp
   first
   |(refine hK _ ?_;clear hK K)
   |(apply Exists.intro
     refine⟨fun W hW=>?_,hK _ ?_⟩
     first
     |(go_simp;try rfl)
     clear hK K)
  refine aN rfl 28 _ rfl _ rfl 28 _ _ _ (fun W hW=>hW.block L3.o) Tryz.underlying28 rfl (by kernel_rfl) ?_
  iterate 3
   with_reducible refine wpQuiet_step (fun K hK=>?_)
   go_simp
   first
   |(refine hK _ ?_;clear hK K)
   |(apply Exists.intro
     refine⟨fun W hW=>?_,hK _ ?_⟩
     first
     |(go_simp;try rfl)
     clear hK K)
  refine aN rfl 28 _ rfl _ rfl 28 _ _ _ (fun W hW=>hW.block L3.o) Tryz.underlying28 rfl (by kernel_rfl) ?_
  iterate 2
   with_reducible refine wpQuiet_step (fun K hK=>?_)
   go_simp
   first
   |(refine hK _ ?_;clear hK K)
   |(apply Exists.intro
     refine⟨fun W hW=>?_,hK _ ?_⟩
     first
     |(go_at_call 92;exact Calls.more hW (DL.o W hW))
     |(go_simp;try rfl)
     clear hK K)
  iterate 1
   with_reducible refine wpQuiet_step (fun K hK=>?_)
   go_simp
   first
   |(refine hK _ ?_;clear hK K)
   |(apply Exists.intro
     refine⟨fun W hW=>?_,hK _ ?_⟩
     first
     |(go_at_call 146;exact Calls.more hW (DJ.o W hW))
     |(go_simp;try rfl)
     clear hK K)
  refine wpQuiet_nil ?_
  intro w5 h5
  have M5:=hQQ (M3.o.trans h5)
  have L5:=hQQ (h5.block L3.o)
  clear h5
  go_wp2_with (first|(refine aK rfl rfl rfl L5.o (by kernel_rfl) ?_)|(refine aK rfl rfl rfl L5.o (by kernel_rfl) ?_))
  refine(DC HR.o HH.o p nd hv (-1) q w5 (DD.o _ M5.o)).mono ?_
  rintro e w6 ⟨rfl,h6⟩
  have FIN:=hQQ (MM.o.trans (M5.o.trans h6))
  clear h6
  go_wp2_with fail
  go_ret
  exact⟨by rw[HZ.o,hq];rfl,FIN.o⟩
theorem BT {c:Cfg}(R:c.Ok)(w:World)(k:Int):Calls Tryz.prog 90 #[.agg c.arr,.int .i64 k] w (aP w (.int .i64 (dC c.pg c.st 0 k))):=Oy R w k
theorem pz {c:Cfg}(R:c.Ok)(w:World)(k:Int):Calls Tryz.prog 134 #[.agg c.arr,.int .i64 k] w (aP w (.int .i64 (dC c.pg c.st 1 k))):=G8 R w k
theorem Nd {c:Cfg}(R:c.Ok)(w:World)(k:Int):Calls Tryz.prog 108 #[.agg c.arr,.int .i64 k] w (aP w (.int .i64 (dC c.pg c.st 2 k))):=Me R w k
theorem ti {c:Cfg}(R:c.Ok){n:Nat}(H:PgIn c.pg c.st n)(F:Nat→Prop)(p:Nat)(kn:Int→Option Int)(D:List KV)(q:Int)(w:World)(hv:aD w F p kn D)(hk:OkK kn)(hD:cC n D):
 Calls Tryz.prog 51 #[.pointer (some ⟨p,0,none⟩),.agg c.arr,.int .i64 q] w (aG w F p kn (fun x=> .int .i64 x) (fh c.pg c.st q kn D)):=by
 obtain⟨Rr,hRr⟩:∃Rr,fh c.pg c.st q kn D=Rr:=⟨_,rfl⟩
 rw[hRr]
 obtain⟨w1,e1,hl1,m1,s1⟩:=a6 w (.cells c.arr 28)
 have nFl:¬F w.heap.size:=fun q=>by have:=hv.lt _ q;omega
 have MM:=hQQ m1
 have L0:=hQQ hl1
 have M0:=m0Z (hv.more m1) hD
 have KL:=klZ (p:=p) (kn:=kn) (n:=n) L0.o nFl
 have NEED:=ndZ (F:=F) (p:=p) (kn:=kn) (R:=Rr) (fun x:Int=>Value.int .i64 x) MM.o
 have DONE:=dnZ (F:=F) (p:=p) (n:=n) (kn:=kn) (R:=Rr) (fun x:Int=>Value.int .i64 x) MM.o
 have HK:=hQQ hk
 have HR:=hQQ R
 have HH:=hQQ H
 clear hl1 m1 hv hD hk R H nFl
 unfold fh at hRr
 cases h:af c.pg q with
 |false =>
  rw[h] at hRr
  have FIN:Hq (∀w2,ae w1 w2→aG w F p kn (fun x:Int=>Value.int .i64 x) Rr (.returned (.int .i64 (-1))) w2):=hQQ fun w2 m=>DONE.o (-1) w2 D F hRr.symm (M0.o.more m)
  clear hRr
  go_enter Tryz.func51,Tryz.ntmps51
  go_wp2_with (first|(refine aK rfl rfl rfl L0.o (by kernel_rfl) ?_)|(refine aK rfl rfl rfl L0.o (by kernel_rfl) ?_))
  refine(BT HR.o _ q).mono ?_
  rw[Ml h]
  rintro e w2 ⟨rfl,h2⟩
  have H2:=hQQ h2
  clear h2
  go_wp2_with fail
  go_ret
  exact FIN.o _ H2.o
 |true =>
  rw[h] at hRr
  have hRr2:cS (kA c.pg c.st q) kn D=Rr:=hRr
  obtain⟨⟨ha,_,hw⟩,_⟩:=cj HH.o h
  have nz:(kA c.pg c.st q==0)=false:=by simp;omega
  have RA:=hQQ (fun w2 (m:ae w1 w2)=>jj F p kn D (kA c.pg c.st q) w2 (M0.o.view.more m) hw)
  have HRr:=hQQ hRr2
  clear hRr hRr2 hw ha
  go_enter Tryz.func51,Tryz.ntmps51
  go_wp2_with (first|(refine aK rfl rfl rfl L0.o (by kernel_rfl) ?_)|(refine aK rfl rfl rfl L0.o (by kernel_rfl) ?_))
  refine(BT HR.o _ q).mono ?_
  rw[Mk h]
  rintro e w2 ⟨rfl,h2⟩
  have H2:=hQQ h2
  clear h2
  go_wp2_with fail
  refine(RA.o _ H2.o).mono ?_
  rw[HRr.o]
  intro e w3 he
  rcases jl he with⟨a,_,rfl⟩|⟨x,D',_,rfl⟩
  ·exact⟨rfl,he.after (MM.o.trans H2.o)⟩
  ·have FIN:=hQQ (he.after (MM.o.trans H2.o))
   clear he
   go_wp2_with fail
   go_ret
   exact FIN.o
theorem zt {c:Cfg}(R:c.Ok){n:Nat}(H:PgIn c.pg c.st n)(hn:n≤10000)(F:Nat→Prop)(p:Nat)(kn:Int→Option Int)(D:List KV)(q k x:Int)(hq:af c.pg q=true)(hk':W64 k)(hx:W64 x)(w:World)(hv:aD w F p kn D)(hk:OkK kn)(hD:cC n D):
 Calls Tryz.prog 150 #[.pointer (some ⟨p,0,none⟩),.agg c.arr,.int .i64 q,.int .i64 k,.int .i64 x] w (aG w F p kn (fun _:Unit=> .tuple #[]) (lD c.pg c.st q k x kn D)):=by
 obtain⟨Rr,hRr⟩:∃Rr,lD c.pg c.st q k x kn D=Rr:=⟨_,rfl⟩
 rw[hRr]
 obtain⟨w1,e1,hl1,m1,s1⟩:=a6 w (.cells c.arr 28)
 have nFl:¬F w.heap.size:=fun q=>by have:=hv.lt _ q;omega
 have MM:=hQQ m1
 have L0:=hQQ hl1
 have M0:=m0Z (hv.more m1) hD
 have KL:=klZ (p:=p) (kn:=kn) (n:=n) L0.o nFl
 have NEED:=ndZ (F:=F) (p:=p) (kn:=kn) (R:=Rr) (fun _:Unit=>Value.tuple #[]) MM.o
 have DONE:=dnZ (F:=F) (p:=p) (n:=n) (kn:=kn) (R:=Rr) (fun _:Unit=>Value.tuple #[]) MM.o
 have HK:=hQQ hk
 have HR:=hQQ R
 have HH:=hQQ H
 clear hl1 m1 hv hD hk R H nFl
 unfold lD at hRr
 have HRr:=hQQ hRr
 obtain⟨⟨_,a1,a2⟩,⟨_,b1,b2⟩,_,c1,c2⟩:=cj HH.o hq
 have G0:=hQQ (aQ n a2 a1 hk')
 have G1:=hQQ (aQ n b2 b1 hx)
 have G2:=hQQ (aQ n c2 c1 (show W64 0 by unfold W64;omega))
 have p0:=Mk (st:=c.st) hq
 have p1:=ta (st:=c.st) hq
 have p2:=DA (st:=c.st) hq
 have P0:=hQQ p0
 have P1:=hQQ p1
 have P2:=hQQ p2
 clear hRr a1 a2 b1 b2 c1 c2 p0 p1 p2 hk' hx
 go_enter Tryz.func150,Tryz.ntmps150
 go_wp2_with (first|(refine aK rfl rfl rfl L0.o (by kernel_rfl) ?_)|(refine aK rfl rfl rfl L0.o (by kernel_rfl) ?_))
 refine(BT HR.o _ q).mono ?_
 rw[P0.o]
 rintro e w2 ⟨rfl,h2⟩
 have M2:=hQQ (M0.o.more h2)
 have L2:=hQQ (KL.o _ _ _ M2.o)
 clear h2
 go_wp2_with fail
 refine(dk F p kn D _ k w2 M2.o.view (by have:=M2.o.inv.len;omega)).mono ?_
 intro e w3 he
 rcases M2.o.step (ae.refl _) HK.o G0.o he with⟨a',hE,rfl,hd',ht',_⟩|⟨x3,D3,F3,hE,rfl,M3,hq3,_,_⟩
 ·exact⟨rfl,NEED.o a' w3 (HRr.o.symm.trans (ag hE)) hd' ht'⟩
 have L3:=hQQ (KL.o _ _ _ M3)
 have R3:=hQQ ((aj hE).symm.trans HRr.o)
 have M3:=hQQ M3
 clear he hE
 go_wp2_with (first|(refine aK rfl rfl rfl L3.o (by kernel_rfl) ?_)|(refine aK rfl rfl rfl L3.o (by kernel_rfl) ?_))
 refine(pz HR.o _ q).mono ?_
 rw[P1.o]
 rintro e w4 ⟨rfl,h4⟩
 have M4:=hQQ (M3.o.more h4)
 have L4:=hQQ (KL.o _ _ _ M4.o)
 clear h4
 go_wp2_with fail
 refine(dk F3 p kn D3 _ x w4 M4.o.view (by have:=M4.o.inv.len;omega)).mono ?_
 intro e w5 he
 rcases M4.o.step (ae.refl _) HK.o G1.o he with⟨a',hE,rfl,hd',ht',_⟩|⟨x5,D5,F5,hE,rfl,M5,hq5,_,_⟩
 ·exact⟨rfl,NEED.o a' w5 (R3.o.symm.trans (ag hE)) hd' ht'⟩
 have L5:=hQQ (KL.o _ _ _ M5)
 have R5:=hQQ ((aj hE).symm.trans R3.o)
 have M5:=hQQ M5
 clear he hE
 go_wp2_with (first|(refine aK rfl rfl rfl L5.o (by kernel_rfl) ?_)|(refine aK rfl rfl rfl L5.o (by kernel_rfl) ?_))
 refine(Nd HR.o _ q).mono ?_
 rw[P2.o]
 rintro e w6 ⟨rfl,h6⟩
 have M6:=hQQ (M5.o.more h6)
 clear h6
 go_wp2_with fail
 refine(dk F5 p kn D5 _ 0 w6 M6.o.view (by have:=M6.o.inv.len;omega)).mono ?_
 intro e w7 he
 rcases M6.o.step (ae.refl _) HK.o G2.o he with⟨a',hE,rfl,hd',ht',_⟩|⟨x7,D7,F7,hE,rfl,M7,hq7,_,_⟩
 ·exact⟨rfl,NEED.o a' w7 (R5.o.symm.trans hE) hd' ht'⟩
 have FIN:=hQQ (DONE.o () w7 D7 F7 (R5.o.symm.trans hE) M7)
 clear he hE M7
 go_wp2_with fail
 go_end0
 exact FIN.o
theorem qE (k:Int)(w:World):Calls Tryz.prog 156 #[.int .i64 k] w (aP w (.bool (ou k))):=by
 by_cases h:1≤k
 ·rw[show ou k=decide (k≤5) by unfold ou;simp[h]]
  have d0:decide (1≤k)=true:=by simp[h]
  go_enter Tryz.func156,Tryz.ntmps156
  go_wp2_with fail
  go_ret
  exact⟨rfl,ae.refl _⟩
 ·rw[show ou k=false by unfold ou;simp[h]]
  have d0:decide (1≤k)=false:=by simp[h]
  go_enter Tryz.func156,Tryz.ntmps156
  go_wp2_with fail
  go_ret
  exact⟨rfl,ae.refl _⟩
theorem Ia (k m:Int)(w:World):Calls Tryz.prog 159 #[.int .i64 k,.int .i64 m] w (aP w (.bool (ow k m))):=by
 by_cases h:k=6
 ·subst h
  rw[show ow 6 m=true by unfold ow;simp]
  go_enter Tryz.func159,Tryz.ntmps159
  go_wp2_with fail
  go_ret
  exact⟨rfl,ae.refl _⟩
 ·have d0:(k==6)=false:=by simp[h]
  have d1:(m==1)=decide (m=1):=by by_cases q:m=1<;>simp[q]
  cases hc:ou k with
  |true =>
   rw[show ow k m=decide (m=1) by unfold ow;simp[h,hc]]
   go_enter Tryz.func159,Tryz.ntmps159
   go_wp2_with fail
   refine(qE k _).mono ?_
   rw[hc]
   rintro e w2 ⟨rfl,h2⟩
   have H2:=hQQ h2
   clear h2
   go_wp2_with fail
   go_ret
   exact⟨rfl,H2.o⟩
  |false =>
   rw[show ow k m=false by unfold ow;simp[h,hc]]
   go_enter Tryz.func159,Tryz.ntmps159
   go_wp2_with fail
   refine(qE k _).mono ?_
   rw[hc]
   rintro e w2 ⟨rfl,h2⟩
   have H2:=hQQ h2
   clear h2
   go_wp2_with fail
   go_ret
   exact⟨rfl,H2.o⟩
theorem Nf (x y:Int):(x != y)= !decide (x=y):=by by_cases q:x=y<;>simp[q]
theorem Kt {pg st:Int}{m:Nat}{q:Int} :pp pg st (m+1) q=ak (fh pg st q) (fun k=>if k=0 then pp pg st m (q+1) else ay false):=rfl
theorem Ib {c:Cfg}(R:c.Ok){n:Nat}(H:PgIn c.pg c.st n)(F:Nat→Prop)(p:Nat)(kn:Int→Option Int)(D:List KV)(q m:Int)(hq:W64 q)(w:World)(hv:aD w F p kn D)(hk:OkK kn)(hD:cC n D):
 Calls Tryz.prog 160 #[.pointer (some ⟨p,0,none⟩),.agg c.arr,.int .i64 q,.int .i64 m] w (aG w F p kn (fun b=> .bool b) (pq c.pg c.st q m kn D)):=by
 obtain⟨Rr,hRr⟩:∃Rr,pq c.pg c.st q m kn D=Rr:=⟨_,rfl⟩
 rw[hRr]
 obtain⟨w1,e1,hl1,m1,s1⟩:=a6 w (.cells c.arr 28)
 have nFl:¬F w.heap.size:=fun q=>by have:=hv.lt _ q;omega
 have MM:=hQQ m1
 have L0:=hQQ hl1
 have M0:=m0Z (hv.more m1) hD
 have KL:=klZ (p:=p) (kn:=kn) (n:=n) L0.o nFl
 have NEED:=ndZ (F:=F) (p:=p) (kn:=kn) (R:=Rr) (fun b:Bool=>Value.bool b) MM.o
 have DONE:=dnZ (F:=F) (p:=p) (n:=n) (kn:=kn) (R:=Rr) (fun b:Bool=>Value.bool b) MM.o
 have HK:=hQQ hk
 have HR:=hQQ R
 have HH:=hQQ H
 clear hl1 m1 hv hD hk R H nFl
 have hfl:=fD c
 unfold pq at hRr
 have pg1:=HR.o.pg1
 have pg2:=HR.o.pg2
 unfold W64 at hq
 by_cases a0:q<0
 ·have d0:decide (q<0)=true:=by simp[a0]
  have hth:ce c.pg q m=false:=by unfold ce;simp;omega
  rw[hth] at hRr
  have FIN:=hQQ (DONE.o false w1 D F hRr.symm M0.o)
  clear hRr
  go_enter Tryz.func160,Tryz.ntmps160
  go_wp2_with fail
  go_ret
  exact FIN.o
 have d0:decide (q<0)=false:=by simp;omega
 by_cases a1:m<1
 ·have d1:decide (m<1)=true:=by simp[a1]
  have hth:ce c.pg q m=false:=by unfold ce;simp;omega
  rw[hth] at hRr
  have FIN:=hQQ (DONE.o false w1 D F hRr.symm M0.o)
  clear hRr
  go_enter Tryz.func160,Tryz.ntmps160
  go_wp2_with fail
  go_ret
  exact FIN.o
 have d1:decide (m<1)=false:=by simp;omega
 have q1:IntKind.i64.wrap (c.pg-q)=c.pg-q:=az (by omega) (by omega)
 by_cases a2:c.pg-q<m
 ·have d2:decide (c.pg-q<m)=true:=by simp[a2]
  have hth:ce c.pg q m=false:=by unfold ce;simp;omega
  rw[hth] at hRr
  have FIN:Hq (∀w2,ae w1 w2→aG w F p kn (fun b:Bool=>Value.bool b) Rr (.returned (.bool false)) w2):=hQQ fun w2 h=>DONE.o false w2 D F hRr.symm (M0.o.more h)
  clear hRr
  go_enter Tryz.func160,Tryz.ntmps160
  go_wp2_with (first|(refine aK rfl rfl rfl L0.o (by kernel_rfl) ?_)|(refine aK rfl rfl rfl L0.o (by kernel_rfl) ?_))
  refine(dD HR.o _).mono ?_
  rintro e w2 ⟨rfl,h2⟩
  have H2:=hQQ h2
  clear h2
  go_wp2_with fail
  go_ret
  exact FIN.o _ H2.o
 have d2:decide (c.pg-q<m)=false:=by simp;omega
 have hth:ce c.pg q m=true:=dW.2 ⟨by omega,by omega,by omega⟩
 rw[hth,if_pos rfl] at hRr
 have HRr:=hQQ hRr
 have q2:IntKind.i64.wrap (q+m)=q+m:=az (by omega) (by omega)
 clear hRr
 go_enter Tryz.func160,Tryz.ntmps160
 go_wp2_with (first|(refine aK rfl rfl rfl L0.o (by kernel_rfl) ?_)|(refine aK rfl rfl rfl L0.o (by kernel_rfl) ?_))
 refine(dD HR.o _).mono ?_
 rintro e w2 ⟨rfl,h2⟩
 have START:=hQQ (And.intro (M0.o.more h2) HRr.o)
 clear h2 HRr
 go_wp2_with fail
 go_loopw [9] (fun v9 wr=>∃(i:Nat) (D':List KV) (F':Nat→Prop),v9=.int .i64 (q+(i:Int))∧(i:Int)≤m∧MidV w1 wr F (fun _=>False) p kn n D' F'∧pp c.pg c.st (m.toNat-i) (q+(i:Int)) kn D'=Rr) (fun v9 _=>(q+m-intOf v9).toNat)
 case atStart=>exact⟨0,D,F,by simp,by omega,START.o.1,by simpa using START.o.2⟩
 case round =>
  clear START
  obtain⟨i,D',F',rfl,hi,MI,hrest⟩:=hrel
  have MI:=hQQ MI
  have LI:=hQQ (KL.o _ _ _ MI.o)
  by_cases hlt:(i:Int)<m
  ·have d3:decide (q+(i:Int)<q+m)=true:=by simp;omega
   have q3:IntKind.i64.wrap (q+(i:Int)+1)=q+(i:Int)+1:=az (by omega) (by omega)
   rw[show m.toNat-i=(m.toNat-(i+1))+1 by omega,Kt] at hrest
   have RI:=hQQ hrest
   clear hrest
   go_wp2_with (first|(refine aK rfl rfl rfl LI.o (by kernel_rfl) ?_)|(refine aK rfl rfl rfl LI.o (by kernel_rfl) ?_))
   refine(ti HR.o HH.o F' p kn D' (q+(i:Int)) wr MI.o.view HK.o MI.o.inv).mono ?_
   intro e w4 he
   rcases MI.o.step (ae.refl _) HK.o (gp HH.o _) he with⟨a',hE,rfl,hd',ht',_⟩|⟨x4,D4,F4,hE,rfl,M4,hq4,_,_⟩
   ·exact⟨rfl,NEED.o a' w4 (RI.o.symm.trans (ag hE)) hd' ht'⟩
   have L4:=hQQ (KL.o _ _ _ M4)
   have R4:=hQQ ((aj hE).symm.trans RI.o)
   have M4:=hQQ M4
   clear he hE
   have b1:=Nf x4 0
   by_cases z:x4=0
   ·rw[show decide (x4=0)=true by simp[z]] at b1
    have NX:=hQQ (show pp c.pg c.st (m.toNat-(i+1)) (q+(i:Int)+1) kn D4=Rr from by have:=R4.o;rwa [if_pos z] at this)
    clear R4 z
    go_wp2_with fail
    go_roundw
    case rel=>exact⟨i+1,D4,F4,by go_num,by omega,M4.o,by rw[show q+((i+1:Nat):Int)=q+(i:Int)+1 by omega];exact NX.o⟩
    case measure=>simp[intOf];omega
   ·rw[show decide (x4=0)=false by simp[z]] at b1
    have FIN:=hQQ (DONE.o false w4 D4 F4 (by have:=R4.o;rw[if_neg z] at this;exact this.symm) M4.o)
    clear R4 z
    go_wp2_with fail
    go_ret
    exact FIN.o
  ·obtain rfl:(i:Int)=m:=by omega
   have d3:decide (q+(i:Int)<q+(i:Int))=false:=by simp
   have FIN:=hQQ (DONE.o true wr D' F' (by rw[show((i:Int).toNat-i)=0 by omega] at hrest;exact hrest.symm) MI.o)
   clear hrest
   go_wp2_with fail
   go_ret
   exact FIN.o
theorem BU {pg st:Int}{n:Nat}(H:PgIn pg st n)(p:Int):bQ n (fun k:Int=>af pg p=false→k= -1) (fh pg st p):=
 aO (fun h=>de (bb n (cj H h).1.2.1) (fun _ _ q=>by rw[h] at q;cases q)) (fun _=>ai n (fun _=>rfl))
theorem Ic {c:Cfg}(R:c.Ok){n:Nat}(H:PgIn c.pg c.st n)(F:Nat→Prop)(p:Nat)(kn:Int→Option Int)(D:List KV)(q:Int)(w:World)(hv:aD w F p kn D)(hk:OkK kn)(hD:cC n D):
 Calls Tryz.prog 149 #[.pointer (some ⟨p,0,none⟩),.agg c.arr,.int .i64 q] w (aG w F p kn (fun x=> .int .i64 x) (nT c.pg c.st q kn D)):=by
 obtain⟨Rr,hRr⟩:∃Rr,nT c.pg c.st q kn D=Rr:=⟨_,rfl⟩
 rw[hRr]
 obtain⟨w1,e1,hl1,m1,s1⟩:=a6 w (.cells c.arr 28)
 have nFl:¬F w.heap.size:=fun q=>by have:=hv.lt _ q;omega
 have MM:=hQQ m1
 have L0:=hQQ hl1
 have M0:=m0Z (hv.more m1) hD
 have KL:=klZ (p:=p) (kn:=kn) (n:=n) L0.o nFl
 have NEED:=ndZ (F:=F) (p:=p) (kn:=kn) (R:=Rr) (fun x:Int=>Value.int .i64 x) MM.o
 have DONE:=dnZ (F:=F) (p:=p) (n:=n) (kn:=kn) (R:=Rr) (fun x:Int=>Value.int .i64 x) MM.o
 have HK:=hQQ hk
 have HR:=hQQ R
 have HH:=hQQ H
 clear hl1 m1 hv hD hk R H nFl
 have hfl:=fD c
 unfold nT at hRr
 have pg1:=HR.o.pg1
 have pg2:=HR.o.pg2
 have HRr:=hQQ hRr
 clear hRr
 go_enter Tryz.func149,Tryz.ntmps149
 go_wp2_with (first|(refine aK rfl rfl rfl L0.o (by kernel_rfl) ?_)|(refine aK rfl rfl rfl L0.o (by kernel_rfl) ?_))
 refine(ti HR.o HH.o F p kn D q w1 M0.o.view HK.o M0.o.inv).mono ?_
 intro e w2 he
 rcases M0.o.step (ae.refl _) HK.o (BU HH.o _) he with⟨a',hE,rfl,hd',ht',_⟩|⟨x2,D2,F2,hE,rfl,M2,hq2,_,_⟩
 ·exact⟨rfl,NEED.o a' w2 (HRr.o.symm.trans (ag hE)) hd' ht'⟩
 have L2:=hQQ (KL.o _ _ _ M2)
 have R2:=hQQ ((aj hE).symm.trans HRr.o)
 have M2:=hQQ M2
 clear he hE
 go_wp2_with fail
 refine(qE x2 _).mono ?_
 rintro e w3 ⟨rfl,h3⟩
 have M3:=hQQ (M2.o.more h3)
 have L3:=hQQ (KL.o _ _ _ M3.o)
 clear h3
 have R3:=R2.o
 cases hc:ou x2 with
 |true =>
  rw[if_pos hc] at R3
  have FIN:=hQQ (DONE.o 1 w3 D2 F2 R3.symm M3.o)
  clear R3 R2
  go_wp2_with fail
  go_ret
  exact FIN.o
 |false =>
  rw[if_neg (by simp[hc])] at R3
  by_cases h6:x2=6
  ·rw[if_pos h6] at R3
   have b6:(x2==6)=true:=by simp[h6]
   have hpg:af c.pg q=true:=by
    cases hp:af c.pg q with
    |true=>rfl
    |false=>have:=hq2 hp;omega
   obtain⟨_,⟨_,_,hw64⟩,_⟩:=cj HH.o hpg
   have hpi:=ax.1 hpg
   have qs:IntKind.i64.wrap (c.pg-q)=c.pg-q:=az (by omega) (by omega)
   cases hN:dM kn D2 (cA c.pg c.st q) with
   |none =>
    have DIE:Hq (∀W,bB W p (cA c.pg c.st q)→Turned (fun b=>F b∨False) w1 W→aG w F p kn (fun x:Int=>Value.int .i64 x) Rr (.panicked (bg p)) W):=hQQ fun W hd ht=>NEED.o _ W (R3.symm.trans (ag (jh hN))) hd ht
    clear R3 R2
    go_wp2_with fail
    refine wp_region_any (by kernel_rfl) ?_
    have MZ:=hQQ (M3.o.more ((ae.refl w3).drewN 1))
    have LZ:=hQQ (KL.o _ _ _ MZ.o)
    change wpAny _ _ _ _ _ _ _ (w3.drewN 1)
    generalize w3.drewN 1=w4 at MZ LZ⊢
    refine wpAny_take (i:=0) (v:=.pointer (some ⟨p,0,none⟩)) rfl (by kernel_rfl) (by kernel_rfl) (by kernel_rfl) (fun _ _ _ h=>h) (Or.inl ⟨by rfl,fun W=>by go_simp⟩) ?_
    refine wpAny_take (i:=2) (v:=.int .i64 q) rfl (by kernel_rfl) (by kernel_rfl) (by kernel_rfl) (fun _ _ _ h=>h) (Or.inl ⟨by rfl,fun W=>by go_simp⟩) ?_
    refine wpAny_take (i:=8) (v:=.int .i64 q) rfl (by kernel_rfl) (by kernel_rfl) (by kernel_rfl) (fun _ _ _ h=>h) (Or.inl ⟨by rfl,fun W=>by go_simp⟩) ?_
    refine ES (fun W=>aG w F p kn (fun x:Int=>Value.int .i64 x) Rr (.panicked (bg p)) W) (bg p) (fun a W hd h=>⟨hd,h⟩) ?_
    intro QQ FIN
    refine Ko 30 [(18,.pointer (some ⟨p,0,none⟩)),(20,.int .i64 q),(4,.pointer (some ⟨w.heap.size,0,none⟩))] ⟨⟨Nat.le_of_ble_eq_true rfl,rfl⟩,?_⟩ (fun A HF=>?_)
    ·intro z hz;simp only[List.mem_cons,List.not_mem_nil,or_false] at hz;rcases hz with rfl|rfl|rfl<;>rfl
    refine wpAny_ready (rs:=[1,5]) (by kernel_rfl) (by simp) ?_
    refine dJ (some 19) rfl rfl rfl (fun K hK=>?_) ?_
    ·refine wp_load_row 28 _ rfl w.heap.size (HF.get 2 rfl) 28 _ _ _ LZ.o Tryz.underlying28 rfl (by kernel_rfl) ?_
     refine hK _ _ ?_;clear hK K
     have HF:=HF.put 19 (.agg c.arr) (by decide) rfl
     generalize Act.put _ _ _=A at HF⊢
     refine wpAny_ready (rs:=[3,5]) (by kernel_rfl) (by simp) ?_
     refine dJ (some 21) rfl rfl rfl (fun K hK=>?_) ?_
     ·refine bO (v0:=.agg c.arr) (v1:=.int .i64 q) rfl (HF.get 0 rfl) (HF.get 2 rfl) (enters_of Tryz.func134 (by kernel_rfl) rfl) ?_
      refine(pz HR.o _ q).mono ?_
      rintro e W ⟨rfl,h⟩
      have MZ:=hQQ (MZ.o.more h);have LZ:=hQQ (h.block LZ.o);clear h
      rw[ta hpg]
      refine hK _ _ ?_;clear hK K
      have HF:=HF.put 21 (.int .i64 (cA c.pg c.st q)) (by decide) rfl
      generalize Act.put _ _ _=A at HF⊢
      refine wpAny_ready (rs:=[4,5]) (by kernel_rfl) (by simp) ?_
      refine dJ (some 22) rfl rfl rfl (fun K hK=>?_) ?_
      ·refine bO (v0:=.pointer (some ⟨p,0,none⟩)) (v1:=.int .i64 (cA c.pg c.st q)) rfl (HF.get 2 rfl) (HF.get 0 rfl) (enters_of Tryz.func27 (by kernel_rfl) rfl) ?_
       refine(iX F2 p kn D2 (cA c.pg c.st q) _ MZ.o.view hw64 hN).mono ?_
       rintro e W ⟨rfl,hd,ht⟩
       exact FIN _ _ HF.1.2 (DIE.o W hd (am MZ.o.turn ht (fun k q=>(MZ.o.from' k q).imp .inl id)))
      refine dJ (some 23) rfl rfl rfl (fun K hK=>?_) ?_
      ·refine wp_load_row 28 _ rfl w.heap.size (HF.get 4 rfl) 28 _ _ _ LZ.o Tryz.underlying28 rfl (by kernel_rfl) ?_
       refine hK _ _ ?_;clear hK K
       have HF:=HF.put 23 (.agg c.arr) (by decide) rfl
       generalize Act.put _ _ _=A at HF⊢
       refine wpAny_ready (rs:=[4]) (by kernel_rfl) (by simp) ?_
       refine dJ (some 22) rfl rfl rfl (fun K hK=>?_) ?_
       ·refine bO (v0:=.pointer (some ⟨p,0,none⟩)) (v1:=.int .i64 (cA c.pg c.st q)) rfl (HF.get 3 rfl) (HF.get 1 rfl) (enters_of Tryz.func27 (by kernel_rfl) rfl) ?_
        refine(iX F2 p kn D2 (cA c.pg c.st q) _ MZ.o.view hw64 hN).mono ?_
        rintro e W ⟨rfl,hd,ht⟩
        exact FIN _ _ HF.1.2 (DIE.o W hd (am MZ.o.turn ht (fun k q=>(MZ.o.from' k q).imp .inl id)))
       exact AllReady.nil
      exact AllReady.nil
     refine dJ (some 23) rfl rfl rfl (fun K hK=>?_) ?_
     ·refine wp_load_row 28 _ rfl w.heap.size (HF.get 3 rfl) 28 _ _ _ LZ.o Tryz.underlying28 rfl (by kernel_rfl) ?_
      refine hK _ _ ?_;clear hK K
      have HF:=HF.put 23 (.agg c.arr) (by decide) rfl
      generalize Act.put _ _ _=A at HF⊢
      refine wpAny_ready (rs:=[3]) (by kernel_rfl) (by simp) ?_
      refine dJ (some 21) rfl rfl rfl (fun K hK=>?_) ?_
      ·refine bO (v0:=.agg c.arr) (v1:=.int .i64 q) rfl (HF.get 1 rfl) (HF.get 3 rfl) (enters_of Tryz.func134 (by kernel_rfl) rfl) ?_
       refine(pz HR.o _ q).mono ?_
       rintro e W ⟨rfl,h⟩
       have MZ:=hQQ (MZ.o.more h);have LZ:=hQQ (h.block LZ.o);clear h
       rw[ta hpg]
       refine hK _ _ ?_;clear hK K
       have HF:=HF.put 21 (.int .i64 (cA c.pg c.st q)) (by decide) rfl
       generalize Act.put _ _ _=A at HF⊢
       refine wpAny_ready (rs:=[4]) (by kernel_rfl) (by simp) ?_
       refine dJ (some 22) rfl rfl rfl (fun K hK=>?_) ?_
       ·refine bO (v0:=.pointer (some ⟨p,0,none⟩)) (v1:=.int .i64 (cA c.pg c.st q)) rfl (HF.get 3 rfl) (HF.get 0 rfl) (enters_of Tryz.func27 (by kernel_rfl) rfl) ?_
        refine(iX F2 p kn D2 (cA c.pg c.st q) _ MZ.o.view hw64 hN).mono ?_
        rintro e W ⟨rfl,hd,ht⟩
        exact FIN _ _ HF.1.2 (DIE.o W hd (am MZ.o.turn ht (fun k q=>(MZ.o.from' k q).imp .inl id)))
       exact AllReady.nil
      exact AllReady.nil
     exact AllReady.nil
    refine dJ (some 23) rfl rfl rfl (fun K hK=>?_) ?_
    ·refine wp_load_row 28 _ rfl w.heap.size (HF.get 2 rfl) 28 _ _ _ LZ.o Tryz.underlying28 rfl (by kernel_rfl) ?_
     refine hK _ _ ?_;clear hK K
     have HF:=HF.put 23 (.agg c.arr) (by decide) rfl
     generalize Act.put _ _ _=A at HF⊢
     refine wpAny_ready (rs:=[1]) (by kernel_rfl) (by simp) ?_
     refine dJ (some 19) rfl rfl rfl (fun K hK=>?_) ?_
     ·refine wp_load_row 28 _ rfl w.heap.size (HF.get 3 rfl) 28 _ _ _ LZ.o Tryz.underlying28 rfl (by kernel_rfl) ?_
      refine hK _ _ ?_;clear hK K
      have HF:=HF.put 19 (.agg c.arr) (by decide) rfl
      generalize Act.put _ _ _=A at HF⊢
      refine wpAny_ready (rs:=[3]) (by kernel_rfl) (by simp) ?_
      refine dJ (some 21) rfl rfl rfl (fun K hK=>?_) ?_
      ·refine bO (v0:=.agg c.arr) (v1:=.int .i64 q) rfl (HF.get 0 rfl) (HF.get 3 rfl) (enters_of Tryz.func134 (by kernel_rfl) rfl) ?_
       refine(pz HR.o _ q).mono ?_
       rintro e W ⟨rfl,h⟩
       have MZ:=hQQ (MZ.o.more h);have LZ:=hQQ (h.block LZ.o);clear h
       rw[ta hpg]
       refine hK _ _ ?_;clear hK K
       have HF:=HF.put 21 (.int .i64 (cA c.pg c.st q)) (by decide) rfl
       generalize Act.put _ _ _=A at HF⊢
       refine wpAny_ready (rs:=[4]) (by kernel_rfl) (by simp) ?_
       refine dJ (some 22) rfl rfl rfl (fun K hK=>?_) ?_
       ·refine bO (v0:=.pointer (some ⟨p,0,none⟩)) (v1:=.int .i64 (cA c.pg c.st q)) rfl (HF.get 3 rfl) (HF.get 0 rfl) (enters_of Tryz.func27 (by kernel_rfl) rfl) ?_
        refine(iX F2 p kn D2 (cA c.pg c.st q) _ MZ.o.view hw64 hN).mono ?_
        rintro e W ⟨rfl,hd,ht⟩
        exact FIN _ _ HF.1.2 (DIE.o W hd (am MZ.o.turn ht (fun k q=>(MZ.o.from' k q).imp .inl id)))
       exact AllReady.nil
      exact AllReady.nil
     exact AllReady.nil
    exact AllReady.nil
   |some y =>
    have FIN:Hq (∀W,ae w3 W→aG w F p kn (fun x:Int=>Value.int .i64 x) Rr (.returned (.int .i64 (max 1 (min y (c.pg-q))))) W):=hQQ fun W h=>DONE.o _ W D2 F2 (R3.symm.trans (aj (eS hN))) (M3.o.more h)
    have RA:=hQQ (fun W (h:ae w3 W)=>mT F2 p kn D2 (cA c.pg c.st q) y W (M3.o.view.more h) hw64 hN)
    clear R3 R2
    go_wp2_with fail
    refine bS (by kernel_rfl) (by kernel_rfl) ?_
    iterate 1
     with_reducible refine wpQuiet_step (fun K hK=>?_)
     go_simp
     first
     |(refine hK _ ?_;clear hK K)
     |(apply Exists.intro
       refine⟨fun W hW=>?_,hK _ ?_⟩
       first
       |(go_simp;try rfl)
       clear hK K)
    refine aN rfl 28 _ rfl _ rfl 28 _ _ _ (fun W hW=>hW.block L3.o) Tryz.underlying28 rfl (by kernel_rfl) ?_
    iterate 1
     with_reducible refine wpQuiet_step (fun K hK=>?_)
     go_simp
     first
     |(refine hK _ ?_;clear hK K)
     |(apply Exists.intro
       refine⟨fun W hW=>?_,hK _ ?_⟩
       first
       |(go_simp;try rfl)
       clear hK K)
    iterate 1
     with_reducible refine wpQuiet_step (fun K hK=>?_)
     go_simp
     first
     |(refine hK _ ?_;clear hK K)
     |(apply Exists.intro
       refine⟨fun W hW=>?_,hK _ ?_⟩
       first
       |(go_at_call 134;have:=pz HR.o W q;rw[ta hpg] at this;exact Calls.more hW this)
       clear hK K)
    iterate 1
     with_reducible refine wpQuiet_step (fun K hK=>?_)
     go_simp
     first
     |(refine hK _ ?_;clear hK K)
     |(apply Exists.intro
       refine⟨fun W hW=>?_,hK _ ?_⟩
       first
       |(go_at_call 27;exact(RA.o W hW).mono (fun e w'' h=>⟨h.1,by obtain⟨_,k,rfl⟩:=h;exact hW.drewN k⟩))
       clear hK K)
    refine aN rfl 28 _ rfl _ rfl 28 _ _ _ (fun W hW=>hW.block L3.o) Tryz.underlying28 rfl (by kernel_rfl) ?_
    iterate 1
     with_reducible refine wpQuiet_step (fun K hK=>?_)
     go_simp
     first
     |(refine hK _ ?_;clear hK K)
     |(apply Exists.intro
       refine⟨fun W hW=>?_,hK _ ?_⟩
       first
       |(go_at_call 20;exact Calls.more hW (dD HR.o W))
       clear hK K)
    iterate 6
     with_reducible refine wpQuiet_step (fun K hK=>?_)
     go_simp
     first
     |(refine hK _ ?_;clear hK K)
     |(apply Exists.intro
       refine⟨fun W hW=>?_,hK _ ?_⟩
       first
       |(go_simp;try rfl)
       clear hK K)
    refine wpQuiet_nil ?_
    intro w4 h4
    have F4:=hQQ (FIN.o w4 h4)
    clear h4
    go_wp2_with fail
    go_ret
    exact F4.o
  ·rw[if_neg h6] at R3
   have b6:(x2==6)=false:=by simp[h6]
   have FIN:=hQQ (DONE.o 0 w3 D2 F2 R3.symm M3.o)
   clear R3 R2
   go_wp2_with fail
   go_ret
   exact FIN.o
theorem kj {pg st:Int}{n:Nat}(H:PgIn pg st n){p:Int}(h:af pg p=true){k x:Int}(hk:W64 k)(hx:W64 x):bQ n (fun _=>True) (lD pg st p k x):=pt H h hk hx
theorem pA:W64 0:=by unfold W64;omega
theorem DE:W64 7:=by unfold W64;omega
theorem qF {pg st k:Int}{m:Nat}{q:Int} :iK pg st k (m+1) q=ak (lD pg st q k 0) fun _=>iK pg st k m (q+1):=rfl
theorem Ng {c:Cfg}(R:c.Ok){n:Nat}(H:PgIn c.pg c.st n)(hn:n≤10000)(F:Nat→Prop)(p:Nat)(kn:Int→Option Int)(D:List KV)(q:Int)(hq:W64 q)(w:World)(hv:aD w F p kn D)(hk:OkK kn)(hD:cC n D):
 Calls Tryz.prog 133 #[.pointer (some ⟨p,0,none⟩),.agg c.arr,.int .i64 q] w (aG w F p kn (fun x=> .int .i64 x) (lS c.pg c.st q kn D)):=by
 obtain⟨Rr,hRr⟩:∃Rr,lS c.pg c.st q kn D=Rr:=⟨_,rfl⟩
 rw[hRr]
 obtain⟨w1,e1,hl1,m1,s1⟩:=a6 w (.cells c.arr 28)
 have nFl:¬F w.heap.size:=fun q=>by have:=hv.lt _ q;omega
 have MM:=hQQ m1
 have L0:=hQQ hl1
 have M0:=m0Z (hv.more m1) hD
 have KL:=klZ (p:=p) (kn:=kn) (n:=n) L0.o nFl
 have NEED:=ndZ (F:=F) (p:=p) (kn:=kn) (R:=Rr) (fun x:Int=>Value.int .i64 x) MM.o
 have DONE:=dnZ (F:=F) (p:=p) (n:=n) (kn:=kn) (R:=Rr) (fun x:Int=>Value.int .i64 x) MM.o
 have HK:=hQQ hk
 have HR:=hQQ R
 have HH:=hQQ H
 clear hl1 m1 hv hD hk R H nFl
 unfold lS at hRr
 have pg1:=HR.o.pg1
 have pg2:=HR.o.pg2
 unfold W64 at hq
 have HRr:=hQQ hRr
 clear hRr
 go_enter Tryz.func133,Tryz.ntmps133
 go_wp2_with (first|(refine aK rfl rfl rfl L0.o (by kernel_rfl) ?_)|(refine aK rfl rfl rfl L0.o (by kernel_rfl) ?_))
 refine(Ic HR.o HH.o F p kn D q w1 M0.o.view HK.o M0.o.inv).mono ?_
 intro e w2 he
 rcases M0.o.step (ae.refl _) HK.o (tf HH.o _) he with⟨a',hE,rfl,hd',ht',_⟩|⟨x2,D2,F2,hE,rfl,M2,hq2,_,_⟩
 ·exact⟨rfl,NEED.o a' w2 (HRr.o.symm.trans (ag hE)) hd' ht'⟩
 have L2:=hQQ (KL.o _ _ _ M2)
 have R2:=hQQ ((aj hE).symm.trans HRr.o)
 have M2:=hQQ M2
 clear he hE
 have hpi:Hq (x2=0∨(0≤q∧q<c.pg∧1≤x2∧x2≤c.pg-q)):=hQQ (by
  rcases hq2 with h|⟨h,h1,h2⟩
  ·exact .inl h
  ·have:=ax.1 h;exact .inr ⟨this.1,this.2,h1,h2⟩)
 clear hq2
 have qa:IntKind.i64.wrap (q+x2)=q+x2:=by have:=hpi.o;exact az (by omega) (by omega)
 have START:=hQQ (And.intro M2.o R2.o)
 clear R2 M2 L2
 go_wp2_with fail
 go_loopw [8] (fun v8 wr=>∃(i:Nat) (D':List KV) (F':Nat→Prop),v8=.int .i64 (q+(i:Int))∧(i:Int)≤x2∧MidV w1 wr F (fun _=>False) p kn n D' F'∧ak (iK c.pg c.st 0 (x2.toNat-i) (q+(i:Int))) (fun _=>ay x2) kn D'=Rr) (fun v8 _=>(q+x2-intOf v8).toNat)
 case atStart=>exact⟨0,D2,F2,by simp,by have:=hpi.o;omega,START.o.1,by simpa using START.o.2⟩
 case round =>
  clear START
  obtain⟨i,D',F',rfl,hi,MI,hrest⟩:=hrel
  have MI:=hQQ MI
  have LI:=hQQ (KL.o _ _ _ MI.o)
  have hp:=hpi.o
  by_cases hlt:(i:Int)<x2
  ·have d3:decide (q+(i:Int)<q+x2)=true:=by simp;omega
   have q3:IntKind.i64.wrap (q+(i:Int)+1)=q+(i:Int)+1:=az (by omega) (by omega)
   rw[show x2.toNat-i=(x2.toNat-(i+1))+1 by omega,qF,cI] at hrest
   have RI:=hQQ hrest
   have hpg:af c.pg (q+(i:Int))=true:=ax.2 ⟨by omega,by omega⟩
   clear hrest hp
   go_wp2_with (first|(refine aK rfl rfl rfl LI.o (by kernel_rfl) ?_)|(refine aK rfl rfl rfl LI.o (by kernel_rfl) ?_))
   refine(zt HR.o HH.o hn F' p kn D' (q+(i:Int)) 0 0 hpg pA pA wr MI.o.view HK.o MI.o.inv).mono ?_
   intro e w4 he
   rcases MI.o.step (ae.refl _) HK.o (kj HH.o hpg pA pA) he with⟨a',hE,rfl,hd',ht',_⟩|⟨x4,D4,F4,hE,rfl,M4,hq4,_,_⟩
   ·exact⟨rfl,NEED.o a' w4 (RI.o.symm.trans (ag hE)) hd' ht'⟩
   have L4:=hQQ (KL.o _ _ _ M4)
   have R4:=hQQ ((aj hE).symm.trans RI.o)
   have M4:=hQQ M4
   clear he hE
   have NX:=hQQ (show ak (iK c.pg c.st 0 (x2.toNat-(i+1)) (q+(i:Int)+1)) (fun _=>ay x2) kn D4=Rr from R4.o)
   clear R4
   go_wp2_with fail
   go_roundw
   case rel=>exact⟨i+1,D4,F4,by go_num,by omega,M4.o,by rw[show q+((i+1:Nat):Int)=q+(i:Int)+1 by omega];exact NX.o⟩
   case measure=>simp[intOf];omega
  ·obtain rfl:(i:Int)=x2:=by omega
   have d3:decide (q+(i:Int)<q+(i:Int))=false:=by simp
   have FIN:=hQQ (DONE.o (i:Int) wr D' F' (by rw[show((i:Int).toNat-i)=0 by omega] at hrest;exact hrest.symm) MI.o)
   clear hrest hp
   go_wp2_with fail
   go_ret
   exact FIN.o
section
variable {P:Program}{ops:Array Oper}{md:Region.Mode}{C:World→Prop}
def lZ (md:Region.Mode)(ops:Array Oper)(t:Array Bool):Nat→Nat→Array Bool→Bool
 | 0,_,d=>d==t
 |m+1,k,d=>(Region.ready md ops d).contains k && Region.free md ops d k && lZ md ops t m (k+1) (d.setIfInBounds k true)
def BV (md:Region.Mode)(ops:Array Oper)(n:Nat)(t:Array Bool):Bool :=
 Region.noSelect ops && decide (n<ops.size) && yE md ops 0 n && ((List.range ops.size).all fun i=>decide (i≤n) ||(List.range i).any fun j=>decide (n≤j) && Region.waitsFor md ops i j) && ((Region.ready md ops t).all fun i=>decide (n≤i)) && lZ md ops t n 0 (Array.replicate ops.size false)
theorem BX {n:Nat}(hs:yE md ops 0 n=true)(hc:((List.range ops.size).all fun i=>decide (i≤n) ||(List.range i).any fun j=>decide (n≤j) && Region.waitsFor md ops i j)=true)(hn:n<ops.size)(m:Nat):
 ∀i,n-i≤m→i<n→∀d,HeadInv md ops n d→d.getD i true=false→∀t,n≤t→t∉Region.ready md ops d:=by
 induction m with
 |zero=>intro i h hi;omega
 |succ m ih =>
  intro i hm hi d inv hun t ht hr
  obtain⟨_,ot,hot,hall⟩:=mem_ready.1 hr
  have hlt:t<ops.size:=(Array.getElem?_eq_some_iff.1 hot).1
  by_cases e:t=n
  ·subst e
   have h1:=List.all_eq_true.1 hs i (List.mem_range.2 hi)
   simp only[Bool.or_eq_true,decide_eq_true_eq] at h1
   rcases h1 with h1|h1
   ·omega
   obtain⟨j,hj,hj2⟩:=List.any_eq_true.1 h1
   simp only[Bool.and_eq_true,decide_eq_true_eq] at hj2
   obtain⟨oj,hoj,x,hx,hb,hon⟩:=Region.waitsFor_spec hj2.2
   have hjn:=List.mem_range.1 hj
   have no:d.getD j false=true∨j=t→False:=by
    rintro(q|q)
    ·have:=inv.closed j oj hoj q x hx hb
     rw[hon,getD_both hun] at this;cases this
    ·subst q
     obtain rfl:oj=ot:=Option.some.inj (hoj.symm.trans hot)
     have:=hall x hx hb
     rw[hon,getD_both hun] at this;cases this
   cases q:d.getD j false with
   |true=>exact no (.inl q)
   |false =>
    have hne:j≠t:=fun z=>no (.inr z)
    exact ih j (by omega) (by omega) d inv (getD_in (by rw[inv.size];omega) q) t (Nat.le_refl _) hr
  ·have h1:=List.all_eq_true.1 hc t (List.mem_range.2 hlt)
   simp only[Bool.or_eq_true,decide_eq_true_eq] at h1
   rcases h1 with h1|h1
   ·omega
   obtain⟨j,hj,hj2⟩:=List.any_eq_true.1 h1
   simp only[Bool.and_eq_true,decide_eq_true_eq] at hj2
   obtain⟨o',ho',x,hx,hb,hon⟩:=Region.waitsFor_spec hj2.2
   obtain rfl:o'=ot:=Option.some.inj (ho'.symm.trans hot)
   have hjt:=List.mem_range.1 hj
   have:=hall x hx hb
   rw[hon,getD_both (inv.tail j hj2.1 (by omega))] at this;cases this
theorem Fd {n:Nat}{t:Array Bool}{Z:Act→Prop}(hsel:Region.noSelect ops=true)(hend:∀i∈Region.ready md ops t,n≤i)(hwait:∀i,i<n→∀d,HeadInv md ops n d→d.getD i true=false→∀t,n≤t→t∉Region.ready md ops d)(l:List Oper):
 ∀(k:Nat) (d:Array Bool) (a:Act),(∀j,j<l.length→l[j]?=ops[k+j]?)→k+l.length=n→HeadInv md ops n d →
 lZ md ops t l.length k d=true→wpQuiet P ops C Z l a →
 Ez P md ops C n (fun d' a'=>d'=t∧Z a') l.length d a:=by
 induction l with
 |nil =>
  intro k d a _ hk _ hB h
  exact⟨by simpa [lZ] using hB,h⟩
 |cons o l ih =>
  intro k d a hl hk inv hB h
  have h0:ops[k]?=some o:=by simpa using (hl 0 (by simp)).symm
  simp only[List.length_cons,lZ,Bool.and_eq_true] at hB hk
  have hr:k∈Region.ready md ops d:=by simpa using hB.1.1
  have hst:qOp P ops C k (wpQuiet P ops C Z l) a:=by unfold qOp;simp only[h0];exact h
  obtain⟨v,hy,hK⟩:=yieldsIn_of_qOp h0 hst
  exact sB h0 (Region.noSelect_spec hsel) (hwait k (by omega)) (by omega) (fun _ _ z=>by rw[z.1];exact hend) l.length d a inv (Region.free_spec h0 hB.1.2) hr hy
   (ih (k+1) _ _ (fun j hj=>by have:=hl (j+1) (by simp;omega);simpa [Nat.add_assoc,Nat.add_comm 1 j] using this) (by omega) (inv.set hr (by omega)) hB.2 hK)
end
theorem l8 {P:Program}{C:World→Prop}{id:Nat}{Q:Exit→Act→World→Prop}{a:Act}{w:World}{l:List Oper}(n:Nat)(t:Array Bool)(hm:P.follows .mixedOrders=true)(hB:BV .any l.toArray n t=true)
 (hC:C { w with drawn:=w.drawn+1 }) (h:wpQuiet P l.toArray C (fun a'=>∀w',C w'→wpAny P .any l.toArray Q (l.length-n) t a' w') (l.take n) a):(Code.region id l.toArray true).wp P Q a w:=by
 simp only[BV,Bool.and_eq_true,decide_eq_true_eq] at hB
 obtain⟨⟨⟨⟨⟨hsel,hn⟩,hs⟩,hc⟩,he⟩,hlex⟩:=hB
 have hn':n<l.length:=by simpa using hn
 have ht:(l.take n).length=n:=by simp;omega
 have inv:HeadInv .any l.toArray n (Array.replicate l.toArray.size false):=
  ⟨by simp,fun j p _ q=>(by rw[getD_replicate_false] at q;cases q),fun t _ q=>getD_in (by simpa using q) (getD_replicate_false _ _)⟩
 have H:=Fd (md:=.any) (t:=t) hsel (fun i hi=>by have:=List.all_eq_true.1 he i hi;simpa using this) (fun i hi d inv hun t ht=>BX hs hc hn n i (by omega) hi d inv hun t ht) (l.take n) 0 _ a (fun j hj=>by
  have:j<n:=by rw[ht] at hj;exact hj
  simp[this]) (by simpa using ht) inv (by rw[ht];exact hlex) h
 have K:=yD (Q:=Q) (g:=l.length-n) (fun d a' w' hw z=>by rw[z.1];exact z.2 w' hw) _ _ _ _ hC H
 rw[ht,show n+(l.length-n)=l.toArray.size by simp;omega] at K
 exact wp_region_any hm K
theorem nN {P:Program}{id:Nat}{Q:Exit→Act→World→Prop}{a:Act}{w:World}{l:List Oper}(n:Nat)(t:Array Bool)(hm:P.follows .mixedOrders=true)(hB:BV .any l.toArray n t=true)
 (h:wpQuiet P l.toArray (ae w) (fun a'=>∀w',ae w w'→wpAny P .any l.toArray Q (l.length-n) t a' w') (l.take n) a):(Code.region id l.toArray true).wp P Q a w :=
 l8 (C:=ae w) n t hm hB ((ae.refl w).drewN 1) h
theorem vO {f:Int→Prg Bool}{pg n step:Int}{m:Nat}{p:Int} :jn f pg n step (m+1) p=if p≤pg-n then ak (jY f n.toNat p) (fun r=>match r with|none=>ay p|some q=>jn f pg n step m ((q / step+1) * step)) else ay (-1):=rfl
theorem Fe {f:Int→Prg Bool}{m:Nat}{q:Int} :jY f (m+1) q=ak (f q) (fun b=>if b then jY f m (q+1) else ay (some q)):=rfl
theorem Nh {q step:Int}(h0:0≤q)(h1:q<256)(h2:1≤step)(h3:step≤9223372036854775807):0≤q / step∧q / step<256∧q<(q / step+1) * step∧(q / step+1) * step≤9223372036854775807:=by
 have a0:0≤q / step:=Int.ediv_nonneg h0 (by omega)
 have a1:q / step * step≤q:=Int.ediv_mul_le q (by omega)
 have a2:q<(q / step+1) * step:=Int.lt_ediv_add_one_mul_self q (by omega)
 have a3:q / step≤q:=Int.ediv_le_self step h0
 have a4:(q / step+1) * step=q / step * step+step:=by rw[Int.add_mul,Int.one_mul]
 refine⟨a0,by omega,a2,?_⟩
 rw[a4]
 by_cases hs:q<step
 ·rw[Int.ediv_eq_zero_of_lt h0 hs];omega
 ·omega
theorem DF {c:Cfg}(R:c.Ok){n:Nat}(H:PgIn c.pg c.st n)(F:Nat→Prop)(p:Nat)(kn:Int→Option Int)(D:List KV)(m step:Int)(hm1:1≤m)(hm2:m≤9223372036854775807)(hs1:1≤step)(hs2:step≤9223372036854775807)(f:Nat)(clo:Array Value)(fP:Int→Prg Bool)(w:World)(hv:aD w F p kn D)(hk:OkK kn)(hD:cC n D)
 (hG:∀q,bQ n (fun _=>True) (fP q)) (henter:∀args w,Sem.run Tryz.prog (callFunc f args) w=.ok (.enter f args) w)
 (hf:∀wr D' F' q,Turned F w wr→(∀k,F' k→F k∨w.heap.size≤k)→aD wr F' p kn D'→cC n D'→W64 q→Calls Tryz.prog f (#[.int .i64 q]++clo) wr (aG wr F' p kn (fun b=> .bool b) (fP q kn D'))):
 Calls Tryz.prog 58 #[.agg c.arr,.int .i64 m,.int .i64 step,.func (.func f) #[] clo] w (aG w F p kn (fun x=> .int .i64 x) (mY fP c.pg m step kn D)):=by
 obtain⟨Rr,hRr⟩:∃Rr,mY fP c.pg m step kn D=Rr:=⟨_,rfl⟩
 rw[hRr]
 obtain⟨w1,e1,hl1,m1,s1⟩:=a6 w (.cells c.arr 28)
 have nFl:¬F w.heap.size:=fun q=>by have:=hv.lt _ q;omega
 have MM:=hQQ m1
 have L0:=hQQ hl1
 have M0:=m0Z (hv.more m1) hD
 have KL:=klZ (p:=p) (kn:=kn) (n:=n) L0.o nFl
 have NEED:=ndZ (F:=F) (p:=p) (kn:=kn) (R:=Rr) (fun x:Int=>Value.int .i64 x) MM.o
 have DONE:=dnZ (F:=F) (p:=p) (n:=n) (kn:=kn) (R:=Rr) (fun x:Int=>Value.int .i64 x) MM.o
 have HK:=hQQ hk
 have HR:=hQQ R
 have HH:=hQQ H
 clear hl1 m1 hv hD hk R H nFl
 have hfl:=fD c
 unfold mY at hRr
 have pg1:=HR.o.pg1
 have pg2:=HR.o.pg2
 have HRr:=hQQ hRr
 have HF:=hQQ hf
 have HG:=hQQ hG
 have q1:IntKind.i64.wrap (c.pg-m)=c.pg-m:=az (by omega) (by omega)
 have TT:Hq (∀wr D' F',MidV w1 wr F (fun _=>False) p kn n D' F'→Turned F w wr):=hQQ fun wr D' F' h=>am (Turned.mono MM.o (fun _ _ q=>q.elim)) h.turn (fun k q=>q.imp id (fun r=>r.elim))
 clear hRr hf hG
 go_enter Tryz.func58,Tryz.ntmps58
 go_wp2_with fail
 go_step3
 go_wp2_with (first|(refine aK rfl rfl rfl L0.o (by kernel_rfl) ?_)|(refine aK rfl rfl rfl L0.o (by kernel_rfl) ?_))
 refine(dD HR.o _).mono ?_
 rintro e w2 ⟨rfl,h2⟩
 have START:=hQQ (And.intro (M0.o.more h2) HRr.o)
 clear h2 HRr
 go_wp2_with fail
 go_step3
 go_wp2_with fail
 go_loopg [10,11,12] (c.pg.toNat+1) (fun j v10 v11 v12 wr=>∃(p0:Int) (D':List KV) (F':Nat→Prop),v10=.int .i64 (-1)∧v11=.int .i64 p0∧0≤p0∧p0≤9223372036854775807∧c.pg+1≤(j:Int)+p0∧MidV w1 wr F (fun _=>False) p kn n D' F'∧jn fP c.pg m step j p0 kn D'=Rr)
 case atStart=>exact⟨0,D,F,rfl,rfl,by omega,by omega,by omega,START.o.1,START.o.2⟩
 case round =>
  clear START
  obtain⟨p0,D',F',rfl,rfl,p00,p01,hj,MI,hrest⟩:=hrel
  have MI:=hQQ MI
  by_cases hle:p0≤c.pg-m
  ·have d1:decide (p0≤c.pg-m)=true:=by simp[hle]
   obtain⟨j,rfl⟩:∃j',gk=j'+1:=⟨gk-1,by omega⟩
   rw[vO,if_pos hle] at hrest
   have q2:IntKind.i64.wrap (p0+m)=p0+m:=az (by omega) (by omega)
   have START:=hQQ (And.intro MI.o hrest)
   clear hrest MI
   go_wp2_with fail
   go_loopg [10,11,12] m.toNat (fun g2 v10 v11 v12 wr=>∃(i:Nat) (D':List KV) (F':Nat→Prop),v10=.int .i64 (-1)∧v11=.int .i64 p0∧v12=.int .i64 (p0+(i:Int))∧i+g2=m.toNat∧MidV w1 wr F (fun _=>False) p kn n D' F'∧ak (jY fP g2 (p0+(i:Int))) (fun r=>match r with|none=>ay p0|some q=>jn fP c.pg m step j ((q / step+1) * step)) kn D'=Rr)
   case atStart=>exact⟨0,D',F',rfl,rfl,by simp,by omega,START.o.1,by simpa using START.o.2⟩
   case round =>
    clear START
    obtain⟨i,D2,F2,rfl,rfl,rfl,hig,MI,hrest⟩:=hrel
    have MI:=hQQ MI
    cases gk with
    |zero =>
     have e0:(p0+(i:Int)==p0+m)=true:=by simp;omega
     have FIN:=hQQ (DONE.o p0 _ D2 F2 hrest.symm MI.o)
     clear hrest
     go_wp2_with fail
     try rw[Exit.noGoto_ret]
     go_ret
     exact FIN.o
    |succ g =>
     have e0:(p0+(i:Int)==p0+m)=false:=by simp;omega
     have hqw:W64 (p0+(i:Int)):=by unfold W64;omega
     have q3:IntKind.i64.wrap (p0+(i:Int)+1)=p0+(i:Int)+1:=az (by omega) (by omega)
     rw[Fe,cI] at hrest
     have RI:=hQQ hrest
     have CL:=HF.o _ D2 F2 (p0+(i:Int)) (TT.o _ _ _ MI.o) (fun k hk=>(MI.o.from' k hk).imp id (fun r=>Nat.le_trans MM.o.size r)) MI.o.view MI.o.inv hqw
     clear hrest
     go_wp2_with fail
     refine(CL).mono ?_
     intro e w5 he
     rcases MI.o.step (ae.refl _) HK.o (HG.o _) he with⟨a',hE,rfl,hd',ht',_⟩|⟨x5,D5,F5,hE,rfl,M5,hq5,_,_⟩
     ·exact⟨rfl,NEED.o a' w5 (RI.o.symm.trans (ag hE)) hd' ht'⟩
     have L5:=hQQ (KL.o _ _ _ M5)
     have R5:=hQQ ((aj hE).symm.trans RI.o)
     have M5:=hQQ M5
     clear he hE
     cases x5 with
     |true =>
      have R5':=hQQ (show ak (jY fP g (p0+(i:Int)+1)) (fun r=>match r with|none=>ay p0|some q=>jn fP c.pg m step j ((q / step+1) * step)) kn D5=Rr from R5.o)
      clear R5
      go_wp2_with fail
      go_roundg g
      case measure=>omega
      case rel=>exact⟨i+1,D5,F5,rfl,rfl,by go_num,by omega,M5.o,by rw[show p0+((i+1:Nat):Int)=p0+(i:Int)+1 by omega];exact R5'.o⟩
     |false =>
      have R5':=hQQ (show jn fP c.pg m step j (((p0+(i:Int)) / step+1) * step) kn D5=Rr from R5.o)
      clear R5
      obtain⟨z0,z1,z2,z3⟩:=Nh (q:=p0+(i:Int)) (step:=step) (by omega) (by omega) hs1 hs2
      have e5:(p0+(i:Int)).tdiv step=(p0+(i:Int)) / step:=Int.tdiv_eq_ediv_of_nonneg (by omega)
      have e6:(step==0)=false:=by simp;omega
      generalize hz:(p0+(i:Int)) / step=z at z0 z1 z2 z3 e5 R5'
      have q5:IntKind.i64.wrap z=z:=az (by omega) (by omega)
      have q6:IntKind.i64.wrap (z+1)=z+1:=az (by omega) (by omega)
      have q7:IntKind.i64.wrap ((z+1) * step)=(z+1) * step:=az (by omega) (by omega)
      have Z:=hQQ (And.intro z2 z3)
      clear hz z2 z3 z0 z1
      go_wp2_with fail
      go_roundg j
      case measure=>omega
      case rel=>exact⟨(z+1) * step,D5,F5,rfl,rfl,by have:=Z.o;omega,Z.o.2,by have:=Z.o;omega,M5.o,R5'.o⟩
  ·have d1:decide (p0≤c.pg-m)=false:=by simp[hle]
   have FIN:=hQQ (DONE.o (-1) _ D' F' (by
    cases gk with
    |zero=>exact hrest.symm
    |succ j=>rw[vO,if_neg hle] at hrest;exact hrest.symm) MI.o)
   clear hrest
   go_wp2_with fail
   try rw[Exit.noGoto_ret]
   go_ret
   exact FIN.o
theorem Id {c:Cfg}(R:c.Ok){n:Nat}(H:PgIn c.pg c.st n)(F:Nat→Prop)(p:Nat)(kn:Int→Option Int)(D:List KV)(q:Int)(b1 b2:Nat)(w:World)(hv:aD w F p kn D)(hk:OkK kn)(hD:cC n D)
 (h1:w.heap[b1]?=some (.cells #[.pointer (some ⟨p,0,none⟩)] 43 (0,0))) (h2:w.heap[b2]?=some (.cells c.arr 28 (0,0))):
 Calls Tryz.prog 54 #[.int .i64 q,.pointer (some ⟨b1,0,none⟩),.pointer (some ⟨b2,0,none⟩)] w (aG w F p kn (fun b=> .bool b) (lT c.pg c.st q kn D)):=by
 have KD:=ti R H F p kn D q w hv hk hD
 have c1:=(aB h1).1
 have L0:=hQQ h2
 clear h1 h2
 go_enter Tryz.func54,Tryz.ntmps54
 go_wp2_with (first|(refine aK rfl rfl rfl L0.o (by kernel_rfl) ?_)|(refine aK rfl rfl rfl L0.o (by kernel_rfl) ?_))
 refine KD.mono ?_
 intro e w1 he
 rcases jl he with⟨a,hR,rfl⟩|⟨x,D',hR,rfl⟩
 ·have:=aG.mapN (val':=fun b:Bool=>Value.bool b) (fun k:Int=>decide (k=0)) hR he
  rw[Dv] at this
  exact⟨rfl,this⟩
 ·have FIN:=aG.map (val':=fun b:Bool=>Value.bool b) (fun k:Int=>decide (k=0)) hR he
  rw[Dv] at FIN
  have FIN:=hQQ FIN
  have e1:(x==0)=decide (x=0):=by by_cases z:x=0<;>simp[z]
  clear he KD hv hD hR
  go_wp2_with fail
  go_ret
  exact FIN.o
theorem Ni {c:Cfg}(R:c.Ok){n:Nat}(H:PgIn c.pg c.st n)(F:Nat→Prop)(p:Nat)(kn:Int→Option Int)(D:List KV)(q:Int)(hq:W64 q)(b1 b2 b3:Nat)(w:World)(hv:aD w F p kn D)(hk:OkK kn)(hD:cC n D)
 (h1:w.heap[b1]?=some (.cells #[.pointer (some ⟨p,0,none⟩)] 43 (0,0))) (h2:w.heap[b2]?=some (.cells c.arr 28 (0,0)))
 (h3:w.heap[b3]?=some (.cells #[.func (.func 54) #[] #[.pointer (some ⟨b1,0,none⟩),.pointer (some ⟨b2,0,none⟩)]] 103 (0,0))) (n1:¬F b1) (n2:¬F b2) (n3:¬F b3):
 Calls Tryz.prog 55 #[.int .i64 q,.pointer (some ⟨b1,0,none⟩),.pointer (some ⟨b2,0,none⟩),.pointer (some ⟨b3,0,none⟩)] w (aG w F p kn (fun b=> .bool b) (lU c.pg c.st q kn D)):=by
 obtain⟨Rr,hRr⟩:∃Rr,lU c.pg c.st q kn D=Rr:=⟨_,rfl⟩
 rw[hRr]
 unfold lU at hRr
 have HRr:=hQQ hRr
 have l1:=ac h1
 have l2:=ac h2
 have l3:=ac h3
 have H1:=hQQ h1
 have H2:=hQQ h2
 have H3:=hQQ h3
 have c1:=(aB h1).1
 have HR:=hQQ R
 have HH:=hQQ H
 have HK:=hQQ hk
 have M0:Hq (MidV w w F (fun _=>False) p kn n D F):=hQQ (MidV.begin hv hD)
 clear h1 h2 h3 hRr R H hk hv hD
 have NEED:Hq (∀a w2,Rr=.need a→bB w2 p a→Turned (fun b=>F b∨False) w w2→aG w F p kn (fun b:Bool=>Value.bool b) Rr (.panicked (bg p)) w2):=hQQ fun a w2 e hd ht=>ji (ae.refl w) (fun _ q=>q.elim) e hd ht
 have DONE:Hq (∀x w2 D' F',Rr=.ok x D'→MidV w w2 F (fun _=>False) p kn n D' F'→aG w F p kn (fun b:Bool=>Value.bool b) Rr (.returned (.bool x)) w2):=hQQ fun x w2 D' F' e h=>fB (ae.refl w) (fun _ q=>q.elim) h e
 go_enter Tryz.func55,Tryz.ntmps55
 go_wp2_with fail
 refine nN 4 #[true,true,true,true,false,false,false,false,false,false,false] (by kernel_rfl) (by kernel_rfl) ?_
 simp only[List.take_succ_cons,List.take_zero]
 iterate 1
  with_reducible refine wpQuiet_step (fun K hK=>?_)
  go_simp
  first
  |(refine hK _ ?_;clear hK K)
  |(apply Exists.intro
    refine⟨fun W hW=>?_,hK _ ?_⟩
    first
    |(have c1':=hW.cell c1;go_simp;try rfl)
    clear hK K)
 refine aN rfl 28 _ rfl _ rfl 28 _ _ _ (fun W hW=>hW.block H2.o) Tryz.underlying28 rfl (by kernel_rfl) ?_
 iterate 1
  with_reducible refine wpQuiet_step (fun K hK=>?_)
  go_simp
  first
  |(refine hK _ ?_;clear hK K)
  |(apply Exists.intro
    refine⟨fun W hW=>?_,hK _ ?_⟩
    first
    |(go_simp;try rfl)
    clear hK K)
 iterate 1
  with_reducible refine wpQuiet_step (fun K hK=>?_)
  go_simp
  first
  |(refine hK _ ?_;clear hK K)
  |(apply Exists.intro
    refine⟨fun W hW=>?_,hK _ ?_⟩
    first
    |(go_at_call 57;exact(MQ q hq.1 hq.2 W).mono (fun e w'' h=>⟨h.1,by rw[h.2];exact hW⟩))
    clear hK K)
 refine wpQuiet_nil ?_
 intro w2 m2
 have M2:=hQQ (M0.o.more m2)
 clear m2
 refine wpAny_ready (rs:=[4]) (by kernel_rfl) (by simp) ?_
 refine AllReady.cons rfl (fun K hK=>?_) AllReady.nil
 rw[if_pos (by kernel_rfl)]
 refine du (v0:=.pointer (some ⟨p,0,none⟩)) (v1:=.agg c.arr) (v2:=.int .i64 (ofV q)) rfl rfl rfl rfl (enters_of Tryz.func56 (by kernel_rfl) rfl) ?_
 refine(Hw HR.o F p kn D (ofV q) w2 M2.o.view).mono ?_
 intro e w3 he
 rcases M2.o.step (ae.refl _) HK.o (jJ HH.o.toTblIn _) he with⟨a',hE,rfl,hd',ht',_⟩|⟨x3,D3,F3,hE,rfl,M3,hq3,_,_⟩
 ·exact⟨rfl,NEED.o a' w3 (HRr.o.symm.trans (ag hE)) hd' ht'⟩
 have R3:=hQQ ((aj hE).symm.trans HRr.o)
 have M3:=hQQ M3
 clear he hE
 refine hK _ _ ?_
 clear hK K
 cases x3 with
 |false =>
  have FIN:=hQQ (DONE.o false w3 D3 F3 R3.o.symm M3.o)
  clear R3
  refine wpAny_take (i:=5) (v:=.bool false) rfl (by kernel_rfl) (by kernel_rfl) (by kernel_rfl) (fun _ _ _ h=>h) (Or.inl ⟨by rfl,fun W=>by go_simp⟩) ?_
  refine wpAny_take (i:=6) (v:=undef) rfl (by kernel_rfl) (by kernel_rfl) (by kernel_rfl) (fun _ _ _ h=>h) (Or.inr ⟨by rfl,rfl⟩) ?_
  refine wpAny_take (i:=7) (v:=undef) rfl (by kernel_rfl) (by kernel_rfl) (by kernel_rfl) (fun _ _ _ h=>h) (Or.inr ⟨by rfl,rfl⟩) ?_
  refine wpAny_take (i:=8) (v:=undef) rfl (by kernel_rfl) (by kernel_rfl) (by kernel_rfl) (fun _ _ _ h=>h) (Or.inr ⟨by rfl,rfl⟩) ?_
  refine wpAny_take (i:=9) (v:=.bool false) rfl (by kernel_rfl) (by kernel_rfl) (by kernel_rfl) (fun _ _ _ h=>h) (Or.inl ⟨by rfl,fun W=>by go_simp⟩) ?_
  refine wpAny_take (i:=10) (v:=.bool false) rfl (by kernel_rfl) (by kernel_rfl) (by kernel_rfl) (fun _ _ _ h=>h) (Or.inl ⟨by rfl,fun W=>by go_simp⟩) ?_
  refine wpAny_done (by kernel_rfl) ?_ _
  go_wp2_with fail
  go_ret
  exact FIN.o
 |true =>
  have R3':=hQQ (show lT c.pg c.st q kn D3=Rr from R3.o)
  have h1:=eT M3.o H1.o n1 (fun r=>r)
  have h2:=eT M3.o H2.o n2 (fun r=>r)
  have h3:=eT M3.o H3.o n3 (fun r=>r)
  have FR:=hQQ (Id HR.o HH.o F3 p kn D3 q b1 b2 w3 M3.o.view HK.o M3.o.inv h1 h2)
  have c3:=(aB h3).1
  clear R3 h1 h2 h3 c1
  refine wpAny_take (i:=5) (v:=.bool true) rfl (by kernel_rfl) (by kernel_rfl) (by kernel_rfl) (fun _ _ _ h=>h) (Or.inl ⟨by rfl,fun W=>by go_simp⟩) ?_
  refine wpAny_take (i:=7) (v:=.int .i64 q) rfl (by kernel_rfl) (by kernel_rfl) (by kernel_rfl) (fun _ _ _ h=>h) (Or.inl ⟨by rfl,fun W=>by go_simp⟩) ?_
  refine wpAny_ready (rs:=[6]) (by kernel_rfl) (by simp) ?_
  refine AllReady.cons rfl (fun K hK=>?_) AllReady.nil
  rw[if_pos (by kernel_rfl)]
  go_simp
  refine hK _ _ ?_
  clear hK K
  refine wpAny_ready (rs:=[8]) (by kernel_rfl) (by simp) ?_
  refine AllReady.cons rfl (fun K hK=>?_) AllReady.nil
  rw[if_pos (by kernel_rfl)]
  refine ET (x0:=.tmp 13) (v0:=.int .i64 q) rfl rfl rfl (enters_of Tryz.func54 (by kernel_rfl) rfl) ?_
  refine FR.o.mono ?_
  intro e w4 he
  rcases M3.o.step (ae.refl _) HK.o (kg HH.o q) he with⟨a',hE,rfl,hd',ht',_⟩|⟨x4,D4,F4,hE,rfl,M4,hq4,_,_⟩
  ·exact⟨rfl,NEED.o a' w4 (R3'.o.symm.trans hE) hd' ht'⟩
  have FIN:=hQQ (DONE.o x4 w4 D4 F4 (R3'.o.symm.trans hE) M4)
  clear he hE M4
  refine hK _ _ ?_
  clear hK K
  refine wpAny_take (i:=9) (v:=.bool x4) rfl (by kernel_rfl) (by kernel_rfl) (by kernel_rfl) (fun _ _ _ h=>h) (Or.inl ⟨by rfl,fun W=>by go_simp⟩) ?_
  refine wpAny_take (i:=10) (v:=.bool x4) rfl (by kernel_rfl) (by kernel_rfl) (by kernel_rfl) (fun _ _ _ h=>h) (Or.inl ⟨by rfl,fun W=>by go_simp⟩) ?_
  refine wpAny_done (by kernel_rfl) ?_ _
  go_wp2_with fail
  go_ret
  exact FIN.o
theorem re {pg st:Int}{n:Nat}(H:PgIn pg st n){f:Int→Prg Bool}(hf:∀q,bQ n (fun _=>True) (f q))(m step:Int)(hm:1≤m)(hs:1≤step):bQ n (fun x:Int=> -1≤x∧x<pg) (mY f pg m step):=ox H hf m step hm hs _ 0 (by omega)
theorem Nj {c:Cfg}(R:c.Ok){n:Nat}(H:PgIn c.pg c.st n)(F:Nat→Prop)(p:Nat)(kn:Int→Option Int)(D:List KV)(m step:Int)(hm:W64 m)(hs:W64 step)(w:World)(hv:aD w F p kn D)(hk:OkK kn)(hD:cC n D):
 Calls Tryz.prog 25 #[.pointer (some ⟨p,0,none⟩),.agg c.arr,.int .i64 m,.int .i64 step] w (aG w F p kn (fun x=> .int .i64 x) (kR c.pg c.st m step kn D)):=by
 obtain⟨Rr,hRr⟩:∃Rr,kR c.pg c.st m step kn D=Rr:=⟨_,rfl⟩
 rw[hRr]
 obtain⟨w1,e1,hb1,hb2,m1,s1⟩:=gT w (.cells #[.pointer (some ⟨p,0,none⟩)] 43) (.cells c.arr 28)
 obtain⟨w2,e2,hb3,m2,s2⟩:=a6 w1 (.cells #[.nilFunc] 103)
 rw[s1] at hb3
 unfold kR at hRr
 have hfw:=hv.lt
 unfold W64 at hm hs
 by_cases a0:m<1
 ·have d0:decide (m<1)=true:=by simp[a0]
  rw[if_neg (by omega)] at hRr
  have FIN:Hq (aG w F p kn (fun x:Int=>Value.int .i64 x) Rr (.returned (.int .i64 (-1))) w1):=hQQ (fB (S:=fun _=>False) m1 (fun _ q=>q.elim) (MidV.begin (hv.more m1) hD) hRr.symm)
  clear hRr hb1 hb2 hb3 e2 m1 m2 hv hD
  go_enter Tryz.func25,Tryz.ntmps25
  go_wp2_with fail
  go_ret
  exact FIN.o
 have d0:decide (m<1)=false:=by simp;omega
 by_cases a1:step<1
 ·have d1:decide (step<1)=true:=by simp[a1]
  rw[if_neg (by omega)] at hRr
  have FIN:Hq (aG w F p kn (fun x:Int=>Value.int .i64 x) Rr (.returned (.int .i64 (-1))) w1):=hQQ (fB (S:=fun _=>False) m1 (fun _ q=>q.elim) (MidV.begin (hv.more m1) hD) hRr.symm)
  clear hRr hb1 hb2 hb3 e2 m1 m2 hv hD
  go_enter Tryz.func25,Tryz.ntmps25
  go_wp2_with fail
  go_ret
  exact FIN.o
 have d1:decide (step<1)=false:=by simp;omega
 rw[if_pos ⟨by omega,by omega⟩] at hRr
 obtain⟨c3,f3,l3⟩:=aB hb3
 have hb3':(w2.setCell ⟨w.heap.size+2,0,none⟩ (.func (.func 54) #[] #[.pointer (some ⟨w.heap.size,0,none⟩),.pointer (some ⟨w.heap.size+1,0,none⟩)])).heap[w.heap.size+2]?=_:=jH hb3 _
 have t23:Turned (fun b=>b=w.heap.size+2) w2 (w2.setCell ⟨w.heap.size+2,0,none⟩ (.func (.func 54) #[] #[.pointer (some ⟨w.heap.size,0,none⟩),.pointer (some ⟨w.heap.size+1,0,none⟩)])):=Turned.setCell (Turned.refl _ w2) ⟨w.heap.size+2,0,none⟩ _ (fun _=>rfl)
 have T23:=hQQ t23
 have B3:=hQQ hb3'
 have B1:=hQQ (m2.block hb1)
 have B2:=hQQ (m2.block hb2)
 have M12:=hQQ (m1.trans m2)
 have HV:=hQQ hv
 have HDD:=hQQ hD
 have HRr:=hQQ hRr
 clear hRr hb1 hb2 hb3 m1 m2 hv hD hb3' t23
 go_enter Tryz.func25,Tryz.ntmps25
 have rst:=run_store Tryz.prog w2 ⟨w.heap.size+2,0,none⟩ (.func (.func 54) #[] #[.pointer (some ⟨w.heap.size,0,none⟩),.pointer (some ⟨w.heap.size+1,0,none⟩)]) .plain rfl
 go_wp2_with (refine aK rfl rfl rfl (by have:=T23.o.block (w.heap.size+1) (ac B2.o) (by omega);exact this.trans B2.o) (by kernel_rfl) ?_)
 have h1:=(T23.o.block w.heap.size (ac B1.o) (by omega)).trans B1.o
 have h2:=(T23.o.block (w.heap.size+1) (ac B2.o) (by omega)).trans B2.o
 have h3:=B3.o
 have m3:ae w (w2.setCell ⟨w.heap.size+2,0,none⟩ (.func (.func 54) #[] #[.pointer (some ⟨w.heap.size,0,none⟩),.pointer (some ⟨w.heap.size+1,0,none⟩)])):=Turned.mono (am (F:=fun _=>False) M12.o T23.o (fun b e=> .inr (by omega))) (fun _ _ q=>q)
 generalize w2.setCell ⟨w.heap.size+2,0,none⟩ (.func (.func 54) #[] #[.pointer (some ⟨w.heap.size,0,none⟩),.pointer (some ⟨w.heap.size+1,0,none⟩)])=w3 at h1 h2 h3 m3⊢
 have hv3:=HV.o.more m3
 have HH:=hQQ H
 have HR:=hQQ R
 have HK:=hQQ hk
 have H1:=hQQ h1
 have H2:=hQQ h2
 have H3:=hQQ h3
 have M3:=hQQ m3
 have l1:=ac h1
 have l2:=ac h2
 have l3:=ac h3
 have M0:Hq (MidV w3 w3 F (fun _=>False) p kn n D F):=hQQ (MidV.begin hv3 HDD.o)
 have nF:∀b,w.heap.size≤b→¬F b:=fun b hb q=>by have:=hfw b q;omega
 have KEEP:Hq (∀wr D' F',MidV w3 wr F (fun _=>False) p kn n D' F'→wr.heap[w.heap.size]?=some (.cells #[.pointer (some ⟨p,0,none⟩)] 43 (0,0))∧wr.heap[w.heap.size+1]?=some (.cells c.arr 28 (0,0))∧wr.heap[w.heap.size+2]?=some (.cells #[(.func (.func 54) #[] #[.pointer (some ⟨w.heap.size,0,none⟩),.pointer (some ⟨w.heap.size+1,0,none⟩)])] 103 (0,0))):=hQQ fun wr D' F' h =>
  ⟨eT h H1.o (nF _ (by omega)) (fun q=>q),eT h H2.o (nF _ (by omega)) (fun q=>q),eT h H3.o (nF _ (by omega)) (fun q=>q)⟩
 have NEED:Hq (∀a w2,Rr=.need a→bB w2 p a→Turned (fun b=>F b∨False) w3 w2→aG w F p kn (fun x:Int=>Value.int .i64 x) Rr (.panicked (bg p)) w2):=hQQ fun a w2 e hd ht=>ji M3.o (fun _ q=>q.elim) e hd ht
 have DONE:Hq (∀x w2 D' F',Rr=.ok x D'→MidV w3 w2 F (fun _=>False) p kn n D' F'→aG w F p kn (fun x:Int=>Value.int .i64 x) Rr (.returned (.int .i64 x)) w2):=hQQ fun x w2 D' F' e h=>fB M3.o (fun _ q=>q.elim) h e
 have NN:∀(w0 wr:World) (F':Nat→Prop) (b:Nat),w.heap.size≤b→b<w0.heap.size→(∀k,F' k→F k∨w0.heap.size≤k)→¬F' b:=fun w0 wr F' b hb hl hn q=>by
  rcases hn b q with r|r
  ·exact nF b hb r
  ·omega
 have LO:=DF HR.o HH.o F p kn D m step (by omega) (by omega) (by omega) (by omega) 55 #[.pointer (some ⟨w.heap.size,0,none⟩),.pointer (some ⟨w.heap.size+1,0,none⟩),.pointer (some ⟨w.heap.size+2,0,none⟩)] (lU c.pg c.st) w3 hv3 HK.o HDD.o (qC HH.o) (enters_of Tryz.func55 (by kernel_rfl) rfl)
  (fun wr D' F' q t hn hv' hD' hq=>Ni HR.o HH.o F' p kn D' q hq w.heap.size (w.heap.size+1) (w.heap.size+2) wr hv' HK.o hD' ((t.block _ l1 (nF _ (by omega))).trans H1.o) ((t.block _ l2 (nF _ (by omega))).trans H2.o) ((t.block _ l3 (nF _ (by omega))).trans H3.o) (NN w3 wr F' _ (by omega) l1 hn) (NN w3 wr F' _ (by omega) l2 hn) (NN w3 wr F' _ (by omega) l3 hn))
 have LF:=hQQ (fun(w4:World) (D4:List KV) (F4:Nat→Prop) (M4:MidV w3 w4 F (fun _=>False) p kn n D4 F4)=>DF HR.o HH.o F4 p kn D4 m step (by omega) (by omega) (by omega) (by omega) 54 #[.pointer (some ⟨w.heap.size,0,none⟩),.pointer (some ⟨w.heap.size+1,0,none⟩)] (lT c.pg c.st) w4 M4.view HK.o M4.inv (kg HH.o) (enters_of Tryz.func54 (by kernel_rfl) rfl)
  (fun wr D' F' q t hn hv' hD' hq=>Id HR.o HH.o F' p kn D' q w.heap.size (w.heap.size+1) wr hv' HK.o hD' ((t.block _ (Nat.lt_of_lt_of_le l1 M4.size) (M4.off l1 (nF _ (by omega)))).trans (KEEP.o _ _ _ M4).1) ((t.block _ (Nat.lt_of_lt_of_le l2 M4.size) (M4.off l2 (nF _ (by omega)))).trans (KEEP.o _ _ _ M4).2.1)))
 have LO:=hQQ LO
 clear h1 h2 h3 m3 hv3 hm hs R H hk T23 c3 f3 l3 rst e1 e2 NN nF
 go_wp2_with fail
 refine LO.o.mono ?_
 intro e w4 he
 rcases M0.o.step (ae.refl _) HK.o (re HH.o (qC HH.o) m step a0 a1) he with⟨a',hE,rfl,hd',ht',_⟩|⟨x4,D4,F4,hE,rfl,M4,hq4,_,_⟩
 ·exact⟨rfl,NEED.o a' w4 (HRr.o.symm.trans (ag hE)) hd' ht'⟩
 have R4:=(aj hE).symm.trans HRr.o
 have K4:=KEEP.o _ _ _ M4
 have K42:=hQQ K4.2.1
 have c9:=(aB K4.2.2).1
 have M4:=hQQ M4
 clear he hE LO K4
 by_cases z:x4= -1
 ·rw[if_pos z] at R4
  have e4:(x4 != -1)=false:=by simp[z]
  have LL4:=hQQ (LF.o w4 D4 F4 M4.o)
  have R4:=hQQ R4
  clear z LF
  go_wp2_with (first|(refine aK rfl rfl rfl K42.o (by kernel_rfl) ?_)|(refine aK rfl rfl rfl K42.o (by kernel_rfl) ?_))
  refine LL4.o.mono ?_
  intro e w5 he
  rcases M4.o.step (ae.refl _) HK.o (re HH.o (kg HH.o) m step a0 a1) he with⟨a',hE,rfl,hd',ht',_⟩|⟨x5,D5,F5,hE,rfl,M5,hq5,_,_⟩
  ·exact⟨rfl,NEED.o a' w5 (R4.o.symm.trans hE) hd' ht'⟩
  have FIN:=hQQ (DONE.o x5 w5 D5 F5 (R4.o.symm.trans hE) M5)
  clear he hE M5
  go_wp2_with fail
  go_ret
  exact FIN.o
 ·rw[if_neg z] at R4
  have e4:(x4 != -1)=true:=by simp[z]
  have FIN:=hQQ (DONE.o x4 w4 D4 F4 R4.symm M4.o)
  clear z LF R4 c9
  go_wp2_with fail
  go_ret
  exact FIN.o
def bF (c:Cfg)(p:Nat)(q k:Int):Array Value:=(Value.pointer (some ⟨p,0,none⟩)::(c.arr.toList++ [.int .i64 q,.int .i64 k])).toArray
theorem DG (c:Cfg):c.arr.toList.length=24:=rfl
theorem tj (c:Cfg)(p:Nat)(q k:Int):(bF c p q k)[0]?=some (.pointer (some ⟨p,0,none⟩)):=by simp[bF]
theorem tk (c:Cfg)(p:Nat)(q k:Int):(bF c p q k)[25]?=some (.int .i64 q):=by
 have h:=DG c
 unfold bF
 generalize c.arr.toList=l at h⊢
 rw[List.getElem?_toArray,show(25:Nat)=24+1 from rfl,List.getElem?_cons_succ,List.getElem?_append_right (by omega),h]
 rfl
theorem tn (c:Cfg)(p:Nat)(q k:Int):(bF c p q k)[26]?=some (.int .i64 k):=by
 have h:=DG c
 unfold bF
 generalize c.arr.toList=l at h⊢
 rw[List.getElem?_toArray,show(26:Nat)=25+1 from rfl,List.getElem?_cons_succ,List.getElem?_append_right (by omega),h]
 rfl
theorem gC (c:Cfg)(p:Nat)(q k:Int):∀j,j<c.arr.size→(bF c p q k)[1+j]?=c.arr[j]? :=fun j hj=>by
 have hj:j<c.arr.toList.length:=by simpa using hj
 rw[←Array.getElem?_toList (xs:=c.arr)]
 unfold bF
 generalize c.arr.toList=l at hj⊢
 rw[List.getElem?_toArray,Nat.add_comm,List.getElem?_cons_succ,List.getElem?_append_left hj]
theorem iG {P:Program}(w:World)(g off:Nat)(t ty:TypeId)(cs hs:Array Value)(fr:Nat×Nat)(d:TypeDesc)(hg:w.heap[g]?=some (.cells cs t fr))(hc:∀j,j<hs.size→cs[off+j]?=hs[j]?)
 (hu:P.underlying ty=some d) (hd:(match d with| .struct _| .array _ _=>true|_=>false)=true) (hi:(P.info? ty).map (·.size)=some hs.size):
 (loadVar ty ⟨g,off,none⟩).run P w=.ok (.agg hs) w:=by
 have hl:(loadCells ⟨g,off,none⟩ hs.toList.length).run P w=.ok hs.toList.toArray w :=
  run_loadCells_list (P:=P) w ⟨g,off,none⟩ hs.toList (fun j v hv=>by
   have hj:j<hs.size:=by have:=(List.getElem?_eq_some_iff.1 hv).1;simpa using this
   rw[i7,cell_of_row w g (off+j) cs t fr hg,hc j hj]
   simpa using hv)
 cases hq:P.info? ty with
 |none=>simp[hq] at hi
 |some i =>
  have hs:i.size=hs.size:=by simpa [hq] using hi
  have hagg:(isAgg ty).run P w=.ok true w:=by
   unfold isAgg
   rw[Sem.run_bind,run_underlying hu w]
   cases d<;>simp_all
  simp only[Array.length_toList,Array.toArray_toList] at hl
  simp[loadVar,Sem.run_bind,hagg,sizeOf,typeInfo,hq,hs,hl]
theorem dy {P:Program}{ops:Array Oper}{a:Act}{o:Oper}{rest:List Oper}{C:World→Prop}{Q:Act→Prop}(hw:Region.wanted o (yielded ops a.tmps)=true)(ty:TypeId)(x:Operand)(ho:o.op=.load ty x)
 (g off:Nat) (hx:a.eval x=.pointer (some ⟨g,off,none⟩)) (t:TypeId) (cs hs:Array Value) (fr:Nat×Nat) (d:TypeDesc) (hg:∀W,C W→W.heap[g]?=some (.cells cs t fr)) (hc:∀j,j<hs.size→cs[off+j]?=hs[j]?)
 (hu:P.underlying ty=some d) (hd:(match d with| .struct _| .array _ _=>true|_=>false)=true) (hi:(P.info? ty).map (·.size)=some hs.size)
 (h:wpQuiet P ops C Q rest (a.put o.dst (.agg hs))):wpQuiet P ops C Q (o::rest) a:=by
 refine sl (.agg hs) hw (fun W hW=>?_) h
 unfold Oper.quietAt execOp
 simp only[ho,hx,Instr.loadAt,Instr.sureAddr,Sem.run_bind,Sem.run_pure,Result.andThen_ok,iG W g off t ty cs hs fr d (hg W hW) hc hu hd hi]
 exact⟨rfl,rfl⟩
theorem iH {P:Program}{ops:Array Oper}{rest:List Oper}{o:Oper}{a:Act}{w:World}{Q:Exit→Act→World→Prop}(hw:Region.wanted o (yielded ops a.tmps)=true)(ty:TypeId)(x:Operand)(ho:o.op=.load ty x)
 (g off:Nat) (hx:a.eval x=.pointer (some ⟨g,off,none⟩)) (t:TypeId) (cs hs:Array Value) (fr:Nat×Nat) (d:TypeDesc) (hg:w.heap[g]?=some (.cells cs t fr)) (hc:∀j,j<hs.size→cs[off+j]?=hs[j]?)
 (hu:P.underlying ty=some d) (hd:(match d with| .struct _| .array _ _=>true|_=>false)=true) (hi:(P.info? ty).map (·.size)=some hs.size)
 (h:wpList P ops Q rest (a.put o.dst (.agg hs)) w):wpList P ops Q (o::rest) a w :=
 el hw fun K hK=>by
  unfold Oper.wp Oper.upon execOp
  simp only[ho,hx,Instr.loadAt,Instr.sureAddr,Sem.run_bind,Sem.run_pure,Result.andThen_ok,iG w g off t ty cs hs fr d hg hc hu hd hi]
  exact hK _ _ h
theorem xC {c:Cfg}(R:c.Ok)(w:World)(q:Int):Calls Tryz.prog 108 #[.agg c.arr,.int .i64 q] w (aP w (.int .i64 (dC c.pg c.st 2 q))):=Me R w q
theorem tt {c:Cfg}(R:c.Ok)(w:World)(q:Int):Calls Tryz.prog 134 #[.agg c.arr,.int .i64 q] w (aP w (.int .i64 (dC c.pg c.st 1 q))):=G8 R w q
theorem Ig {c:Cfg}(R:c.Ok){n:Nat}(H:PgIn c.pg c.st n)(F:Nat→Prop)(p:Nat)(kn:Int→Option Int)(D:List KV)(q k:Int)(hn:n≤10000)(hq:af c.pg q=true)(w:World)(hv:aD w F p kn D)(hk:OkK kn)(hD:cC n D):
 Calls Tryz.prog 82 #[.agg (bF c p q k)] w (aG w F p kn (fun x=> .int .i64 x) (cS (bA c.pg c.st q) kn D)):=by
 obtain⟨Rr,hRr⟩:∃Rr,cS (bA c.pg c.st q) kn D=Rr:=⟨_,rfl⟩
 rw[hRr]
 obtain⟨w1,e1,hl1,m1,s1⟩:=a6 w (.cells (bF c p q k) 90)
 have MM:=hQQ m1
 have L0:=hQQ hl1
 have c0:=(show w1.cell? ⟨w.heap.size,0,none⟩=some (.pointer (some ⟨p,0,none⟩)) by rw[cell_of_row w1 _ _ _ _ _ hl1];exact tj c p q k)
 have c25:=(show w1.cell? ⟨w.heap.size,25,none⟩=some (.int .i64 q) by rw[cell_of_row w1 _ _ _ _ _ hl1];exact tk c p q k)
 have c26:=(show w1.cell? ⟨w.heap.size,26,none⟩=some (.int .i64 k) by rw[cell_of_row w1 _ _ _ _ _ hl1];exact tn c p q k)
 have nFl:¬F w.heap.size:=fun z=>by have:=hv.lt _ z;omega
 have M0:=m0Z (hv.more m1) hD
 have NEED:=ndZ (F:=F) (p:=p) (kn:=kn) (R:=Rr) (fun x:Int=>Value.int .i64 x) MM.o
 have DONE:=dnZ (F:=F) (p:=p) (n:=n) (kn:=kn) (R:=Rr) (fun x:Int=>Value.int .i64 x) MM.o
 have HK:=hQQ hk
 have HR:=hQQ R
 clear hl1 m1 hv hD hk R nFl
 have hb:=(cj H hq).2.2
 have YB:=hQQ (fun W=>by have:=xC HR.o W q;rw[DA hq] at this;exact this)
 have HRr:=hQQ hRr
 have HB:=hQQ hb
 have pg2:=HR.o.pg2
 clear hRr hb hq
 go_enter Tryz.func82,Tryz.ntmps82
 go_wp2_with fail
 clear e1
 refine bM 7 (by kernel_rfl) (by kernel_rfl) ?_
 simp only[List.take_succ_cons,List.take_zero,List.drop_succ_cons,List.drop_zero]
 iterate 3
  with_reducible refine wpQuiet_step (fun K hK=>?_)
  go_simp
  first
  |(refine hK _ ?_;clear hK K)
  |(apply Exists.intro
    refine⟨fun W hW=>?_,hK _ ?_⟩
    first
    |(have c1':=hW.cell c0;go_simp;try rfl)
    clear hK K)
 refine dy rfl 28 _ rfl w.heap.size 1 rfl 90 _ c.arr _ _ (fun W hW=>hW.block L0.o) (gC c p q k) Tryz.underlying28 rfl (by kernel_rfl) ?_
 iterate 2
  with_reducible refine wpQuiet_step (fun K hK=>?_)
  go_simp
  first
  |(refine hK _ ?_;clear hK K)
  |(apply Exists.intro
    refine⟨fun W hW=>?_,hK _ ?_⟩
    first
    |(have c1':=hW.cell c25;go_simp;try rfl)
    clear hK K)
 iterate 1
  with_reducible refine wpQuiet_step (fun K hK=>?_)
  go_simp
  first
  |(refine hK _ ?_;clear hK K)
  |(apply Exists.intro
    refine⟨fun W hW=>?_,hK _ ?_⟩
    first
    |(go_at_call 108;exact Calls.more hW (YB.o W))
    |(go_simp;try rfl)
    clear hK K)
 refine wpQuiet_nil ?_
 intro w2 h2
 have M2:=hQQ (M0.o.more h2)
 clear h2 c0 c25 c26
 go_wp2_with fail
 refine(jj F p kn D (bA c.pg c.st q) w2 M2.o.view (by have:=HB.o;have:=M2.o.inv.len;unfold W64;omega)).mono ?_
 intro e w3 he
 rcases M2.o.step (ae.refl _) HK.o (bb n HB.o.2.1) he with⟨a',hE,rfl,hd',ht',_⟩|⟨x3,D3,F3,hE,rfl,M3,hq3,_,_⟩
 ·exact⟨rfl,NEED.o a' w3 (HRr.o.symm.trans hE) hd' ht'⟩
 have FIN:=hQQ (DONE.o x3 w3 D3 F3 (HRr.o.symm.trans hE) M3)
 clear he hE M3
 go_wp2_with fail
 go_ret
 exact FIN.o
theorem DH {c:Cfg}(R:c.Ok){n:Nat}(H:PgIn c.pg c.st n)(F:Nat→Prop)(p:Nat)(kn:Int→Option Int)(D:List KV)(q k b:Int)(hn:n≤10000)(hq:af c.pg q=true)(w:World)(hv:aD w F p kn D)(hb:dM kn D (bA c.pg c.st q)=some b):
 Calls Tryz.prog 82 #[.agg (bF c p q k)] w (aP w (.int .i64 b)):=by
 obtain⟨w1,e1,hl1,m1,s1⟩:=a6 w (.cells (bF c p q k) 90)
 have MM:=hQQ m1
 have L0:=hQQ hl1
 have c0:=(show w1.cell? ⟨w.heap.size,0,none⟩=some (.pointer (some ⟨p,0,none⟩)) by rw[cell_of_row w1 _ _ _ _ _ hl1];exact tj c p q k)
 have c25:=(show w1.cell? ⟨w.heap.size,25,none⟩=some (.int .i64 q) by rw[cell_of_row w1 _ _ _ _ _ hl1];exact tk c p q k)
 have c26:=(show w1.cell? ⟨w.heap.size,26,none⟩=some (.int .i64 k) by rw[cell_of_row w1 _ _ _ _ _ hl1];exact tn c p q k)
 have YB:=hQQ (fun W=>by have:=xC R W q;rw[DA hq] at this;exact this)
 have HV:Hq (∀W,ae w1 W→aD W F p kn D):=hQQ fun W m=>(hv.more m1).more m
 have HB:=hQQ hb
 have PB:=hQQ (cj H hq).2.2
 clear hl1 m1 hv hb R H hq
 go_enter Tryz.func82,Tryz.ntmps82
 go_wp2_with fail
 clear e1
 refine bM 7 (by kernel_rfl) (by kernel_rfl) ?_
 simp only[List.take_succ_cons,List.take_zero,List.drop_succ_cons,List.drop_zero]
 iterate 3
  with_reducible refine wpQuiet_step (fun K hK=>?_)
  go_simp
  first
  |(refine hK _ ?_;clear hK K)
  |(apply Exists.intro
    refine⟨fun W hW=>?_,hK _ ?_⟩
    first
    |(have c1':=hW.cell c0;go_simp;try rfl)
    clear hK K)
 refine dy rfl 28 _ rfl w.heap.size 1 rfl 90 _ c.arr _ _ (fun W hW=>hW.block L0.o) (gC c p q k) Tryz.underlying28 rfl (by kernel_rfl) ?_
 iterate 2
  with_reducible refine wpQuiet_step (fun K hK=>?_)
  go_simp
  first
  |(refine hK _ ?_;clear hK K)
  |(apply Exists.intro
    refine⟨fun W hW=>?_,hK _ ?_⟩
    first
    |(have c1':=hW.cell c25;go_simp;try rfl)
    clear hK K)
 iterate 1
  with_reducible refine wpQuiet_step (fun K hK=>?_)
  go_simp
  first
  |(refine hK _ ?_;clear hK K)
  |(apply Exists.intro
    refine⟨fun W hW=>?_,hK _ ?_⟩
    first
    |(go_at_call 108;exact Calls.more hW (YB.o W))
    |(go_simp;try rfl)
    clear hK K)
 refine wpQuiet_nil ?_
 intro w2 h2
 have M2:=hQQ h2
 clear h2 c0 c25 c26
 go_wp2_with fail
 refine(mT F p kn D _ b w2 (HV.o _ M2.o) (by have:=PB.o;unfold W64;omega) HB.o).mono ?_
 rintro e w3 ⟨rfl,m,rfl⟩
 have FIN:=hQQ ((MM.o.trans M2.o).drewN m)
 go_wp2_with fail
 go_ret
 exact⟨rfl,FIN.o⟩
theorem Ih {c:Cfg}(R:c.Ok)(p:Nat)(nd q k:Int)(w:World)(hd:bB w p nd):
 Calls Tryz.prog 128 #[.agg (bF c p q k)] w (aP w (.int .i64 0)):=by
 obtain⟨w1,e1,hl1,m1,s1⟩:=a6 w (.cells (bF c p q k) 90)
 have MM:=hQQ m1
 have L0:=hQQ hl1
 have c0:=(show w1.cell? ⟨w.heap.size,0,none⟩=some (.pointer (some ⟨p,0,none⟩)) by rw[cell_of_row w1 _ _ _ _ _ hl1];exact tj c p q k)
 have c25:=(show w1.cell? ⟨w.heap.size,25,none⟩=some (.int .i64 q) by rw[cell_of_row w1 _ _ _ _ _ hl1];exact tk c p q k)
 have c26:=(show w1.cell? ⟨w.heap.size,26,none⟩=some (.int .i64 k) by rw[cell_of_row w1 _ _ _ _ _ hl1];exact tn c p q k)
 have YB:=hQQ (fun W=>tt R W q)
 have DD:Hq (∀W,ae w1 W→bB W p nd):=hQQ fun W m=>(hd.keep m1 (fun q=>q)).keep m (fun q=>q)
 clear hl1 m1 hd R
 go_enter Tryz.func128,Tryz.ntmps128
 go_wp2_with fail
 clear e1
 refine bM 7 (by kernel_rfl) (by kernel_rfl) ?_
 simp only[List.take_succ_cons,List.take_zero,List.drop_succ_cons,List.drop_zero]
 iterate 3
  with_reducible refine wpQuiet_step (fun K hK=>?_)
  go_simp
  first
  |(refine hK _ ?_;clear hK K)
  |(apply Exists.intro
    refine⟨fun W hW=>?_,hK _ ?_⟩
    first
    |(have c1':=hW.cell c0;go_simp;try rfl)
    clear hK K)
 refine dy rfl 28 _ rfl w.heap.size 1 rfl 90 _ c.arr _ _ (fun W hW=>hW.block L0.o) (gC c p q k) Tryz.underlying28 rfl (by kernel_rfl) ?_
 iterate 2
  with_reducible refine wpQuiet_step (fun K hK=>?_)
  go_simp
  first
  |(refine hK _ ?_;clear hK K)
  |(apply Exists.intro
    refine⟨fun W hW=>?_,hK _ ?_⟩
    first
    |(have c1':=hW.cell c25;go_simp;try rfl)
    clear hK K)
 iterate 1
  with_reducible refine wpQuiet_step (fun K hK=>?_)
  go_simp
  first
  |(refine hK _ ?_;clear hK K)
  |(apply Exists.intro
    refine⟨fun W hW=>?_,hK _ ?_⟩
    first
    |(go_at_call 134;exact Calls.more hW (YB.o W))
    |(go_simp;try rfl)
    clear hK K)
 refine wpQuiet_nil ?_
 intro w2 h2
 have M2:=hQQ h2
 clear h2 c0 c25 c26
 go_wp2_with fail
 refine(vB p nd _ w2 (DD.o _ M2.o)).mono ?_
 rintro e w3 ⟨rfl,rfl⟩
 go_wp2_with fail
 go_ret
 exact⟨rfl,MM.o.trans M2.o⟩
end Go.Proofs.YtddmeghbmdfgeaaGreatDoor
