/-
  The landed package pages: the block whose first word is asked for.
-/
import Derived.Test.YtddmeghbmdfgeaaGreatDoorFeAg
import Derived.Recover
import Derived.Test.YtddmeghbmdfgeaaGreatDoorFeAe
import Derived.Test.YtddmeghbmdfgeaaGreatDoorFeAc
import Derived.ProofKit
import Derived.OpenShut
import Derived.Deep.Slices
import Derived.Deep.Fields
import Derived.Lib.SmallJoins
import Derived.Test.YtddmeghbmdfgeaaGreatDoorFeAf
set_option maxRecDepth 100000
set_option maxHeartbeats 8000000
set_option linter.all false
namespace Go.Proofs.YtddmeghbmdfgeaaGreatDoor
open Go.RowKit Go.Sort Go.Maps Go.Shelf
theorem iX {P:Program}{fn:Func}{p u v:Tmp}{ty:TypeId}(h:fn.results= #[.cell p ty,.tmp u,.tmp v])(tmps:Array Value)(w:World)(g:Nat)(t:TypeId)(cs:Array Value)(fr:Nat×Nat)(d:TypeDesc)
 (hp:tmps.getD p undef=.pointer (some ⟨g,0,none⟩)) (hg:w.heap[g]?=some (.cells cs t fr))
 (hu:P.underlying ty=some d) (hd:(match d with| .struct _| .array _ _=>true|_=>false)=true) (hi:(P.info? ty).map (·.size)=some cs.size):
 (results fn tmps).run P w=.ok (.tuple #[.agg cs,tmps.getD u undef,tmps.getD v undef]) w:=by
 have hp':tmps[p]?.getD undef=.pointer (some ⟨g,0,none⟩):=by simpa using hp
 simp[results,h,hp',asAddr,run_loadVar_row w g t ty cs fr d hg hu hd hi,Sem.run_bind,Result.andThen]
def Cfg.us (c:Cfg):Int:=fQ c.cp c.pg c.st c.ca c.bi
def pgZ:Array Value:= #[Value.pointer none,Value.int IntKind.i64 0,Value.int IntKind.i64 0,Value.int IntKind.i64 0,Value.int IntKind.i64 0,Value.int IntKind.i64 0,Value.int IntKind.i64 0,Value.int IntKind.i64 0,Value.int IntKind.i64 0,Value.int IntKind.i64 0,Value.int IntKind.i64 0,Value.int IntKind.i64 0,Value.int IntKind.i64 0,Value.int IntKind.i64 0,Value.int IntKind.i64 0,Value.int IntKind.i64 0,Value.int IntKind.i64 0,Value.int IntKind.i64 0,Value.int IntKind.i64 0,Value.int IntKind.i64 0,Value.int IntKind.i64 0,Value.int IntKind.i64 0,Value.int IntKind.i64 0,Value.int IntKind.i64 0,Value.int IntKind.i64 0,Value.int IntKind.i64 0,Value.int IntKind.i64 0]
theorem MidV.row {W wr:World}{F S F':Nat→Prop}{p n:Nat}{kn:Int→Option Int}{D:List KV}(h:MidV W wr F S p kn n D F'){b:Nat}(hS:b<W.heap.size→S b)(nF:¬F' b)(cs':Array Value){cs:Array Value}{t:TypeId}{fr:Nat×Nat}(hb:wr.heap[b]?=some (.cells cs t fr)):MidV W (wr.setRow b cs') F S p kn n D F' :=
 have T:Turned (fun k=>k=b) wr (wr.setRow b cs'):=Turned.setRow (Turned.refl _ wr) b cs' (fun _=>rfl)
 ⟨h.view.keepS (S:=fun k=>k=b) T (fun k q e=>nF (e▸q)) (fun k es cl e q=>by subst e;rw[hb] at q;cases q),
  h.from',am h.turn T (fun k q=>by
   subst q
   rcases Nat.lt_or_ge k W.heap.size with r|r
   ·exact .inl (.inr (hS r))
   ·exact .inr r),h.inv⟩
theorem oz {w:World}{g b:Nat}{cs:Array Value}{o:Obj}(h:w.heap[b]?=some o)(hne:b≠g):(w.setRow g cs).heap[b]?=some o :=
 ((Turned.setRow (S:=fun k=>k=g) (Turned.refl _ w) g cs (fun _=>rfl)).block b (ac h) hne).trans h
theorem vT (w:World):∃w1,w.alloc (.cells pgZ 90)=w1∧w1.heap[w.heap.size]?=some (.cells pgZ 90 (0,0))∧ae w w1:=⟨_,rfl,aY w _ _,(ae.refl w).alloc _⟩
section
variable {o:Oper}{a:Act}{w:World}{K:Act→World→Prop}{Q:Exit→Act→World→Prop}{ops:Array Oper}{rest:List Oper}{C:World→Prop}
theorem nV (ho:o.op=.alloc 90)(h:K (a.put o.dst (.pointer (some ⟨w.heap.size,0,none⟩))) (w.alloc (.cells pgZ 90))):Oper.wp Tryz.prog o a w K Q:=by
 unfold Oper.wp Oper.upon execOp
 simp only[ho]
 go_simp
 exact h
theorem pA (hw:Region.wanted o (yielded ops a.tmps)=true)(x0 x1 x2 x3:Operand)(ho:o.op=.build 90 #[(0,x0),(1,x1),(2,x2),(3,x3)])(c:Cfg)(p:Nat)(q k:Int)
 (h0:a.eval x0=.pointer (some ⟨p,0,none⟩)) (h1:a.eval x1=.agg c.arr) (h2:a.eval x2=.int .i64 q) (h3:a.eval x3=.int .i64 k):bV Tryz.prog ops C o (.agg (bE c p q k)) a:=by
 refine .inl ⟨hw,fun w _=>?_⟩
 unfold execOp
 generalize a.eval=ρ at h0 h1 h2 h3⊢
 simp only[ho,List.map_toArray,List.map_cons,List.map_nil,h0,h1,h2,h3]
 simp[run_build w _ _ _ (tw c p q k),Sem.run_bind,Result.andThen]
theorem Ci:Tryz.prog.built 90 []=some pgZ:=by kernel_rfl
theorem mu (hgd:o.guard=none)(ho:o.op=.build 90 #[])(h:wpList Tryz.prog ops Q rest (a.put o.dst (.agg pgZ)) w):wpList Tryz.prog ops Q (o::rest) a w:=by
 have e:Tryz.prog.built 90 ((#[]:Array (Nat×Operand)).map fun(i,x)=>(i,a.eval x)).toList=some pgZ:=by simp only[List.map_toArray,List.map_nil];exact Ci
 refine wpList_build hgd _ _ ho ?_ ?_
 ·rw[e];rfl
 ·rw[e];exact h
theorem xM {i j:Nat}{x y:Value}(h:i≠j):Act.put (Act.put a (some i) x) (some j) y=Act.put (Act.put a (some j) y) (some i) x:=Act.put_comm a x y (fun d hd e=>by cases hd;cases e;exact h rfl)
end
theorem lj {W:World}{gb p:Nat}{c:Cfg}{q k:Int}(h:W.heap[gb]?=some (.cells (bE c p q k) 90 (0,0))):W.cell? ⟨gb,0,none⟩=some (.pointer (some ⟨p,0,none⟩))∧W.cell? ⟨gb,25,none⟩=some (.int .i64 q)∧W.cell? ⟨gb,26,none⟩=some (.int .i64 k):=
 ⟨by rw[cell_of_row W _ _ _ _ _ h];exact ti c p q k,by rw[cell_of_row W _ _ _ _ _ h];exact tj c p q k,by rw[cell_of_row W _ _ _ _ _ h];exact tk c p q k⟩
theorem IA (x:Int):W64 (IntKind.i64.wrap x):=by rw[IntKind.wrap_i64];unfold W64;omega
theorem IC (k:Int){bt:Nat}(w:World)(h:df bt w):Calls Tryz.prog 26 #[.int .i64 k] w (aP w (.int .i64 (szV k))):=(xL k w ⟨bt,h⟩).mono fun e w' q=>⟨q.1,q.2▸ae.refl _⟩
abbrev TkA:=Option (Int×Int×Int×Bool)
def tz (c:Cfg)(p:Nat):TkA→Value
 |none=> .tuple #[.agg pgZ,.int .i64 0,.bool false]
 |some (q,k,i,b)=> .tuple #[.agg (bE c p q k),.int .i64 i,.bool b]
def jr (pg st q wd x:Int):Prg TkA :=
 if aw (IntKind.i64.wrap (x-1))=0 then ay none else if wd % szV (IntKind.i64.wrap (x-1))≠0 then ay none
 else aq (cU (bA pg st q)) fun b=>ay (some (q,IntKind.i64.wrap (x-1),wd / szV (IntKind.i64.wrap (x-1)),eG b (wd / szV (IntKind.i64.wrap (x-1)))))
def fT (us pg st a:Int):Prg TkA:=if us≤a∧a<us+32 * pg then aq (eN pg st ((a-us) / 32)) fun x=>jr pg st ((a-us) / 32) ((a-us) % 32) x else ay none
theorem xN (pg st q wd x:Int):bg (jr pg st q wd x):=aH (ah _) (aH (ah _) (ak (dy _) fun _=>ah _))
theorem rh (us pg st a:Int):bg (fT us pg st a):=aH (ak (jq _ _ _) fun _=>xN _ _ _ _ _) (ah _)
def Pf (pg:Int)(x:TkA):Prop:=∀q k i b,x=some (q,k,i,b)→af pg q=true∧0≤k∧k≤4∧0≤i∧i≤31
theorem zK {pg st:Int}{n:Nat}(H:PgIn pg st n){q:Int}(hq:af pg q=true){wd:Int}(hw:0≤wd∧wd<32)(x:Int):bK n (Pf pg) (jr pg st q wd x):=by
 unfold jr
 refine aW (fun _=>ai n (fun _ _ _ _ e=>by cases e)) (fun h=>aW (fun _=>ai n (fun _ _ _ _ e=>by cases e)) (fun _=>ar (bd n (cm H hq).2.2.2.1) fun b _=>ai n ?_))
 rintro q' k' i' b' e
 cases e
 have h4:=fl h
 generalize IntKind.i64.wrap (x-1)=kk at h4⊢
 obtain⟨z,rfl⟩:∃z:Nat,kk=(z:Int):=⟨kk.toNat,by omega⟩
 have hs:=KZ (k:=z) (by omega)
 exact⟨hq,h4.1,h4.2,Int.ediv_nonneg hw.1 (by omega),by have:=Int.ediv_le_self (szV (z:Int)) hw.1;omega⟩
theorem nr {us pg a:Int}(h:us≤a∧a<us+32 * pg):af pg ((a-us) / 32)=true∧0≤(a-us) % 32∧(a-us) % 32<32:=⟨ax.2 (by omega),by omega,by omega⟩
theorem js {us pg st:Int}{n:Nat}(H:PgIn pg st n)(a:Int):bK n (Pf pg) (fT us pg st a):=by
 unfold fT
 exact aW (fun h=>ar (fj H _) fun x _=>zK H (nr h).1 (nr h).2 x) (fun _=>ai n (fun _ _ _ _ e=>by cases e))
theorem Ea {c:Cfg}(R:c.Ok){n:Nat}(H:cF c.pg c.st n)(hn:n≤10000)(F:Nat→Prop)(p:Nat)(kn:Int→Option Int)(D:List KV)(ad:Int)(w:World)(hv:aE w F p kn D)(hk:OkK kn)(hD:cD n D)(bt:Nat)(hs:df bt w)(nF0:¬F 0)(nFb:¬F bt):
 Calls Tryz.prog 44 #[.pointer (some ⟨p,0,none⟩),.agg c.arr,.int .i64 ad] w (aB w F p kn (tz c p) (fT c.us c.pg c.st ad kn D)):=by
 obtain⟨Rr,hRr⟩:∃Rr,fT c.us c.pg c.st ad kn D=Rr:=⟨_,rfl⟩
 rw[hRr]
 obtain⟨w2,e2,hl2,hz2,m2,s2⟩:=gU w (.cells c.arr 28) (.cells #[Value.pointer none,Value.int IntKind.i64 0,Value.int IntKind.i64 0,Value.int IntKind.i64 0,Value.int IntKind.i64 0,Value.int IntKind.i64 0,Value.int IntKind.i64 0,Value.int IntKind.i64 0,Value.int IntKind.i64 0,Value.int IntKind.i64 0,Value.int IntKind.i64 0,Value.int IntKind.i64 0,Value.int IntKind.i64 0,Value.int IntKind.i64 0,Value.int IntKind.i64 0,Value.int IntKind.i64 0,Value.int IntKind.i64 0,Value.int IntKind.i64 0,Value.int IntKind.i64 0,Value.int IntKind.i64 0,Value.int IntKind.i64 0,Value.int IntKind.i64 0,Value.int IntKind.i64 0,Value.int IntKind.i64 0,Value.int IntKind.i64 0,Value.int IntKind.i64 0,Value.int IntKind.i64 0] 90)
 have hz2:w2.heap[w.heap.size+1]?=some (.cells pgZ 90 (0,0)):=hz2
 have nFl:¬F w.heap.size:=fun q=>by have:=hv.lt _ q;omega
 have nFz:¬F (w.heap.size+1):=fun q=>by have:=hv.lt _ q;omega
 have MM:=hQQ m2
 have HNZ:=hQQ nFz
 have HZL:=hQQ (show w.heap.size+1<w2.heap.size by omega)
 have L0:=hQQ hl2
 have M0:Hq (MidV w2 w2 F (fun b=>b=w.heap.size+1) p kn n D F∧w2.heap[w.heap.size+1]?=some (.cells pgZ 90 (0,0))):=hQQ ⟨MidV.begin (hv.more m2) hD,hz2⟩
 have KL:Hq (∀wr D' F',MidV w2 wr F (fun b=>b=w.heap.size+1) p kn n D' F'→wr.heap[w.heap.size]?=some (.cells c.arr 28 (0,0))):=hQQ fun wr D' F' h=>cE h L0.o nFl (fun q=>by omega)
 have hSS:∀b,(fun b=>b=w.heap.size+1) b→w.heap.size≤b:=fun b q=>by have:b=w.heap.size+1:=q;omega
 have NEED:Hq (∀a w3,Rr=.need a→aN w3 p a→Turned (fun b=>F b∨b=w.heap.size+1) w2 w3→aB w F p kn (tz c p) Rr (.panicked (aR p)) w3):=hQQ fun a w3 e hd ht=>ct MM.o hSS e hd ht
 have DONE:Hq (∀x w3 D' F',Rr=.ok x D'→MidV w2 w3 F (fun b=>b=w.heap.size+1) p kn n D' F'→aB w F p kn (tz c p) Rr (.returned (tz c p x)) w3):=hQQ fun x w3 D' F' e h=>bQ MM.o hSS h e
 have SZ:Hq (∀wr D' F',MidV w2 wr F (fun b=>b=w.heap.size+1) p kn n D' F'→df bt wr):=hQQ fun wr D' F' h=>(hs.more MM.o).keep h.turn (by rintro(q|q);exact nF0 q;have:=hs.lt0;omega) (by rintro(q|q);exact nFb q;have:=hs.lt;omega)
 have HK:=hQQ hk
 have HR:=hQQ R
 have HH:=hQQ H
 have pg1:=HR.o.pg1
 have pg2:=HR.o.pg2
 clear hl2 hz2 m2 hv hD hk R H nFl nFz hs nF0 nFb hSS
 unfold fT at hRr
 have L2:=hQQ (KL.o _ _ _ M0.o.1)
 by_cases hin:c.us≤ad∧ad<c.us+32 * c.pg
 ·rw[if_pos hin] at hRr
  obtain⟨hq,hwd⟩:=nr hin
  have PL:=hQQ (EF HR.o w2 ad hin.1 hin.2)
  have PL:=hQQ (show Calls Tryz.prog 79 #[.agg c.arr,.int .i64 ad] w2 (aP w2 (.tuple #[.int .i64 ((ad-c.us) / 32),.int .i64 ((ad-c.us) % 32),.bool true])) from PL.o)
  generalize (ad-c.us) / 32=q at hRr hq PL
  generalize (ad-c.us) % 32=wd at hRr hwd PL
  have HRr:=hQQ hRr
  have HQ:=hQQ hq
  have PB:=hQQ (cm HH.o.toPgIn hq)
  clear hin hRr hq
  go_enter Tryz.func44,Tryz.ntmps44
  go_wp2_with (first|(refine aI rfl rfl rfl L2.o (by kernel_rfl) ?_)|(refine aI rfl rfl rfl L2.o (by kernel_rfl) ?_))
  refine PL.o.mono ?_
  rintro e w3 ⟨rfl,h3⟩
  have M3:=hQQ (And.intro (M0.o.1.more h3) (h3.block M0.o.2))
  clear h3
  go_wp2_with fail
  have MR:Hq (MidV w2 (w3.drewN 1) F (fun b=>b=w.heap.size+1) p kn n D F∧(w3.drewN 1).heap[w.heap.size+1]?=some (.cells pgZ 90 (0,0))):=hQQ ⟨M3.o.1.more ((ae.refl w3).drewN 1),((ae.refl w3).drewN 1).block M3.o.2⟩
  have KC:Hq (∀W D' F',MidV w2 W F (fun b=>b=w.heap.size+1) p kn n D' F'∧W.heap[w.heap.size+1]?=some (.cells pgZ 90 (0,0))→W.heap[w.heap.size]?=some (.cells c.arr 28 (0,0))):=hQQ fun _ _ _ h=>KL.o _ _ _ h.1
  refine aO (fun W=>W.heap[w.heap.size]?=some (.cells c.arr 28 (0,0))) (by kernel_rfl) ?_
  change dh _ _ _ _ _ _ _ _ (w3.drewN 1)
  generalize hA:Act.mk _ _=A
  have HF:AG 57 A [(0,.pointer (some ⟨p,0,none⟩)),(4,.pointer (some ⟨w.heap.size,0,none⟩)),(9,.int .i64 q)]:=by
   rw[←hA];try simp only[pts,List.foldl]
   refine⟨⟨Nat.le_of_ble_eq_true rfl,rfl⟩,?_⟩
   intro z hz;simp only[List.mem_cons,List.not_mem_nil,or_false] at hz;rcases hz with rfl|rfl|rfl<;>rfl
  generalize w3.drewN 1=wq at MR⊢
  refine bJ (fun a W=>∃(u24 u25 u26 u27 u28 u29 u30 u31 u32:Value) (gb:Nat) (x9:Int) (D9:List KV) (F9:Nat→Prop),a=(Act.put (pts A [(24,u24),(25,u25),(26,u26),(27,u27),(28,u28),(29,u29),(30,u30),(31,u31),(32,u32),(12,.pointer (some ⟨gb,0,none⟩))]) none undef)∧(MidV w2 W F (fun b=>b=w.heap.size+1) p kn n D9 F9∧W.heap[w.heap.size+1]?=some (.cells pgZ 90 (0,0))∧W.heap[gb]?=some (.cells (bE c p q (IntKind.i64.wrap (x9-1))) 90 (0,0))∧w2.heap.size≤gb∧¬F9 gb)∧jr c.pg c.st q wd x9 kn D9=Rr) (fun W=>aB w F p kn (tz c p) Rr (.panicked (aR p)) W) (aR p) (fun a W hd h=>⟨hd,h⟩) (fun _ _ _ _ _ h=>h) ?_ ?_
  ·skip
   rintro a W9 ⟨u24,u25,u26,u27,u28,u29,u30,u31,u32,gb,x9,D9,F9,rfl,⟨m9,hz9,hb9,hgb,hnb⟩,hr⟩
   rw[←hA];try simp only[pts,List.foldl]
   have HNB:=hQQ hnb
   have HGB:=hQQ hgb
   have B9:=hQQ hb9
   have M9:=hQQ (And.intro m9 (And.intro hz9 hb9))
   clear HF hA MR KC m9 hz9 hb9 hgb hnb
   go_simp
   obtain⟨kk,hkk⟩:∃kk,IntKind.i64.wrap (x9-1)=kk:=⟨_,rfl⟩
   unfold jr at hr
   simp only[hkk] at hr M9 B9
   have hwkk:W64 kk:=by rw[←hkk];exact IA _
   clear hkk
   obtain⟨c0,c25,c26⟩:=lj B9.o
   go_wp2_with fail
   refine(DY kk W9 (SZ.o _ _ _ M9.o.1)).mono ?_
   rintro e w10 ⟨rfl,h10⟩
   have M10:=hQQ (And.intro (M9.o.1.more h10) (And.intro (h10.block M9.o.2.1) (h10.block M9.o.2.2)))
   clear h10 c0 c25 c26
   obtain⟨c0,c25,c26⟩:=lj M10.o.2.2
   by_cases hz:aw kk=0
   ·rw[if_pos hz] at hr
    have d0:(aw kk != 0)=false:=by simp[hz]
    have MZ:=M10.o.1.row (b:=w.heap.size+1) (fun _=>rfl) (M10.o.1.off HZL.o HNZ.o) pgZ M10.o.2.1
    have HZ:=setRow_heap _ (w.heap.size+1) pgZ pgZ _ _ M10.o.2.1
    obtain⟨wz,ez⟩:∃wz,World.setRow w10 (w.heap.size+1) pgZ=wz:=⟨_,rfl⟩
    have Z0:=hQQ M10.o.2.1
    rw[ez] at MZ HZ
    have FIN:=hQQ (DONE.o none wz D9 F9 (hr.symm) MZ)
    clear MZ
    go_wp2_with (first|(refine mu rfl rfl ?_)|(refine wpList_store_row rfl 90 _ _ rfl _ _ rfl rfl 90 _ Z0.o (by kernel_rfl) rfl (by kernel_rfl) ?_))
    refine bodyPost_ret (iX rfl _ _ (w.heap.size+1) 90 pgZ _ _ rfl HZ Tryz.underlying90 rfl (by kernel_rfl)) rfl ?_
    exact FIN.o
   rw[if_neg hz] at hr
   have d0:(aw kk != 0)=true:=by simpa using hz
   have hk4:=fl hz
   obtain⟨kn',rfl⟩:∃z:Nat,kk=(z:Int):=⟨kk.toNat,by omega⟩
   have hsb:=KZ (k:=kn') (by omega)
   have CS:=hQQ (fun(W:World) (hW:df bt W)=>IC (kn':Int) W hW)
   obtain⟨sz,hsz⟩:∃sz,szV (kn':Int)=sz:=⟨_,rfl⟩
   rw[hsz] at hr hsb CS
   have t1:wd.tmod sz=wd % sz:=Int.tmod_eq_emod_of_nonneg hwd.1
   have t2:wd.tdiv sz=wd / sz:=Int.tdiv_eq_ediv_of_nonneg hwd.1
   have t3:0≤wd % sz∧wd % sz<sz:=⟨Int.emod_nonneg _ (by omega),Int.emod_lt_of_pos _ (by omega)⟩
   have t4:0≤wd / sz∧wd / sz≤wd:=⟨Int.ediv_nonneg hwd.1 (by omega),Int.ediv_le_self _ hwd.1⟩
   have t5:IntKind.i64.wrap (wd / sz)=wd / sz:=az (by omega) (by omega)
   have z0:(sz==0)=false:=by simp;omega
   have z1:decide (sz=0)=false:=by simp;omega
   have z2:(sz== -1)=false:=by simp;omega
   have z3:decide (sz= -1)=false:=by simp;omega
   have z4:¬sz=0:=by omega
   have z5:¬sz= -1:=by omega
   obtain⟨ix,hix⟩:∃ix,wd / sz=ix:=⟨_,rfl⟩
   obtain⟨mm,hmm⟩:∃mm,wd % sz=mm:=⟨_,rfl⟩
   rw[hix] at hr t2 t4 t5
   rw[hmm] at hr t1 t3
   have HIX:=hQQ t4
   have HW:=hQQ hwkk
   clear hz hk4 hsz hix hmm t4 t3 hwkk
   by_cases hm0:mm=0
   ·rw[if_neg (by simpa using hm0)] at hr
    have d1:(mm != 0)=false:=by simp[hm0]
    have RN:=hQQ hr
    clear hr
    go_wp2_with fail
    refine(CS.o w10 (SZ.o _ _ _ M10.o.1)).mono ?_
    rintro e w11 ⟨rfl,h11⟩
    have M11:=hQQ (And.intro (M10.o.1.more h11) (And.intro (h11.block M10.o.2.1) (h11.block M10.o.2.2)))
    clear h11 c0 c25 c26
    obtain⟨c0,c25,c26⟩:=lj M11.o.2.2
    go_wp2_with fail
    refine(CS.o w11 (SZ.o _ _ _ M11.o.1)).mono ?_
    rintro e w9 ⟨rfl,h9⟩
    have M9:=hQQ (And.intro (M11.o.1.more h9) (And.intro (h9.block M11.o.2.1) (h9.block M11.o.2.2)))
    clear h9 c0 c25 c26 d0 d1 hm0 z0 z1 z2 z3 z4 z5 t1
    go_wp2_with fail
    generalize (kn':Int)=kk at M9 RN HW M11 M10 B9
    clear t2 t5 hsb M11 M10 B9 CS
    have MR:Hq (MidV w2 (w9.drewN 1) F (fun b=>b=w.heap.size+1) p kn n D9 F9∧(w9.drewN 1).heap[w.heap.size+1]?=some (.cells pgZ 90 (0,0))∧(w9.drewN 1).heap[gb]?=some (.cells (bE c p q kk) 90 (0,0))):=hQQ ⟨M9.o.1.more ((ae.refl w9).drewN 1),((ae.refl w9).drewN 1).block M9.o.2.1,((ae.refl w9).drewN 1).block M9.o.2.2⟩
    have KC:Hq (∀W D' F',MidV w2 W F (fun b=>b=w.heap.size+1) p kn n D' F'∧W.heap[w.heap.size+1]?=some (.cells pgZ 90 (0,0))∧W.heap[gb]?=some (.cells (bE c p q kk) 90 (0,0))→W.heap[gb]?=some (.cells (bE c p q kk) 90 (0,0))):=hQQ fun _ _ _ h=>h.2.2
    refine aO (fun W=>W.heap[gb]?=some (.cells (bE c p q kk) 90 (0,0))) (by kernel_rfl) ?_
    change dh _ _ _ _ _ _ _ _ (w9.drewN 1)
    generalize hA:Act.mk _ _=A
    have HF:AG 57 A [(6,.pointer (some ⟨w.heap.size+1,0,none⟩)),(12,.pointer (some ⟨gb,0,none⟩)),(13,.int .i64 ix)]:=by
     rw[←hA];try simp only[pts,List.foldl]
     refine⟨⟨Nat.le_of_ble_eq_true rfl,rfl⟩,?_⟩
     intro z hz;simp only[List.mem_cons,List.not_mem_nil,or_false] at hz;rcases hz with rfl|rfl|rfl<;>rfl
    generalize w9.drewN 1=wq at MR⊢
    refine bJ (fun a W=>∃(u51 u52 u53 u55 u54 u56:Value) (x10:Int) (D10:List KV) (F10:Nat→Prop),a=(pts A [(51,u51),(52,u52),(53,u53),(55,u55),(54,u54),(56,u56),(7,.int .i64 ix),(8,.bool (eG x10 ix))])∧MidV w2 W F (fun b=>b=w.heap.size+1) p kn n D10 F10∧W.heap[w.heap.size+1]?=some (.cells (bE c p q kk) 90 (0,0))∧Rr=.ok (some (q,kk,ix,eG x10 ix)) D10) (fun W=>aB w F p kn (tz c p) Rr (.panicked (aR p)) W) (aR p) (fun a W hd h=>⟨hd,h⟩) (fun _ _ _ _ _ h=>h) ?_ ?_
    ·skip
     rintro a wa ⟨u51,u52,u53,u55,u54,u56,x10,D10,F10,rfl,MS,HS,hr⟩
     rw[←hA];try simp only[pts,List.foldl]
     have FIN:=hQQ (DONE.o (some (q,kk,ix,eG x10 ix)) wa D10 F10 hr MS)
     clear HF hA MR KC hr
     go_simp
     go_wp2_with fail
     refine bodyPost_ret (iX rfl _ _ (w.heap.size+1) 90 (bE c p q kk) _ _ rfl HS Tryz.underlying90 rfl (by kernel_rfl)) rfl ?_
     exact FIN.o
    intro QQ FINE FIND FINQ
    clear hA
    refine tqC 0 51 (.agg (bE c p q kk)) (by kernel_rfl) FINQ (KC.o _ _ _ MR.o) HF (by exact aD (ab rfl) 90 _ rfl gb (HF.get 1 rfl) 90 _ _ _ (fun W hW=>hW) Tryz.underlying90 rfl (by kernel_rfl)) fun A β1 HF=>?_
    refine tqM 1 52 3 rfl (.inl rfl) rfl (by kernel_rfl) FINQ (KC.o _ _ _ MR.o) HF fun A β2 HF=>?_
    refine tqC 2 53 (.agg (bE c p q kk)) (by kernel_rfl) FINQ (KC.o _ _ _ MR.o) HF (by exact aD (ab rfl) 90 _ rfl gb (HF.get 3 rfl) 90 _ _ _ (fun W hW=>hW) Tryz.underlying90 rfl (by kernel_rfl)) fun A β3 HF=>?_
    refine tqM 4 55 5 rfl (.inl rfl) rfl (by kernel_rfl) FINQ (KC.o _ _ _ MR.o) HF fun A β4 HF=>?_
    refine tqO 3 54 (by kernel_rfl) HF fun K hK=>?_
    refine sW (v0:=.agg (bE c p q kk)) rfl (HF.get 1 rfl) (enters_of Tryz.func82 (by kernel_rfl) rfl) ?_
    refine(Io HR.o HH.o.toPgIn F9 p kn D9 q kk hn HQ.o wq MR.o.1.view HK.o MR.o.1.inv).mono ?_
    intro e w10 he
    rcases MR.o.1.step (ae.refl _) HK.o (bd n PB.o.2.2.2.1) he with⟨a',hE,rfl,hd',ht',_⟩|⟨x10,D10,F10,hE,rfl,M10',hq10,hk10,hf10⟩
    ·exact FIND _ _ HF.1.2 (NEED.o a' w10 (RN.o.symm.trans (ag hE)) hd' ht')
    have R10:=hQQ (RN.o.symm.trans (aj hE))
    have nz10:¬F10 (w.heap.size+1):=M10'.off HZL.o HNZ.o
    have M10:Hq (MidV w2 w10 F (fun b=>b=w.heap.size+1) p kn n D10 F10∧w10.heap[w.heap.size+1]?=some (.cells pgZ 90 (0,0))∧w10.heap[gb]?=some (.cells (bE c p q kk) 90 (0,0))):=hQQ ⟨M10',hk10 _ _ (MR.o.1.off HZL.o HNZ.o) MR.o.2.1,hk10 _ _ HNB.o MR.o.2.2⟩
    clear he hE hk10 hf10
    refine hK _ _ (KC.o _ _ _ M10.o) fun A β5 HF=>?_
    clear hK K
    refine tqO 5 56 (by kernel_rfl) HF fun K hK=>?_
    refine bH (v0:=.int .i64 x10) (v1:=.int .i64 ix) rfl (HF.get 0 rfl) (HF.get 1 rfl) (enters_of Tryz.func81 (by kernel_rfl) rfl) ?_
    refine(MD x10 ix w10).mono ?_
    rintro e w11 ⟨rfl,rfl⟩
    refine hK _ _ (KC.o _ _ _ M10.o) fun A β6 HF=>?_
    clear hK K
    refine bF (i:=6) none (by kernel_rfl) rfl (ab rfl) rfl (fun K hK=>?_)
    refine wp_store_row 90 _ _ rfl (w.heap.size+1) _ (HF.get 6 rfl) (HF.get 5 rfl) 90 pgZ M10.o.2.1 (by kernel_rfl) rfl (qB ..) ?_
    have MS:=M10.o.1.row (b:=w.heap.size+1) (fun _=>rfl) nz10 (bE c p q kk) M10.o.2.1
    have HS1:=setRow_heap _ (w.heap.size+1) pgZ (bE c p q kk) _ _ M10.o.2.1
    have HS2:=oz (cs:=bE c p q kk) M10.o.2.2 (show gb≠w.heap.size+1 by have:=HGB.o;have:=HZL.o;omega)
    refine hK _ _ HS2 ?_
    clear hK K
    rw[show ∀(a:Act) (v:Value),a.put none v=a from fun _ _=>rfl]
    generalize World.setRow _ _ _=wz at MS HS1 HS2⊢
    have HS2H:=hQQ HS2
    refine gc (i:=7) (v:=.int .i64 ix) (some 7) rfl rfl (by kernel_rfl) (by kernel_rfl) (by kernel_rfl) (fun c a w=>FINQ c a _ _ w) (HS2H.o) (by exact cM (ab rfl) _ rfl (HF.get 4 rfl)) ?_
    replace HF:=HF.put 7 (.int .i64 ix) (by decide) rfl
    generalize β7:Act.put _ _ _=A at HF⊢
    refine gc (i:=8) (v:=.bool (eG x10 ix)) (some 8) rfl rfl (by kernel_rfl) (by kernel_rfl) (by kernel_rfl) (fun c a w=>FINQ c a _ _ w) (HS2H.o) (by exact cM (ab rfl) _ rfl (HF.get 1 rfl)) ?_
    replace HF:=HF.put 8 (.bool (eG x10 ix)) (by decide) rfl
    generalize β8:Act.put _ _ _=A at HF⊢
    exact bR (by kernel_rfl) (FINE _ _ ⟨(.agg (bE c p q kk)),(.int .i64 ix),(.agg (bE c p q kk)),(.int .i64 ix),(.int .i64 x10),(.bool (eG x10 ix)),x10,D10,F10,by rw[← β8,← β7,← β6,← β5,← β4,← β3,← β2,← β1]<;>rfl,MS,HS1,R10.o⟩)
   ·rw[if_pos (by simpa using hm0)] at hr
    have d1:(mm != 0)=true:=by simpa using hm0
    go_wp2_with fail
    refine(CS.o w10 (SZ.o _ _ _ M10.o.1)).mono ?_
    rintro e w11 ⟨rfl,h11⟩
    have M11:=hQQ (And.intro (M10.o.1.more h11) (And.intro (h11.block M10.o.2.1) (h11.block M10.o.2.2)))
    clear h11 c0 c25 c26
    have MZ:=M11.o.1.row (b:=w.heap.size+1) (fun _=>rfl) (M11.o.1.off HZL.o HNZ.o) pgZ M11.o.2.1
    have HZ:=setRow_heap _ (w.heap.size+1) pgZ pgZ _ _ M11.o.2.1
    obtain⟨wz,ez⟩:∃wz,World.setRow w11 (w.heap.size+1) pgZ=wz:=⟨_,rfl⟩
    have Z0:=hQQ M11.o.2.1
    rw[ez] at MZ HZ
    have FIN:=hQQ (DONE.o none wz D9 F9 (hr.symm) MZ)
    clear MZ
    go_wp2_with (first|(refine mu rfl rfl ?_)|(refine wpList_store_row rfl 90 _ _ rfl _ _ rfl rfl 90 _ Z0.o (by kernel_rfl) rfl (by kernel_rfl) ?_))
    refine bodyPost_ret (iX rfl _ _ (w.heap.size+1) 90 pgZ _ _ rfl HZ Tryz.underlying90 rfl (by kernel_rfl)) rfl ?_
    exact FIN.o
  intro QQ FINE FIND FINQ
  clear hA
  refine tqM 0 24 0 rfl (.inl rfl) rfl (by kernel_rfl) FINQ (KC.o _ _ _ MR.o) HF fun A β1 HF=>?_
  refine tqC 1 25 (.agg c.arr) (by kernel_rfl) FINQ (KC.o _ _ _ MR.o) HF (by exact aD (ab rfl) 28 _ rfl w.heap.size (HF.get 2 rfl) 28 _ _ _ (fun W hW=>hW) Tryz.underlying28 rfl (by kernel_rfl)) fun A β2 HF=>?_
  refine tqM 2 26 4 rfl (.inl rfl) rfl (by kernel_rfl) FINQ (KC.o _ _ _ MR.o) HF fun A β3 HF=>?_
  refine tqM 3 27 3 rfl (.inl rfl) rfl (by kernel_rfl) FINQ (KC.o _ _ _ MR.o) HF fun A β4 HF=>?_
  refine tqC 4 28 (.agg c.arr) (by kernel_rfl) FINQ (KC.o _ _ _ MR.o) HF (by exact aD (ab rfl) 28 _ rfl w.heap.size (HF.get 5 rfl) 28 _ _ _ (fun W hW=>hW) Tryz.underlying28 rfl (by kernel_rfl)) fun A β5 HF=>?_
  refine tqM 5 29 7 rfl (.inl rfl) rfl (by kernel_rfl) FINQ (KC.o _ _ _ MR.o) HF fun A β6 HF=>?_
  refine kl (i:=6) (j:=9) (some 30) (some 12) (by kernel_rfl) rfl rfl (ab rfl) (ab rfl) rfl rfl (fun K hK=>?_) (fun K hK=>?_)
  ·refine dN (v0:=.pointer (some ⟨p,0,none⟩)) (v1:=.agg c.arr) (v2:=.int .i64 q) rfl (HF.get 2 rfl) (HF.get 1 rfl) (HF.get 0 rfl) (enters_of Tryz.func51 (by kernel_rfl) rfl) ?_
   refine(qt HR.o HH.o.toPgIn F p kn D q wq MR.o.1.view HK.o MR.o.1.inv).mono ?_
   intro e w7 he
   rcases MR.o.1.step (ae.refl _) HK.o (fj HH.o.toPgIn _) he with⟨a',hE,rfl,hd',ht',_⟩|⟨x6,D6,F6,hE,rfl,M6',hq6,hk6,hf6⟩
   ·exact FIND _ _ HF.1.2 (NEED.o a' w7 (HRr.o.symm.trans (ag hE)) hd' ht')
   have R6:=hQQ ((aj hE).symm.trans HRr.o)
   have M6:Hq (MidV w2 w7 F (fun b=>b=w.heap.size+1) p kn n D6 F6∧w7.heap[w.heap.size+1]?=some (.cells pgZ 90 (0,0))):=hQQ ⟨M6',hk6 _ _ HNZ.o MR.o.2⟩
   clear he hE hk6 hf6
   refine hK _ _ (KC.o _ _ _ M6.o) ?_
   clear hK K
   replace HF:=HF.put 30 (.int .i64 x6) (by decide) rfl
   generalize β7:Act.put _ _ _=A at HF⊢
   refine tqC 7 31 (.int .i64 (IntKind.i64.wrap (x6-1))) (by kernel_rfl) FINQ (KC.o _ _ _ M6.o) HF (by exact pz (ab rfl) rfl (HF.get 0 rfl) rfl _ rfl) fun A β8 HF=>?_
   refine tqC 8 32 (.agg (bE c p q (IntKind.i64.wrap (x6-1)))) (by kernel_rfl) FINQ (KC.o _ _ _ M6.o) HF (by exact pA (ab rfl) _ _ _ _ rfl c p q (IntKind.i64.wrap (x6-1)) (HF.get 7 rfl) (HF.get 6 rfl) (HF.get 5 rfl) (HF.get 0 rfl)) fun A β9 HF=>?_
   refine tqO 9 12 (by kernel_rfl) HF fun K hK=>?_
   refine nV rfl ?_
   obtain⟨w8,e8,h8,m8⟩:=vT w7
   rw[e8]
   clear e8
   have M8:Hq (MidV w2 w8 F (fun b=>b=w.heap.size+1) p kn n D6 F6∧w8.heap[w.heap.size+1]?=some (.cells pgZ 90 (0,0))):=hQQ ⟨M6.o.1.more m8,m8.block M6.o.2⟩
   have nb:¬F6 w7.heap.size:=fun z=>by have:=M6.o.1.view.lt _ z;omega
   have lb:=M6.o.1.size
   refine hK _ _ (KC.o _ _ _ M8.o) fun A β10 HF=>?_
   clear hK K
   refine ki (i:=10) (by kernel_rfl) (by kernel_rfl) rfl (ab rfl) (fun K hK=>?_)
   refine wp_store_row 90 _ _ rfl (w7.heap.size) _ (HF.get 0 rfl) (HF.get 1 rfl) 90 pgZ h8 (by kernel_rfl) rfl (qB ..) ?_
   have MS:=M8.o.1.row (b:=w7.heap.size) (fun q=>by omega) nb (bE c p q (IntKind.i64.wrap (x6-1))) h8
   have HS1:=setRow_heap _ (w7.heap.size) pgZ (bE c p q (IntKind.i64.wrap (x6-1))) _ _ h8
   have HS2:=oz (cs:=bE c p q (IntKind.i64.wrap (x6-1))) M8.o.2 (show w.heap.size+1≠w7.heap.size by omega)
   refine hK _ _ (KC.o _ _ _ ⟨MS,HS2⟩) (FINE _ _ ⟨(.pointer (some ⟨p,0,none⟩)),(.agg c.arr),(.int .i64 q),(.pointer (some ⟨p,0,none⟩)),(.agg c.arr),(.int .i64 q),(.int .i64 x6),(.int .i64 (IntKind.i64.wrap (x6-1))),(.agg (bE c p q (IntKind.i64.wrap (x6-1)))),w7.heap.size,x6,D6,F6,?_,⟨MS,HS2,HS1,lb,nb⟩,R6.o⟩)
   rw[← β10,← β9,← β8,← β7,← β6,← β5,← β4,← β3,← β2,← β1];rfl
  ·refine nV rfl ?_
   obtain⟨w7,e7,h7,m7⟩:=vT wq
   rw[e7]
   clear e7
   have M7:Hq (MidV w2 w7 F (fun b=>b=w.heap.size+1) p kn n D F∧w7.heap[w.heap.size+1]?=some (.cells pgZ 90 (0,0))):=hQQ ⟨MR.o.1.more m7,m7.block MR.o.2⟩
   have nb:¬F wq.heap.size:=fun z=>by have:=MR.o.1.view.lt _ z;omega
   have lb:=MR.o.1.size
   refine hK _ _ (KC.o _ _ _ M7.o) ?_
   clear hK K
   replace HF:=HF.put 12 (.pointer (some ⟨wq.heap.size,0,none⟩)) (by decide) rfl
   generalize β7:Act.put _ _ _=A at HF⊢
   refine tqO 6 30 (by kernel_rfl) HF fun K hK=>?_
   refine dN (v0:=.pointer (some ⟨p,0,none⟩)) (v1:=.agg c.arr) (v2:=.int .i64 q) rfl (HF.get 3 rfl) (HF.get 2 rfl) (HF.get 1 rfl) (enters_of Tryz.func51 (by kernel_rfl) rfl) ?_
   refine(qt HR.o HH.o.toPgIn F p kn D q w7 M7.o.1.view HK.o M7.o.1.inv).mono ?_
   intro e w8 he
   rcases M7.o.1.step (ae.refl _) HK.o (fj HH.o.toPgIn _) he with⟨a',hE,rfl,hd',ht',_⟩|⟨x6,D6,F6,hE,rfl,M6',hq6,hk6,hf6⟩
   ·exact FIND _ _ HF.1.2 (NEED.o a' w8 (HRr.o.symm.trans (ag hE)) hd' ht')
   have R6:=hQQ ((aj hE).symm.trans HRr.o)
   have M6:Hq (MidV w2 w8 F (fun b=>b=w.heap.size+1) p kn n D6 F6∧w8.heap[w.heap.size+1]?=some (.cells pgZ 90 (0,0))):=hQQ ⟨M6',hk6 _ _ HNZ.o M7.o.2⟩
   have h8:=hk6 _ _ nb h7
   have nb8:¬F6 wq.heap.size:=fun z=>by rcases hf6 _ z with q|q;exact nb q;have:=ac h7;omega
   clear he hE hk6 hf6
   refine hK _ _ (KC.o _ _ _ M6.o) fun A β8 HF=>?_
   clear hK K
   refine tqC 7 31 (.int .i64 (IntKind.i64.wrap (x6-1))) (by kernel_rfl) FINQ (KC.o _ _ _ M6.o) HF (by exact pz (ab rfl) rfl (HF.get 0 rfl) rfl _ rfl) fun A β9 HF=>?_
   refine tqC 8 32 (.agg (bE c p q (IntKind.i64.wrap (x6-1)))) (by kernel_rfl) FINQ (KC.o _ _ _ M6.o) HF (by exact pA (ab rfl) _ _ _ _ rfl c p q (IntKind.i64.wrap (x6-1)) (HF.get 8 rfl) (HF.get 7 rfl) (HF.get 6 rfl) (HF.get 0 rfl)) fun A β10 HF=>?_
   refine ki (i:=10) (by kernel_rfl) (by kernel_rfl) rfl (ab rfl) (fun K hK=>?_)
   refine wp_store_row 90 _ _ rfl (wq.heap.size) _ (HF.get 3 rfl) (HF.get 0 rfl) 90 pgZ h8 (by kernel_rfl) rfl (qB ..) ?_
   have MS:=M6.o.1.row (b:=wq.heap.size) (fun q=>by omega) nb8 (bE c p q (IntKind.i64.wrap (x6-1))) h8
   have HS1:=setRow_heap _ (wq.heap.size) pgZ (bE c p q (IntKind.i64.wrap (x6-1))) _ _ h8
   have HS2:=oz (cs:=bE c p q (IntKind.i64.wrap (x6-1))) M6.o.2 (show w.heap.size+1≠wq.heap.size by omega)
   refine hK _ _ (KC.o _ _ _ ⟨MS,HS2⟩) (FINE _ _ ⟨(.pointer (some ⟨p,0,none⟩)),(.agg c.arr),(.int .i64 q),(.pointer (some ⟨p,0,none⟩)),(.agg c.arr),(.int .i64 q),(.int .i64 x6),(.int .i64 (IntKind.i64.wrap (x6-1))),(.agg (bE c p q (IntKind.i64.wrap (x6-1)))),wq.heap.size,x6,D6,F6,?_,⟨MS,HS2,HS1,lb,nb8⟩,R6.o⟩)
   rw[← β10,← β9,← β8,← β7,← β6,← β5,← β4,← β3,← β2,← β1,xM (i:=12) (j:=30) (by decide),xM (i:=12) (j:=31) (by decide),xM (i:=12) (j:=32) (by decide)];rfl
 ·rw[if_neg hin] at hRr
  have PL:=hQQ (Bd HR.o w2 ad (by unfold Cfg.us at hin;show ad<fQ c.cp c.pg c.st c.ca c.bi∨fQ c.cp c.pg c.st c.ca c.bi+32 * c.pg≤ad;omega))
  have PL:=hQQ (show Calls Tryz.prog 79 #[.agg c.arr,.int .i64 ad] w2 (aP w2 (.tuple #[.int .i64 0,.int .i64 0,.bool false])) from PL.o)
  clear hin
  go_enter Tryz.func44,Tryz.ntmps44
  go_wp2_with (first|(refine aI rfl rfl rfl L2.o (by kernel_rfl) ?_)|(refine aI rfl rfl rfl L2.o (by kernel_rfl) ?_))
  refine PL.o.mono ?_
  rintro e w3 ⟨rfl,h3⟩
  have M3:=hQQ (And.intro (M0.o.1.more h3) (h3.block M0.o.2))
  clear h3
  have MZ:=M3.o.1.row (b:=w.heap.size+1) (fun _=>rfl) (M3.o.1.off HZL.o HNZ.o) pgZ M3.o.2
  have HZ:=setRow_heap _ (w.heap.size+1) pgZ pgZ _ _ M3.o.2
  obtain⟨wz,ez⟩:∃wz,World.setRow w3 (w.heap.size+1) pgZ=wz:=⟨_,rfl⟩
  have Z0:=hQQ M3.o.2
  rw[ez] at MZ HZ
  have FIN:=hQQ (DONE.o none wz D F (hRr.symm) MZ)
  clear MZ
  go_wp2_with (first|(refine mu rfl rfl ?_)|(refine wpList_store_row rfl 90 _ _ rfl _ _ rfl rfl 90 _ Z0.o (by kernel_rfl) rfl (by kernel_rfl) ?_))
  refine bodyPost_ret (iX rfl _ _ (w.heap.size+1) 90 pgZ _ _ rfl HZ Tryz.underlying90 rfl (by kernel_rfl)) rfl ?_
  exact FIN.o
theorem gG {a x:Int}{kn:Int→Option Int}{D D':List KV}(h:cU a kn D=.ok x D'):D'=D∧dM kn D a=some x:=by
 unfold cU at h
 split at h
 ·cases h
 ·rename_i y e;cases h;exact⟨rfl,e⟩
theorem vU (b:BitVec 64):W64 b.toInt:=by
 have h1:=BitVec.toInt_lt (x:=b)
 have h2:=BitVec.le_toInt (x:=b)
 unfold W64;omega
theorem rY {b:Int}(h:W64 b)(i:Int):W64 (setV b i):=by
 unfold setV;split
 ·exact vU _
 ·exact h
theorem kt {b:Int}(h:W64 b)(i:Int):W64 (clearV b i):=by
 unfold clearV;split
 ·exact vU _
 ·exact h
theorem Eb (b n:Int):bP b n= -1∨(0≤bP b n∧bP b n<endN n∧bP b n≤31):=by
 unfold bP zv
 split
 ·rename_i j hj
  have:=List.mem_of_find?_eq_some hj
  simp at this
  have he:endN n≤32:=by unfold endN;omega
  omega
 ·exact .inl rfl
theorem gZ {pg st:Int}{n:Nat}(H:PgIn pg st n){q k b:Int}(hq:af pg q=true)(hb:W64 b):bK n (fun _=>True) (gF pg st q k b):=by
 have PB:=cm H hq
 unfold gF
 exact aW (fun _=>ar (qo H _) fun _ _=>ai n trivial) (fun _=>ar (aQ n PB.2.2.2.2 PB.2.2.2.1 hb) fun _ _=>ar (aQ n PB.2.1.2.2 PB.2.1.2.1 (by have:=cnt_b b k;unfold W64;omega)) fun _ _=>ai n trivial)
theorem NS {x i:Int}(h:W64 x)(w:World):Calls Tryz.prog 142 #[.int .i64 x,.int .i64 i] w (aP w (.int .i64 (setV x i))):=(Pe x i h.1 h.2 w).mono fun e w' q=>⟨q.1,q.2▸ae.refl _⟩
theorem ID {x i:Int}(h:W64 x)(w:World):Calls Tryz.prog 113 #[.int .i64 x,.int .i64 i] w (aP w (.int .i64 (clearV x i))):=(KO x i h.1 h.2 w).mono fun e w' q=>⟨q.1,q.2▸ae.refl _⟩
theorem Cj {us pg st a:Int}{kn:Int→Option Int}{D D':List KV}{q k i:Int}{t:Bool}(h:fT us pg st a kn D=.ok (some (q,k,i,t)) D'):∃b,dM kn D' (bA pg st q)=some b∧t=eG b i:=by
 unfold fT at h
 split at h
 ·cases hk:eN pg st ((a-us) / 32) kn D with
  |need a'=>rw[ag hk] at h;cases h
  |ok x D1 =>
   rw[aj hk] at h
   unfold jr at h
   split at h
   ·cases h
   ·split at h
    ·cases h
    ·cases hb:cU (bA pg st ((a-us) / 32)) kn D1 with
     |need a'=>rw[ag hb] at h;cases h
     |ok b D2 =>
      rw[aj hb] at h
      obtain⟨rfl,hw⟩:=gG hb
      cases h
      exact⟨b,hw,rfl⟩
 ·cases h
def fB:TkA→Option (Int×Int×Int)
 |some (q,k,i,true)=>some (q,k,i)
 | _=>none
theorem hH {x:TkA}{q k i:Int}(h:fB x=some (q,k,i)):x=some (q,k,i,true):=by
 unfold fB at h
 split at h
 ·cases h;rfl
 ·cases h
def tD:Option (Int×Int×Int)→Prg (Int×Bool)
 |some (_,k,_)=>ay (k,true)
 |none=>ay (0,false)
def tE (us pg st a:Int):Prg (Int×Bool):=aq (fT us pg st a) fun x=>tD (fB x)
def ku (us pg st k:Int):Prg (Int×Bool):=
 aq (li pg st k) fun q=>if q= -1 then ay (0,false) else aq (cU (bA pg st q)) fun b =>
  if bP b (aw k)= -1 then ay (0,false) else aq (cU (cA pg st q)) fun was =>
   aq (gF pg st q k (setV b (bP b (aw k)))) fun _=>aq (iK pg st q k was) fun _=>ay (us+32 * q+bP b (aw k) * szV k,true)
def mw (pg st q k i:Int):Prg Bool:=aq (cU (cA pg st q)) fun was=>aq (cU (bA pg st q)) fun b=>aq (gF pg st q k (clearV b i)) fun _=>aq (iK pg st q k was) fun _=>ay true
def Ck (pg st:Int):Option (Int×Int×Int)→Prg Bool
 |some (q,k,i)=>mw pg st q k i
 |none=>ay false
def rj (us pg st a:Int):Prg Bool:=aq (fT us pg st a) fun x=>Ck pg st (fB x)
theorem Cl (us pg st a:Int):bg (tE us pg st a):=ak (rh _ _ _ _) fun x=>by
 match fB x with
 |some (_,k,_)=>exact ah _
 |none=>exact ah _
theorem tF (us pg st k:Int):bg (ku us pg st k):=ak (zG _ _ _) fun q=>aH (ah _) (ak (dy _) fun b=>aH (ah _) (ak (dy _) fun was=>ak (rf _ _ _ _ _) fun _=>ak (rg _ _ _ _ _) fun _=>ah _))
theorem Cm (us pg st a:Int):bg (rj us pg st a):=ak (rh _ _ _ _) fun x=>by
 match fB x with
 |some (q,k,i)=>exact ak (dy _) fun _=>ak (dy _) fun _=>ak (rf _ _ _ _ _) fun _=>ak (rg _ _ _ _ _) fun _=>ah _
 |none=>exact ah _
section
variable {pg st:Int}{n:Nat}(H:cF pg st n)
include H
theorem vV (us a:Int):bK n (fun _=>True) (tE us pg st a):=ar (js H.toPgIn a) fun x _=>by
 match fB x with
 |some (_,k,_)=>exact ai n trivial
 |none=>exact ai n trivial
theorem Fp (us k:Int):bK n (fun _=>True) (ku us pg st k):=ar (oy H k) fun q hq=>aW (fun _=>ai n trivial) (fun h=>by
 have hq:=hq.resolve_left h
 have PB:=cm H.toPgIn hq
 exact ar (bd n PB.2.2.2.1) fun b hb=>aW (fun _=>ai n trivial) (fun _=>ar (bd n PB.2.1.2.1) fun was _=>ar (gZ H.toPgIn hq (rY hb _)) fun _ _=>ar (gY H q k was hq) fun _ _=>ai n trivial))
theorem uY {q:Int}(hq:af pg q=true)(k i:Int):bK n (fun _=>True) (mw pg st q k i):=by
 have PB:=cm H.toPgIn hq
 exact ar (bd n PB.2.1.2.1) fun was _=>ar (bd n PB.2.2.2.1) fun b hb=>ar (gZ H.toPgIn hq (kt hb _)) fun _ _=>ar (gY H q k was hq) fun _ _=>ai n trivial
theorem vW (us a:Int):bK n (fun _=>True) (rj us pg st a):=ar (js H.toPgIn a) fun x hx=>by
 match e:fB x with
 |some (q,k,i)=>exact uY H (hx q k i true (hH e)).1 k i
 |none=>exact ai n trivial
end
theorem NT {c:Cfg}(R:c.Ok){n:Nat}(H:cF c.pg c.st n)(hn:n≤10000)(F:Nat→Prop)(p:Nat)(kn:Int→Option Int)(D:List KV)(k:Int)(w:World)(hv:aE w F p kn D)(hk:OkK kn)(hD:cD n D)(bt:Nat)(hs:df bt w)(nF0:¬F 0)(nFb:¬F bt):
 Calls Tryz.prog 123 #[.pointer (some ⟨p,0,none⟩),.agg c.arr,.int .i64 k] w (aB w F p kn (fun x:Int×Bool=> .tuple #[.int .i64 x.1,.bool x.2]) (ku c.us c.pg c.st k kn D)):=by
 obtain⟨Rr,hRr⟩:∃Rr,ku c.us c.pg c.st k kn D=Rr:=⟨_,rfl⟩
 rw[hRr]
 obtain⟨w1,e1,hl1,m1,s1⟩:=aZ w (.cells c.arr 28)
 have nFl:¬F w.heap.size:=fun q=>by have:=hv.lt _ q;omega
 have MM:=hQQ m1
 have L0:=hQQ hl1
 have M0:Hq (MidV w1 w1 F (fun _=>False) p kn n D F):=hQQ (MidV.begin (hv.more m1) hD)
 have KL:Hq (∀wr D' F',MidV w1 wr F (fun _=>False) p kn n D' F'→wr.heap[w.heap.size]?=some (.cells c.arr 28 (0,0))):=hQQ fun wr D' F' h=>cE h L0.o nFl (fun q=>q)
 have NEED:Hq (∀a w2,Rr=.need a→aN w2 p a→Turned (fun b=>F b∨False) w1 w2→aB w F p kn (fun x:Int×Bool=>Value.tuple #[.int .i64 x.1,.bool x.2]) Rr (.panicked (aR p)) w2):=hQQ fun a w2 e hd ht=>ct MM.o (fun _ q=>q.elim) e hd ht
 have DONE:Hq (∀x w2 D' F',Rr=.ok x D'→MidV w1 w2 F (fun _=>False) p kn n D' F'→aB w F p kn (fun x:Int×Bool=>Value.tuple #[.int .i64 x.1,.bool x.2]) Rr (.returned ((fun x:Int×Bool=>Value.tuple #[.int .i64 x.1,.bool x.2]) x)) w2):=hQQ fun x w2 D' F' e h=>bQ MM.o (fun _ q=>q.elim) h e
 have HK:=hQQ hk
 have HR:=hQQ R
 have HH:=hQQ H
 clear hl1 m1 hv hD hk R H nFl
 have SZ:Hq (∀wr D' F',MidV w1 wr F (fun _=>False) p kn n D' F'→df bt wr):=hQQ fun wr D' F' h=>(hs.more MM.o).keep h.turn (by rintro(q|q);exact nF0 q;exact q) (by rintro(q|q);exact nFb q;exact q)
 have NF:Hq (∀wr D' F',MidV w1 wr F (fun _=>False) p kn n D' F'→¬F' 0∧¬F' bt):=hQQ fun wr D' F' h=>⟨h.off (hs.more MM.o).lt0 nF0,h.off (hs.more MM.o).lt nFb⟩
 have HRr:=hQQ hRr
 unfold ku at HRr
 have pg1:=HR.o.pg1
 have pg2:=HR.o.pg2
 have UB:=hQQ (oV HR.o)
 have HN:=hQQ hn
 clear hRr hs nF0 nFb
 have hmf:∀(fn:Fn) (first cap:Array Value) (w:World),(Instr.makeFunc fn first cap).run Tryz.prog w=.ok (.func fn first cap) w:=fun _ _ _ _=>rfl
 go_enter_defers Tryz.func123,Tryz.ntmps123
 go_wp2_with (first|(refine aI rfl rfl rfl L0.o (by kernel_rfl) ?_)|(refine aI rfl rfl rfl L0.o (by kernel_rfl) ?_))
 refine(K6 HR.o HH.o hn F p kn D k w1 M0.o.view HK.o M0.o.inv bt (SZ.o _ _ _ M0.o) (NF.o _ _ _ M0.o).1 (NF.o _ _ _ M0.o).2).mono ?_
 intro e w2 he
 rcases M0.o.step (ae.refl _) HK.o (oy HH.o k) he with⟨a',hE,rfl,hd',ht',_⟩|⟨x2,D2,F2,hE,rfl,M2,hq2,hk2,hf2⟩
 ·exact NEED.o a' w2 (HRr.o.symm.trans (ag hE)) hd' ht'
 have L2:=hQQ (KL.o _ _ _ M2)
 have R2:=hQQ ((aj hE).symm.trans HRr.o)
 have M2:=hQQ M2
 clear he hE hk2 hf2
 by_cases eq:x2= -1
 ·have d0:(x2== -1)=true:=by simp[eq]
  have FIN:=hQQ (DONE.o (0,false) w2 D2 F2 (by have:=R2.o;rw[if_pos eq] at this;exact this.symm) M2.o)
  clear eq R2
  go_wp2_with fail
  refine⟨_,results_tmp2 (t:=6) (u:=7) rfl _ _ _,?_⟩
  exact FIN.o
 have d0:(x2== -1)=false:=by simpa using eq
 have hq:=hq2.resolve_left eq
 have R2:=hQQ (show aq (cU (bA c.pg c.st x2)) (fun b=>if bP b (aw k)= -1 then ay (0,false) else aq (cU (cA c.pg c.st x2)) fun was=>aq (gF c.pg c.st x2 k (setV b (bP b (aw k)))) fun _=>aq (iK c.pg c.st x2 k was) fun _=>ay (c.us+32 * x2+bP b (aw k) * szV k,true)) kn D2=Rr from by have:=R2.o;rw[if_neg eq] at this;exact this)
 have HQ:=hQQ hq
 have PB:=hQQ (cm HH.o.toPgIn hq)
 clear eq hq2 hq
 generalize x2=q at *
 obtain⟨w3,e3,b3,m3⟩:=Iz w2 c p q k
 have M3:=hQQ (M2.o.more m3)
 have nFg:¬F2 w2.heap.size:=fun z=>by have:=M2.o.view.lt _ z;omega
 have lg:w1.heap.size≤w2.heap.size:=M2.o.size
 go_wp2_with (first|(refine aI rfl rfl rfl L2.o (by kernel_rfl) ?_)|(refine zJ rfl _ _ _ _ rfl c p q k rfl rfl rfl rfl ?_)|(refine wpList_store_row rfl 90 _ _ rfl _ _ rfl rfl 90 _ (aY _ _ _) (by kernel_rfl) rfl (qB ..) (e3.symm▸ ?_))|(refine wpList_load_row rfl 90 _ rfl _ rfl 90 _ _ _ b3 Tryz.underlying90 rfl (by kernel_rfl) ?_))
 have BG:=hQQ b3
 clear e3 m3 b3 M2 L2
 generalize w2.heap.size=gb at BG nFg lg
 refine(Io HR.o HH.o.toPgIn F2 p kn D2 q k hn HQ.o w3 M3.o.view HK.o M3.o.inv).mono ?_
 intro e w4 he
 rcases M3.o.step (ae.refl _) HK.o (bd n PB.o.2.2.2.1) he with⟨a',hE,rfl,hd',ht',_⟩|⟨b,D4,F4,hE,rfl,M4,hb4,hk4,hf4⟩
 ·exact NEED.o a' w4 (R2.o.symm.trans (ag hE)) hd' ht'
 have R4:=hQQ ((aj hE).symm.trans R2.o)
 obtain⟨rfl,hwb⟩:=gG hE
 have WB:=hQQ hwb
 have nFg4:¬F4 gb:=fun z=>(hf4 gb z).elim nFg (fun q=>by have:=ac BG.o;omega)
 have BG:=hQQ (hk4 _ _ nFg BG.o)
 have M4:=hQQ M4
 have HB0:=hQQ hb4
 clear he hE hk4 hf4 nFg M3 R2 hwb hb4
 have hsl:=ep k
 have SL:=hQQ (fun(W:World) (hW:df bt W)=>rX k W hW)
 have SF:=hQQ (fun W=>KY b (aw k) (by omega) (by omega) W)
 have CS:=hQQ (fun(W:World) (hW:df bt W)=>IC k W hW)
 have R4:=hQQ R4.o
 have hfb:=Eb b (aw k)
 have hsz:0≤szV k∧szV k≤16:=by unfold szV; (repeat' split)<;>omega
 obtain⟨i,hi⟩:∃i,bP b (aw k)=i:=⟨_,rfl⟩
 obtain⟨sz,hsz'⟩:∃sz,szV k=sz:=⟨_,rfl⟩
 rw[hi] at SF R4 hfb
 rw[hsz'] at CS R4 hsz
 clear hi hsz'
 go_wp2_with fail
 refine(SL.o w4 (SZ.o _ _ _ M4.o)).mono ?_
 rintro e w5 ⟨rfl,h5⟩
 have M5:=hQQ (M4.o.more h5)
 have BG:=hQQ (h5.block BG.o)
 clear h5 M4
 go_wp2_with fail
 refine(SF.o w5).mono ?_
 rintro e w6 ⟨rfl,h6⟩
 have M5:=hQQ (M5.o.more h6)
 have BG:=hQQ (h6.block BG.o)
 clear h6
 by_cases ei:i= -1
 ·have d1:(i== -1)=true:=by simp[ei]
  have FIN:=hQQ (DONE.o (0,false) w6 D4 F4 (by have:=R4.o;rw[if_pos ei] at this;exact this.symm) M5.o)
  clear ei R4
  go_wp2_with fail
  refine⟨_,results_tmp2 (t:=6) (u:=7) rfl _ _ _,?_⟩
  exact FIN.o
 have d1:(i== -1)=false:=by simpa using ei
 have hfb:=hfb.resolve_left ei
 have R4:=hQQ (show aq (cU (cA c.pg c.st q)) (fun was=>aq (gF c.pg c.st q k (setV b i)) fun _=>aq (iK c.pg c.st q k was) fun _=>ay (c.us+32 * q+i * sz,true)) kn D4=Rr from by have:=R4.o;rw[if_neg ei] at this;exact this)
 have hb1:0≤i * sz:=Int.mul_nonneg hfb.1 hsz.1
 have hb2:i * sz≤31 * 16:=Int.mul_le_mul hfb.2.2 hsz.2 hsz.1 (by omega)
 have t1:IntKind.i64.wrap (i * sz)=i * sz:=az (by omega) (by omega)
 have hqq:=ax.1 HQ.o
 have hub:=UB.o
 have t2:IntKind.i64.wrap (c.us+32 * q+i * sz)=c.us+32 * q+i * sz:=az (by unfold Cfg.us;omega) (by unfold Cfg.us;omega)
 have AD:=hQQ (fun W=>by have:=OZ HR.o W q;rw[show yA c.cp c.pg c.st c.ca c.bi q=c.us+32 * q from by unfold yA;rw[if_pos hqq];rfl] at this;exact this)
 have AD:=hQQ (show ∀W,Calls Tryz.prog 143 #[.agg c.arr,.int .i64 q] W (aP W (.int .i64 (c.us+32 * q))) from AD.o)
 obtain⟨adr,hadr⟩:∃adr,c.us+32 * q=adr:=⟨_,rfl⟩
 rw[hadr] at AD R4 t2
 clear ei hfb hsz hb1 hb2 hub hadr hqq hsl
 go_wp2_with (refine wpList_load_row rfl 90 _ rfl _ rfl 90 _ _ _ BG.o Tryz.underlying90 rfl (by kernel_rfl) ?_)
 refine(DZ HR.o HH.o.toPgIn HN.o F4 p kn D4 q k HQ.o w6 M5.o.view HK.o M5.o.inv).mono ?_
 intro e w7 he
 rcases M5.o.stepR (ae.refl _) HK.o (bd n PB.o.2.1.2.1) he with⟨a',hE,rfl,hd',ht',_⟩|⟨was,D6,F6,vm,hE,rfl,⟨gm,wm,rfl,hgm,hwm,hne,nm,nw,bm,bw⟩,M6,hq6,hk6,hf6⟩
 ·exact NEED.o a' w7 (R4.o.symm.trans (ag hE)) hd' ht'
 have R6:=hQQ ((aj hE).symm.trans R4.o)
 obtain⟨rfl,_⟩:=gG hE
 have NG6:=hQQ (show ¬F6 gb from fun z=>(hf6 gb z).elim nFg4 (fun q=>by have:=ac BG.o;omega))
 have BG:=hQQ (hk6 _ _ nFg4 BG.o)
 have BM:=hQQ bm
 have BW:=hQQ bw
 have NM:=hQQ nm
 have NW:=hQQ nw
 have M6:=hQQ M6
 clear he hE bm bw nm nw hgm hwm hne hk6 hf6 hq6 M5 R4 nFg4
 have L6:=hQQ (KL.o _ _ _ M6.o)
 have YB:=hQQ (fun W (hW:ae w7 W)=>DT HR.o HH.o.toPgIn F6 p kn D6 q k b HN.o HQ.o W (M6.o.view.more hW) WB.o)
 have YS:=hQQ (fun W=>NS (i:=i) HB0.o W)
 obtain⟨nb',hnb'⟩:∃nb',setV b i=nb':=⟨_,rfl⟩
 have HB:=hQQ (rY HB0.o i)
 have HC:=hQQ (And.intro (cnt_b (setV b i) k).1 (cnt_b (setV b i) k).2.1)
 rw[hnb'] at YS R6 HB HC
 clear hnb'
 go_wp2_with fail
 refine bO 5 (by kernel_rfl) (by kernel_rfl) ?_
 simp only[List.take_succ_cons,List.take_zero,List.drop_succ_cons,List.drop_zero]
 refine aM rfl 90 _ rfl gb rfl 90 _ _ _ (fun W hW=>hW.block BG.o) Tryz.underlying90 rfl (by kernel_rfl) ?_
 refine aM rfl 90 _ rfl gb rfl 90 _ _ _ (fun W hW=>hW.block BG.o) Tryz.underlying90 rfl (by kernel_rfl) ?_
 iterate 1
  with_reducible refine wpQuiet_step (fun K hK=>?_)
  go_simp
  first
  |(refine hK _ ?_;clear hK K)
  |(apply Exists.intro
    refine⟨fun W hW=>?_,hK _ ?_⟩
    first
    |(go_at_call 82;exact Calls.more hW (YB.o W hW))
    |(go_simp;try rfl)
    clear hK K)
 iterate 1
  with_reducible refine wpQuiet_step (fun K hK=>?_)
  go_simp
  first
  |(refine hK _ ?_;clear hK K)
  |(apply Exists.intro
    refine⟨fun W hW=>?_,hK _ ?_⟩
    first
    |(go_simp;try rfl)
    clear hK K)
 iterate 1
  with_reducible refine wpQuiet_step (fun K hK=>?_)
  go_simp
  first
  |(refine hK _ ?_;clear hK K)
  |(apply Exists.intro
    refine⟨fun W hW=>?_,hK _ ?_⟩
    first
    |(go_at_call 142;exact Calls.more hW (YS.o W))
    |(go_simp;try rfl)
    clear hK K)
 refine wpQuiet_nil ?_
 intro w8 h8
 have M8:=hQQ (M6.o.more h8)
 have BM8:=hQQ (h8.block BM.o)
 have BW8:=hQQ (h8.block BW.o)
 clear h8
 go_wp2_with fail
 refine(ME HR.o HH.o.toPgIn hn F6 p kn D6 q k nb' HQ.o HB.o HC.o w8 M8.o.view HK.o M8.o.inv bt (SZ.o _ _ _ M8.o) (NF.o _ _ _ M8.o).1 (NF.o _ _ _ M8.o).2).mono ?_
 intro e w9 he
 rcases M8.o.step (ae.refl _) HK.o (gZ HH.o.toPgIn HQ.o HB.o) he with⟨a',hE,rfl,hd',ht',hk'⟩|⟨x9,D9,F9,hE,rfl,M9,hq9,hk9,hf9⟩
 ·have NE:=hQQ (NEED.o a')
  have R9:=hQQ (R6.o.symm.trans (ag hE))
  change bodyPostD _ _ _ (Exit.panic (aR p)) _ _
  refine leaves_cons (f:=129) (args:=#[.pointer (some ⟨gm,0,none⟩),.pointer (some ⟨wm,0,none⟩)]) (by simp) (by simp[go_sem]) ?_
  refine(zF HR.o HH.o p a' q k was gm wm w9 hd' (hk' _ _ NM.o BM8.o) (hk' _ _ NW.o BW8.o) _).mono ?_
  rintro e u' w10 ⟨rfl,rfl,h10⟩
  exact NE.o w10 R9.o (hd'.keep h10 (fun q=>q)) (am ht' h10 (fun _ q=>q.elim))
 have R9:=hQQ ((aj hE).symm.trans R6.o)
 have BM9:=hQQ (hk9 _ _ NM.o BM8.o)
 have BW9:=hQQ (hk9 _ _ NW.o BW8.o)
 have NM9:=hQQ (show ¬F9 gm from fun z=>by rcases hf9 _ z with q|q;exact NM.o q;have:=ac BM8.o;omega)
 have M9:=hQQ M9
 clear he hE hk9 hf9 hq9 M8 BM8 BW8
 have L9:=hQQ (KL.o _ _ _ M9.o)
 have SZ9:=hQQ (SZ.o _ _ _ M9.o)
 clear BG NG6 L6 YB YS HB HC WB HB0 M6 BM BW NM NW SZ NF SL SF R6 L0 M0 d0 d1
 go_wp2_with (first|(refine aI rfl rfl rfl L9.o (by kernel_rfl) ?_)|(refine aI rfl rfl rfl L9.o (by kernel_rfl) ?_))
 refine(AD.o w9).mono ?_
 rintro e w10 ⟨rfl,h10⟩
 have M10:=hQQ (M9.o.more h10)
 have BM10:=hQQ (h10.block BM9.o)
 have BW10:=hQQ (h10.block BW9.o)
 have SZ10:=hQQ (SZ9.o.more h10)
 clear h10 M9 BM9 BW9 SZ9 L9
 go_wp2_with fail
 refine(CS.o w10 SZ10.o).mono ?_
 rintro e w11 ⟨rfl,h11⟩
 have M12:=hQQ (M10.o.more h11)
 have BM12:=hQQ (h11.block BM10.o)
 have BW12:=hQQ (h11.block BW10.o)
 clear h11 M10 BM10 BW10 SZ10
 go_wp2_with fail
 refine leaves_cons (f:=129) (args:=#[.pointer (some ⟨gm,0,none⟩),.pointer (some ⟨wm,0,none⟩)]) (by simp) (by simp[go_sem]) ?_
 refine(zI HR.o HH.o hn F9 p kn D9 q k was HQ.o gm wm w11 M12.o.view HK.o M12.o.inv BM12.o BW12.o NM9.o _).mono ?_
 rintro e u' w13 ⟨rfl,he⟩
 rcases M12.o.step (ae.refl _) HK.o (gY HH.o q k was HQ.o) he with⟨a',hE,rfl,hd',ht',_⟩|⟨x11,D11,F11,hE,rfl,M11,_,_,_⟩
 ·exact NEED.o a' w13 (R9.o.symm.trans (ag hE)) hd' ht'
 have FIN:=hQQ (DONE.o (adr+i * sz,true) w13 D11 F11 (R9.o.symm.trans (aj hE)) M11)
 refine⟨_,results_tmp2 (t:=6) (u:=7) rfl _ _ _,?_⟩
 exact FIN.o
def Low {α:Type}(n:Nat)(m:Int)(p:Prg α):Prop:=∀kn D x D',OkK kn→cD n D→p kn D=.ok x D'→∀a,m≤a→dM kn D' a=dM kn D a
section
variable {α β:Type}{n:Nat}{m:Int}
theorem cH (x:α):Low n m (ay x):=fun kn D y D' _ _ h a _=>by cases h;rfl
theorem my (b:Int):Low n m (cU b):=fun kn D y D' _ _ h a _=>by rw[(gG h).1]
theorem cu {Q:α→Prop}{p:Prg α}{f:α→Prg β}(G:bK n Q p)(h:Low n m p)(hf:∀x,Q x→Low n m (f x)):Low n m (aq p f):=fun kn D y D' hk hD e a ha=>by
 cases e1:p kn D with
 |need b=>rw[ag e1] at e;cases e
 |ok x D1 =>
  rw[aj e1] at e
  obtain⟨i1,q1⟩:=G.ok hk hD e1
  exact(hf x q1 kn D1 y D' hk i1 e a ha).trans (h kn D x D1 hk hD e1 a ha)
theorem et {c:Prop} [Decidable c] {p q:Prg α}(h1:c→Low n m p)(h2:¬c→Low n m q):Low n m (if c then p else q):=by
 split
 ·rename_i h;exact h1 h
 ·rename_i h;exact h2 h
theorem fm {b x:Int}(hb:b<m):Low n m (cO b x):=fun kn D y D' _ hD h a ha=>by
 cases h
 unfold dM eC
 split
 ·rfl
 ·split
  ·rfl
  ·rw[pY hD.asc,if_neg (by omega)]
end
section
variable {pg st:Int}{n m:Nat}(H:cF pg st n)(L:cF pg st m)
include H L
theorem zL (p:Int):Low n m (eN pg st p):=et (fun _=>my _) (fun _=>cH _)
theorem K8 {p:Int}(h:af pg p=true){k x:Int}(hk:W64 k)(hx:W64 x):Low n m (lI pg st p k x):=
 have b:=cm L.toPgIn h
 have g:=cm H.toPgIn h
 cu (aQ n g.1.2.2 g.1.2.1 hk) (fm b.1.2.1) fun _ _=>cu (aQ n g.2.1.2.2 g.2.1.2.1 hx) (fm b.2.1.2.1) fun _ _=>fm b.2.2.2.1
theorem IE {k:Int}(hk:W64 k)(j:Nat):∀q,(∀i:Nat,i<j→af pg (q+i)=true)→Low n m (iO pg st k j q):=by
 induction j with
 |zero=>intro q _;exact cH _
 |succ j ih =>
  intro q h
  exact cu (pj H.toPgIn (by simpa using h 0 (by omega)) hk (by unfold W64;omega)) (K8 H L (by simpa using h 0 (by omega)) hk (by unfold W64;omega)) (fun _ _=>ih _ (fun i hi=>by have:=h (i+1) (by omega);rwa [show q+((i+1:Nat):Int)=q+1+(i:Int) by omega] at this))
theorem K9 (p:Int):Low n m (nR pg st p):=cu (fj H.toPgIn p) (zL H L p) fun k _=>by
 refine et (fun _=>cH _) (fun _=>et (fun _=>?_) (fun _=>cH _))
 intro kn D x D' hk hD e a ha
 cases e1:cU (cA pg st p) kn D with
 |need b=>rw[ag e1] at e;cases e
 |ok y D1 =>
  rw[aj e1] at e
  cases e
  rw[(gG e1).1]
theorem IG (p:Int):Low n m (lX pg st p):=
 cu (tf H.toPgIn p) (K9 H L p) (fun x hx=>by
  have hb:∀i:Nat,i<x.toNat→af pg (p+i)=true:=fun i hi=>by
   rcases hx with rfl|⟨h,h1,h2⟩
   ·simp at hi
   ·have:=ax.1 h;exact ax.2 ⟨by omega,by omega⟩
  exact cu (qn H.toPgIn (by unfold W64;omega) _ _ hb) (IE H L (by unfold W64;omega) _ _ hb) (fun _ _=>cH _))
theorem oA {a:Int}(ha:a<n):Low n m (el pg a):=et (fun _=>cH _) (fun _=>cu (bd n ha) (my _) (fun x _=>cH _))
theorem Cn {p:Int}(j:Nat):∀(a:Int) (l:List Int),a<n→Low n m (k7 pg st p j a l):=by
 induction j with
 |zero=>intro a l _;exact cH _
 |succ j ih =>
  intro a l ha
  exact cu (dq H ha) (oA H L ha) (fun q hq=>et (fun _=>cH _) (fun _=>et (fun _=>cH _) (fun hne=>ih _ _ (eF H (hq.resolve_left hne)).1.2.1)))
theorem Fq (p c f:Int):Low n m (k8 pg st p c f):=Cn H L _ _ _ (bD H).2.1
theorem oC {h p q:Int}(g1:W64 h)(g2:h<n)(h2:h<m)(hp:p= -1∨af pg p=true)(hq:q= -1∨af pg q=true):Low n m (eY pg st h p q):=
 cu (Q:=fun _=>True) (aW (fun _=>aQ n g1 g2 (nT H hq)) (fun hne=>aQ n (eF H (hp.resolve_left hne)).1.2.2 (eF H (hp.resolve_left hne)).1.2.1 (nT H hq)))
  (et (fun _=>fm h2) (fun hne=>fm (eF L (hp.resolve_left hne)).1.2.1))
  (fun _ _=>et (fun _=>cH _) (fun hne=>fm (eF L (hq.resolve_left hne)).2.2.1))
theorem Co (p c f:Int):Low n m (iV pg st p c f):=
 et (fun _=>cH _) (fun _=>et (fun hp=>cu (dq H (bD H).2.1) (oA H L (bD H).2.1) (fun q hq=>cu (dS H (bD H).2.2 (bD H).2.1 (.inr hp) hq) (oC H L (bD H).2.2 (bD H).2.1 (bD L).2.1 (.inr hp) hq) (fun _ _=>cu (dS H (bD H).2.2 (bD H).2.1 (.inl rfl) (.inr hp)) (oC H L (bD H).2.2 (bD H).2.1 (bD L).2.1 (.inl rfl) (.inr hp)) (fun _ _=>cH _)))) (fun _=>cH _))
theorem xO (p c f:Int):Low n m (fI pg st p c f):=
 et (fun hp=>cu (ow H _ _ _) (Fq H L _ _ _) (fun r hr=>et (fun _=>cu (dq H (eF H hp).1.2.1) (oA H L (eF H hp).1.2.1) (fun q hq=>cu (dS H (bD H).2.2 (bD H).2.1 (lf H hr.1) hq) (oC H L (bD H).2.2 (bD H).2.1 (bD L).2.1 (lf H hr.1) hq) (fun _ _=>cu (aQ n (eF H hp).1.2.2 (eF H hp).1.2.1 (by unfold W64;omega)) (fm (eF L hp).1.2.1) (fun _ _=>cu (aQ n (eF H hp).2.2.2 (eF H hp).2.2.1 (by unfold W64;omega)) (fm (eF L hp).2.2.1) (fun _ _=>cH _))))) (fun _=>cH _))) (fun _=>cH _)
theorem Fr {q k b:Int}(hq:af pg q=true)(hb:W64 b):Low n m (gF pg st q k b):=
 et (fun _=>cu (qo H.toPgIn q) (IG H L q) fun _ _=>cH _)
  (fun _=>cu (aQ n (cm H.toPgIn hq).2.2.2.2 (cm H.toPgIn hq).2.2.2.1 hb) (fm (cm L.toPgIn hq).2.2.2.1) fun _ _=>fun kn D x D' hk hD e a ha=>by
   cases e
   exact fm (cm L.toPgIn hq).2.1.2.1 kn D () _ hk hD rfl a ha)
theorem Fs (q k was:Int)(hq:af pg q=true):Low n m (iK pg st q k was):=
 cu (j4 H _ _ _) (xO H L _ _ _) fun _ _=>cu (bd n (cm H.toPgIn hq).2.1.2.1) (my _) fun f _=>cu (me H _ _ _) (Co H L _ _ _) fun _ _=>cH _
theorem xP {q:Int}(hq:af pg q=true)(k i:Int):Low n m (mw pg st q k i):=
 cu (bd n (cm H.toPgIn hq).2.1.2.1) (my _) fun was _=>cu (bd n (cm H.toPgIn hq).2.2.2.1) (my _) fun b hb=>cu (gZ H.toPgIn hq (kt hb i)) (Fr H L hq (kt hb i)) fun _ _=>cu (gY H q k was hq) (Fs H L q k was hq) fun _ _=>cH _
theorem Ft (us a:Int):Low n m (fT us pg st a):=by
 unfold fT
 refine et (fun h=>?_) (fun _=>cH _)
 refine cu (fj H.toPgIn _) (zL H L _) fun x _=>?_
 unfold jr
 refine et (fun _=>cH _) (fun _=>et (fun _=>cH _) (fun _=>?_))
 intro kn D y D' hk hD e b ha
 cases e1:cU (bA pg st ((a-us) / 32)) kn D with
 |need b=>rw[ag e1] at e;cases e
 |ok z D1 =>
  rw[aj e1] at e
  cases e
  rw[(gG e1).1]
theorem IH (us a:Int):Low n m (rj us pg st a):=cu (js H.toPgIn a) (Ft H L us a) fun x hx=>by
 cases h:fB x with
 |none=>exact cH _
 |some y =>
  obtain⟨q,k,i⟩:=y
  have:=hH h
  exact xP H L (hx q k i true this).1 k i
end
def aX (pg st:Int)(ws:List Int)(p:Int):Int:=if af pg p then wAt ws (kA pg st p) else -1
def cG (pg st:Int)(ws:List Int)(p:Int):Int:=wAt ws (cA pg st p)
def c6 (pg st:Int)(ws:List Int)(p:Int):Int:=wAt ws (bA pg st p)
def fG (pg st p k x:Int)(ws:List Int):List Int:=((ws.set (kA pg st p).toNat k).set (cA pg st p).toNat x).set (bA pg st p).toNat 0
def tG (pg st:Int):Nat→Int→List Int→Bool
 | 0,_,_=>true
 |m+1,q,ws=>decide (aX pg st ws q=0) && tG pg st m (q+1) ws
def tH (pg st p n:Int)(ws:List Int):Bool:=ci pg p n && tG pg st n.toNat p ws
def iw (pg st k:Int):Nat→Int→List Int→List Int
 | 0,_,ws=>ws
 |m+1,q,ws=>iw pg st k m (q+1) (fG pg st q k 0 ws)
def iy (pg st p n k:Int)(ws:List Int):Bool×List Int:=if oq k n && tH pg st p n ws then(true,iw pg st 7 (n-1).toNat (p+1) (fG pg st p k (if k=6 then n else 0) (gD pg st p n ws).2)) else(false,ws)
def rL (pg st p:Int)(ws:List Int):Int:=if oo (aX pg st ws p) then 1 else if aX pg st ws p=6 then max 1 (min (cG pg st ws p) (pg-p)) else 0
def Ec (pg st p:Int)(ws:List Int):Int×List Int:=(rL pg st p ws,iw pg st 0 (rL pg st p ws).toNat p ws)
def tI (pg st:Int):Nat→Int→Int→List Int→Int
 | 0,_,s,_=>s
 |m+1,q,s,ws=>tI pg st m (q+1) (s+if aX pg st ws q=0 then 0 else 1) ws
def zM (pg st:Int)(ws:List Int):Int:=tI pg st pg.toNat 0 0 ws
def tJ (pg st:Int)(ws:List Int)(q:Int):Bool:=bL pg st ws (ofV q) && decide (aX pg st ws q=0)
def vX (pg st:Int)(ws:List Int)(q:Int):Bool:=decide (aX pg st ws q=0)
def nW (f:Int→Bool):Nat→Int→Option Int
 | 0,_=>none
 |m+1,q=>if f q then nW f m (q+1) else some q
def pB (f:Int→Bool)(pg n step:Int):Nat→Int→Int
 | 0,_=> -1
 |m+1,p=>if p≤pg-n then(match nW f n.toNat p with|none=>p|some q=>pB f pg n step m ((q / step+1) * step)) else -1
def mC (f:Int→Bool)(pg n step:Int):Int:=pB f pg n step (pg.toNat+1) 0
def jt (pg st n step:Int)(ws:List Int):Int:=if 1≤n∧1≤step then(if mC (tJ pg st ws) pg n step= -1 then mC (vX pg st ws) pg n step else mC (tJ pg st ws) pg n step) else -1
section
variable {pg st:Int}{n:Nat}(H:PgIn pg st n)
include H
theorem kw (p:Int):bG n (eN pg st p) (fun ws=>(aX pg st ws p,ws)):=by
 unfold eN aX
 cases h:af pg p with
 |true=>exact aU (dW (by have:=(cm H h).1.1;omega) (cm H h).1.2.1) (fun ws _=>by simp)
 |false=>exact aU (au n (-1)) (fun ws _=>by simp)
theorem zN {p:Int}(h:af pg p=true){k x:Int}(hk:W64 k)(hx:W64 x):bG n (lI pg st p k x) (fun ws=>((),fG pg st p k x ws)):=by
 obtain⟨⟨a0,a1,a2⟩,⟨b0,b1,b2⟩,c0,c1,c2⟩:=cm H h
 exact aA (dg (by omega) a1 a2 hk) (fun _=>aA (dg (by omega) b1 b2 hx) (fun _=>dg (by omega) c1 c2 (by unfold W64;omega)))
theorem Fu (m:Nat):∀q,bG n (ph pg st m q) (fun ws=>(tG pg st m q ws,ws)):=by
 induction m with
 |zero=>intro q;exact au n true
 |succ m ih =>
  intro q
  refine aU (aA (kw H q) (fun k=>bI (fun _=>ih (q+1)) (fun _=>au n false))) (fun ws _=>?_)
  show _=(decide (aX pg st ws q=0) && tG pg st m (q+1) ws,ws)
  by_cases e:aX pg st ws q=0<;>simp[e]
theorem II (p m:Int):bG n (pi pg st p m) (fun ws=>(tH pg st p m ws,ws)):=by
 refine aU (bI (fun _=>Fu H m.toNat p) (fun _=>au n false)) (fun ws _=>?_)
 unfold tH
 cases ci pg p m<;>simp
theorem vY {k:Int}(hk:W64 k)(m:Nat):∀q,(∀i:Nat,i<m→af pg (q+i)=true)→bG n (iO pg st k m q) (fun ws=>((),iw pg st k m q ws)):=by
 induction m with
 |zero=>intro q _;exact au n ()
 |succ m ih =>
  intro q h
  exact aA (zN H (by simpa using h 0 (by omega)) hk (by unfold W64;omega)) (fun _=>ih _ (fun i hi=>by have:=h (i+1) (by omega);rwa [show q+((i+1:Nat):Int)=q+1+(i:Int) by omega] at this))
theorem Fv (p m k:Int)(hk:W64 k)(hm:W64 m):bG n (jo pg st p m k) (iy pg st p m k):=by
 unfold jo
 have hx:W64 (if k=6 then m else 0):=by
  split
  ·exact hm
  ·unfold W64;omega
 cases h:ci pg p m with
 |false =>
  unfold pi
  rw[h]
  have z:bG n (ay false) (iy pg st p m k):=aU (au n false) (fun ws _=>by
   unfold iy tH
   rw[h]
   simp)
  by_cases hf:oq k m=true
  ·rw[if_pos hf];exact z
  ·rw[if_neg hf];exact z
 |true =>
  obtain⟨q0,q1,q2⟩:=dX.1 h
  refine aU (bI (fun _=>aA (II H p m) (fun b=>bI (fun _=>aA (zj H.toTblIn p m) (fun _=>aA (zN H (ax.2 ⟨by omega,by omega⟩) hk hx) (fun _=>aA (vY H (by unfold W64;omega) (m-1).toNat (p+1) (fun i hi=>ax.2 ⟨by omega,by omega⟩)) (fun _=>au n true)))) (fun _=>au n false))) (fun _=>au n false)) (fun ws _=>?_)
  unfold iy
  by_cases hf:oq k m=true<;>by_cases hv:tH pg st p m ws=true<;>simp[hf,hv]
theorem IJ (p:Int):bG n (nR pg st p) (fun ws=>(rL pg st p ws,ws)):=by
 cases h:af pg p with
 |true =>
  obtain⟨_,⟨b0,b1,_⟩,_⟩:=cm H h
  refine aU (aA (kw H p) (fun k=>bI (fun _=>au n 1) (fun _=>bI (fun _=>aA (dW (a:=cA pg st p) (by omega) b1) (fun x=>au n (max 1 (min x (pg-p))))) (fun _=>au n 0)))) (fun ws _=>?_)
  unfold rL cG
  by_cases e:oo (aX pg st ws p)=true
  ·simp only[if_pos e]
  ·by_cases e2:aX pg st ws p=6
   ·simp only[if_neg e,if_pos e2]
   ·simp only[if_neg e,if_neg e2]
 |false =>
  unfold nR eN
  rw[h]
  refine aU (au n (0:Int)) (fun ws _=>?_)
  unfold rL aX
  rw[h];rfl
theorem Pg (p:Int)(ws:List Int):rL pg st p ws=0∨af pg p=true∧1≤rL pg st p ws∧rL pg st p ws≤pg-p:=by
 cases h:af pg p with
 |true =>
  have:=ax.1 h
  unfold rL
  by_cases e:oo (aX pg st ws p)=true
  ·rw[if_pos e];exact .inr ⟨rfl,by omega,by omega⟩
  ·by_cases e2:aX pg st ws p=6
   ·rw[if_neg e,if_pos e2];exact .inr ⟨rfl,by omega,by omega⟩
   ·rw[if_neg e,if_neg e2];exact .inl rfl
 |false =>
  refine .inl ?_
  unfold rL aX
  rw[h];rfl
theorem Fw (p:Int):bG n (lX pg st p) (Ec pg st p):=
 aU (ge (Q:=fun x:Int=>x=0∨af pg p=true∧1≤x∧x≤pg-p) (IJ H p) (fun ws _=>Pg H p ws) (fun x hx=>aA (vY H (by unfold W64;omega) x.toNat p (fun i hi=>by
  rcases hx with rfl|⟨h,h1,h2⟩
  ·simp at hi
  ·have:=ax.1 h;exact ax.2 ⟨by omega,by omega⟩)) (fun _=>au n x))) (fun ws _=>rfl)
theorem Cp (m:Nat):∀q s,bG n (kY pg st m q s) (fun ws=>(tI pg st m q s ws,ws)):=by
 induction m with
 |zero=>intro q s;exact au n s
 |succ m ih=>intro q s;exact aU (aA (kw H q) (fun k=>ih (q+1) (s+if k=0 then 0 else 1))) (fun ws _=>rfl)
theorem Fx:bG n (lY pg st) (fun ws=>(zM pg st ws,ws)):=Cp H _ _ _
theorem vZ (q:Int):bG n (lZ pg st q) (fun ws=>(vX pg st ws q,ws)):=aA (kw H q) (fun k=>au n (decide (k=0)))
theorem Fy (q:Int):bG n (l8 pg st q) (fun ws=>(tJ pg st ws q,ws)):=by
 refine aU (aA (qV H.toTblIn (ofV q)) (fun b=>bI (fun _=>vZ H q) (fun _=>au n false))) (fun ws _=>?_)
 unfold tJ vX
 by_cases e:bL pg st ws (ofV q)=true<;>simp[e]
theorem Cq {f:Int→Prg Bool}{g:List Int→Int→Bool}(hf:∀q,bG n (f q) (fun ws=>(g ws q,ws)))(m:Nat):∀q,bG n (j3 f m q) (fun ws=>(nW (g ws) m q,ws)):=by
 induction m with
 |zero=>intro q;exact au n none
 |succ m ih =>
  intro q
  refine aU (aA (hf q) (fun b=>bI (fun _=>ih (q+1)) (fun _=>au n (some q)))) (fun ws _=>?_)
  show _=((if g ws q then nW (g ws) m (q+1) else some q),ws)
  by_cases e:g ws q=true<;>simp[e]
theorem tK {f:Int→Prg Bool}{g:List Int→Int→Bool}(hf:∀q,bG n (f q) (fun ws=>(g ws q,ws)))(m step:Int)(j:Nat):∀p,bG n (jp f pg m step j p) (fun ws=>(pB (g ws) pg m step j p,ws)):=by
 induction j with
 |zero=>intro p;exact au n (-1)
 |succ j ih =>
  intro p
  refine aU (bI (fun _=>aA (Cq H hf m.toNat p) (fun r=>(?_:bG n _ (fun ws=>((match r with|none=>p|some q=>pB (g ws) pg m step j ((q / step+1) * step)),ws))))) (fun _=>au n (-1))) (fun ws _=>?_)
  ·cases r with
   |none=>exact au n p
   |some q=>exact ih _
  ·show _=((if p≤pg-m then(match nW (g ws) m.toNat p with|none=>p|some q=>pB (g ws) pg m step j ((q / step+1) * step)) else -1),ws)
   by_cases e:p≤pg-m<;>simp[e]
theorem Fz (m step:Int):bG n (kZ pg st m step) (fun ws=>(jt pg st m step ws,ws)):=by
 refine aU (bI (fun _=>aA (tK H (Fy H) m step (pg.toNat+1) 0) (fun p=>bI (fun _=>tK H (vZ H) m step (pg.toNat+1) 0) (fun _=>au n p))) (fun _=>au n (-1))) (fun ws _=>?_)
 unfold jt mC
 by_cases e:1≤m∧1≤step
 ·simp only[if_pos e]
  by_cases e2:pB (tJ pg st ws) pg m step (pg.toNat+1) 0= -1
  ·simp only[if_pos e2]
  ·simp only[if_neg e2]
 ·simp only[if_neg e]
end
theorem jN {pg st:Int}{ws:List Int}{p:Int}(h:af pg p=true):aX pg st ws p=wAt ws (kA pg st p):=by unfold aX;rw[h];rfl
theorem iz {pg st:Int}{ws:List Int}{p:Int}(h:af pg p=false):aX pg st ws p= -1:=by unfold aX;rw[h];rfl
section
variable {pg st:Int}{n:Nat}(H:PgIn pg st n)
include H
theorem ff (p k x:Int)(ws:List Int):(fG pg st p k x ws).length=ws.length:=by simp[fG]
theorem im {p:Int}(h:af pg p=true)(k x:Int){ws:List Int}(hn:ws.length=n){i:Int}(hi:0≤i):wAt (fG pg st p k x ws) i=if i=bA pg st p then 0 else if i=cA pg st p then x else if i=kA pg st p then k else wAt ws i:=by
 obtain⟨⟨a0,a1,a2⟩,⟨b0,b1,b2⟩,c0,c1,c2⟩:=cm H h
 unfold fG
 rw[dI (by omega) hi (by simp[hn];exact c1),dI (by omega) hi (by simp[hn];exact b1),dI (by omega) hi (by rw[hn];exact a1)]
theorem mD {k p:Int}(hk:bS pg k=true)(h:af pg p=true):dU pg st k≠kA pg st p∧dU pg st k≠cA pg st p∧dU pg st k≠bA pg st p:=by
 have:=dc.1 hk;have:=ax.1 h;have:=H.pg1
 rw[lT hk];unfold kA cA bA;omega
theorem ns {p:Int}(h:af pg p=true)(k x:Int){ws:List Int}(hn:ws.length=n)(q:Int):aX pg st (fG pg st p k x ws) q=if q=p then k else aX pg st ws q:=by
 cases hq:af pg q with
 |false =>
  rw[iz hq,iz hq,if_neg (by rintro rfl;rw[h] at hq;cases hq)]
 |true =>
  have h0:=(cm H hq).1.1
  have:=ax.1 h;have:=ax.1 hq
  rw[jN hq,jN hq,im H h k x hn (by omega),if_neg (by unfold kA bA;omega),if_neg (by unfold kA cA;omega)]
  by_cases e:q=p
  ·rw[if_pos e,if_pos (by rw[e])]
  ·rw[if_neg e,if_neg (by unfold kA;omega)]
theorem mE {p:Int}(h:af pg p=true)(k x:Int){ws:List Int}(hn:ws.length=n){q:Int}(hq:af pg q=true):cG pg st (fG pg st p k x ws) q=if q=p then x else cG pg st ws q:=by
 have h0:=(cm H hq).2.1.1
 have:=ax.1 h;have:=ax.1 hq
 unfold cG
 rw[im H h k x hn (by omega),if_neg (by unfold cA bA;omega)]
 by_cases e:q=p
 ·rw[if_pos e,if_pos (by rw[e])]
 ·rw[if_neg e,if_neg (by unfold cA;omega),if_neg (by unfold cA kA;omega)]
theorem pC {p:Int}(h:af pg p=true)(k x:Int){ws:List Int}(hn:ws.length=n){q:Int}(hq:af pg q=true):c6 pg st (fG pg st p k x ws) q=if q=p then 0 else c6 pg st ws q:=by
 have h0:=(cm H hq).2.2.1
 have:=ax.1 h;have:=ax.1 hq
 unfold c6
 rw[im H h k x hn (by omega)]
 by_cases e:q=p
 ·rw[if_pos e,if_pos (by rw[e])]
 ·rw[if_neg e,if_neg (by unfold bA;omega),if_neg (by unfold cA bA;omega),if_neg (by unfold bA kA;omega)]
theorem tL {p:Int}(h:af pg p=true)(k x:Int){ws:List Int}(hn:ws.length=n)(j:Int):bL pg st (fG pg st p k x ws) j=bL pg st ws j:=by
 unfold bL
 cases hj:bS pg j with
 |false=>rfl
 |true =>
  have h0:=(pd H.toTblIn hj).1
  obtain⟨t0,t1,t2⟩:=mD H hj h
  rw[im H h k x hn (by omega),if_neg t2,if_neg t1,if_neg t0]
theorem IK (k:Int)(m:Nat):∀(q:Int) (ws:List Int),(iw pg st k m q ws).length=ws.length:=by
 induction m with
 |zero=>intro q ws;rfl
 |succ m ih=>intro q ws;show(iw pg st k m (q+1) _).length=_;rw[ih,ff H]
theorem ju {m:Nat}{q:Int}(h:∀i:Nat,i<m+1→af pg (q+i)=true):af pg q=true∧∀i:Nat,i<m→af pg (q+1+i)=true :=
 ⟨by simpa using h 0 (by omega),fun i hi=>by have:=h (i+1) (by omega);rwa [show q+((i+1:Nat):Int)=q+1+(i:Int) by omega] at this⟩
theorem FA (k:Int)(m:Nat):∀(q:Int) (ws:List Int),ws.length=n→(∀i:Nat,i<m→af pg (q+i)=true)→∀p,aX pg st (iw pg st k m q ws) p=if q≤p∧p<q+m then k else aX pg st ws p:=by
 induction m with
 |zero=>intro q ws _ _ p;rw[if_neg (by omega)];rfl
 |succ m ih =>
  intro q ws hn h p
  obtain⟨h0,h1⟩:=ju H h
  show aX pg st (iw pg st k m (q+1) (fG pg st q k 0 ws)) p=_
  rw[ih _ _ (by rw[ff H];exact hn) h1,ns H h0 k 0 hn]
  by_cases e:p=q
  ·rw[if_neg (by omega),if_pos e,if_pos (by omega)]
  ·rw[if_neg e]
   by_cases e2:q+1≤p∧p<q+1+(m:Int)
   ·rw[if_pos e2,if_pos (by omega)]
   ·rw[if_neg e2,if_neg (by omega)]
theorem IL (k:Int)(m:Nat):∀(q:Int) (ws:List Int),ws.length=n→(∀i:Nat,i<m→af pg (q+i)=true)→∀p,af pg p=true→cG pg st (iw pg st k m q ws) p=if q≤p∧p<q+m then 0 else cG pg st ws p:=by
 induction m with
 |zero=>intro q ws _ _ p _;rw[if_neg (by omega)];rfl
 |succ m ih =>
  intro q ws hn h p hp
  obtain⟨h0,h1⟩:=ju H h
  show cG pg st (iw pg st k m (q+1) (fG pg st q k 0 ws)) p=_
  rw[ih _ _ (by rw[ff H];exact hn) h1 p hp,mE H h0 k 0 hn hp]
  by_cases e:p=q
  ·rw[if_neg (by omega),if_pos e,if_pos (by omega)]
  ·rw[if_neg e]
   by_cases e2:q+1≤p∧p<q+1+(m:Int)
   ·rw[if_pos e2,if_pos (by omega)]
   ·rw[if_neg e2,if_neg (by omega)]
theorem IM (k:Int)(m:Nat):∀(q:Int) (ws:List Int),ws.length=n→(∀i:Nat,i<m→af pg (q+i)=true)→∀p,af pg p=true→c6 pg st (iw pg st k m q ws) p=if q≤p∧p<q+m then 0 else c6 pg st ws p:=by
 induction m with
 |zero=>intro q ws _ _ p _;rw[if_neg (by omega)];rfl
 |succ m ih =>
  intro q ws hn h p hp
  obtain⟨h0,h1⟩:=ju H h
  show c6 pg st (iw pg st k m (q+1) (fG pg st q k 0 ws)) p=_
  rw[ih _ _ (by rw[ff H];exact hn) h1 p hp,pC H h0 k 0 hn hp]
  by_cases e:p=q
  ·rw[if_neg (by omega),if_pos e,if_pos (by omega)]
  ·rw[if_neg e]
   by_cases e2:q+1≤p∧p<q+1+(m:Int)
   ·rw[if_pos e2,if_pos (by omega)]
   ·rw[if_neg e2,if_neg (by omega)]
theorem zq0 (k:Int)(m:Nat):∀(q:Int) (ws:List Int),ws.length=n→(∀i:Nat,i<m→af pg (q+i)=true)→∀j,bL pg st (iw pg st k m q ws) j=bL pg st ws j:=by
 induction m with
 |zero=>intro q ws _ _ j;rfl
 |succ m ih =>
  intro q ws hn h j
  obtain⟨h0,h1⟩:=ju H h
  show bL pg st (iw pg st k m (q+1) (fG pg st q k 0 ws)) j=_
  rw[ih _ _ (by rw[ff H];exact hn) h1 j,tL H h0 k 0 hn]
theorem IP (k:Int)(m:Nat):∀(q:Int) (ws:List Int),ws.length=n→(∀i:Nat,i<m→af pg (q+i)=true)→∀i,0≤i→(∀p,af pg p=true→i≠kA pg st p∧i≠cA pg st p∧i≠bA pg st p)→wAt (iw pg st k m q ws) i=wAt ws i:=by
 induction m with
 |zero=>intro q ws _ _ i _ _;rfl
 |succ m ih =>
  intro q ws hn h i hi ho
  obtain⟨h0,h1⟩:=ju H h
  obtain⟨o1,o2,o3⟩:=ho q h0
  show wAt (iw pg st k m (q+1) (fG pg st q k 0 ws)) i=_
  rw[ih _ _ (by rw[ff H];exact hn) h1 i hi ho,im H h0 k 0 hn hi,if_neg o3,if_neg o2,if_neg o1]
end
structure Tab (pg st:Int)(ws ws':List Int):Prop where
 len:ws'.length=ws.length
 off:∀i:Int,0≤i→(∀k,bS pg k=true→i≠dU pg st k)→wAt ws' i=wAt ws i
section
variable {pg st:Int}{n:Nat}(H:PgIn pg st n)
include H
theorem Tab.kind {ws ws':List Int}(h:Tab pg st ws ws')(p:Int):aX pg st ws' p=aX pg st ws p:=by
 cases hp:af pg p with
 |false=>rw[iz hp,iz hp]
 |true=>rw[jN hp,jN hp,h.off _ (by have:=(cm H hp).1.1;omega) (fun k hk e=>(mD H hk hp).1 e.symm)]
theorem Tab.cnt {ws ws':List Int}(h:Tab pg st ws ws'){p:Int}(hp:af pg p=true):cG pg st ws' p=cG pg st ws p :=
 h.off _ (by have:=(cm H hp).2.1.1;omega) (fun k hk e=>(mD H hk hp).2.1 e.symm)
theorem Tab.bit {ws ws':List Int}(h:Tab pg st ws ws'){p:Int}(hp:af pg p=true):c6 pg st ws' p=c6 pg st ws p :=
 h.off _ (by have:=(cm H hp).2.2.1;omega) (fun k hk e=>(mD H hk hp).2.2 e.symm)
theorem tM {x y:Int}(ht:ci pg x y=true){ws:List Int}(hn:ws.length=n):E0 ws (gD pg st x y ws).2 (fun i=>∃j:Nat,j<spanV x y∧i=dU pg st (x / 4+j)):=by
 have h2:=zk H.toTblIn (spanV x y) (x / 4) 0 ws ws (fun _=>False) hn (E3 ws _ (fun _ q=>q)) (fun i hi=>xy ht i hi)
 unfold gD
 rw[if_pos ht]
 exact⟨h2.len,fun i h0=>⟨fun q=>(h2.eq i h0).1 (.inr q),fun q=>(h2.eq i h0).2 (by rintro(r|r);exact r;exact q r)⟩⟩
theorem La {x y:Int}(ht:ci pg x y=true){ws:List Int}(hn:ws.length=n):Tab pg st ws (gD pg st x y ws).2 :=
 ⟨(tM H ht hn).len,fun i h0 ho=>((tM H ht hn).eq i h0).2 (by rintro⟨j,hj,e⟩;exact ho _ (xy ht j hj) e)⟩
theorem Lb {x y:Int}(ht:ci pg x y=true){ws:List Int}(hn:ws.length=n){j:Int}(hj:bS pg j=true):bL pg st (gD pg st x y ws).2 j=(bL pg st ws j ||(decide (x / 4≤j) && decide (j≤(x+y-1) / 4))):=by
 have h:=tM H ht hn
 obtain⟨t0,t1,t2⟩:=pd H.toTblIn hj
 obtain⟨s1,s2⟩:=Bt ht H.pg2
 unfold bL
 rw[hj]
 by_cases e:x / 4≤j∧j≤(x+y-1) / 4
 ·rw[(h.eq _ (by omega)).1 ⟨(j-x / 4).toNat,by omega,by congr 1;omega⟩]
  simp[e]
 ·rw[(h.eq _ (by omega)).2 (by
   rintro⟨i,hi,q⟩
   have hc:=xy ht i hi
   rw[lT hj,lT hc] at q
   omega)]
  by_cases e1:x / 4≤j
  ·have:¬j≤(x+y-1) / 4:=fun q=>e ⟨e1,q⟩
   simp[this]
  ·simp[e1]
end
structure Wf (pg st:Int)(ws:List Int):Prop where
 b:∀p,af pg p=true→0≤aX pg st ws p∧aX pg st ws p≤7
 rest:∀p,aX pg st ws p=7→aX pg st ws (p-1)=6∨aX pg st ws (p-1)=7
 run:∀p,aX pg st ws p=6→1≤cG pg st ws p∧cG pg st ws p≤pg-p∧(∀i,p<i→i<p+cG pg st ws p→aX pg st ws i=7)∧aX pg st ws (p+cG pg st ws p)≠7
 free:∀p,aX pg st ws p=0→cG pg st ws p=0∧c6 pg st ws p=0
 map:∀p,af pg p=true→aX pg st ws p≠0→bL pg st ws (p / 4)=true
theorem FC (pg st:Int)(ws:List Int)(m:Nat):∀q:Int,tG pg st m q ws=true↔∀i:Int,q≤i→i<q+m→aX pg st ws i=0:=by
 induction m with
 |zero=>intro q;simp only[tG,true_iff];intro i h0 h1;omega
 |succ m ih =>
  intro q
  show(decide (aX pg st ws q=0) && tG pg st m (q+1) ws)=true↔_
  rw[Bool.and_eq_true,decide_eq_true_eq,ih]
  constructor
  ·rintro⟨h0,h1⟩ i a0 a1
   by_cases e:i=q
   ·rw[e];exact h0
   ·exact h1 i (by omega) (by omega)
  ·intro h
   exact⟨h q (by omega) (by omega),fun i a0 a1=>h i (by omega) (by omega)⟩
theorem tN {pg st p n:Int}{ws:List Int} :tH pg st p n ws=true↔ci pg p n=true∧∀i:Int,p≤i→i<p+n→aX pg st ws i=0:=by
 unfold tH
 rw[Bool.and_eq_true,FC]
 constructor
 ·rintro⟨h0,h1⟩
  obtain⟨a,b,c⟩:=dX.1 h0
  exact⟨h0,fun i a0 a1=>h1 i a0 (by omega)⟩
 ·rintro⟨h0,h1⟩
  exact⟨h0,fun i a0 a1=>h1 i a0 (by obtain⟨a,b,c⟩:=dX.1 h0;omega)⟩
theorem zO {pg p:Int}(h:af pg p=true):bS pg (p / 4)=true:=by
 have:=ax.1 h
 rw[dc];unfold aL;omega
section
variable {pg st:Int}{n:Nat}(H:PgIn pg st n)
include H
structure IQ (pg st p m k:Int)(ws ws':List Int):Prop where
 len:ws'.length=ws.length
 kind:∀q,aX pg st ws' q=if q=p then k else if p<q∧q<p+m then 7 else aX pg st ws q
 cnt:∀q,af pg q=true→cG pg st ws' q=if q=p then(if k=6 then m else 0) else if p<q∧q<p+m then 0 else cG pg st ws q
 bit:∀q,af pg q=true→c6 pg st ws' q=if p≤q∧q<p+m then 0 else c6 pg st ws q
 map:∀j,bS pg j=true→bL pg st ws' j=(bL pg st ws j ||(decide (p / 4≤j) && decide (j≤(p+m-1) / 4)))
 off:∀i:Int,0≤i→(∀p,af pg p=true→i≠kA pg st p∧i≠cA pg st p∧i≠bA pg st p)→(∀k,bS pg k=true→i≠dU pg st k)→wAt ws' i=wAt ws i
theorem FD {p m k:Int}{ws:List Int}(hn:ws.length=n)(ht:ci pg p m=true):IQ pg st p m k ws (iw pg st 7 (m-1).toNat (p+1) (fG pg st p k (if k=6 then m else 0) (gD pg st p m ws).2)):=by
 obtain⟨t0,t1,t2⟩:=dX.1 ht
 have T:=La H ht hn
 have hE:(gD pg st p m ws).2.length=n:=T.len.trans hn
 have hp:af pg p=true:=ax.2 ⟨by omega,by omega⟩
 have hP:(fG pg st p k (if k=6 then m else 0) (gD pg st p m ws).2).length=n:=by rw[ff H];exact hE
 have hr:∀i:Nat,i<(m-1).toNat→af pg (p+1+i)=true:=fun i hi=>ax.2 ⟨by omega,by omega⟩
 have hc:(((m-1).toNat:Nat):Int)=m-1:=by omega
 refine⟨by rw[IK H,ff H,T.len],fun q=>?_,fun q hq=>?_,fun q hq=>?_,fun j hj=>?_,fun i h0 o1 o2=>?_⟩
 ·rw[FA H _ _ _ _ hP hr,ns H hp _ _ hE,T.kind H,hc]
  by_cases e:q=p
  ·rw[if_neg (by omega),if_pos e,if_pos e]
  ·rw[if_neg e,if_neg e]
   by_cases e2:p<q∧q<p+m
   ·rw[if_pos (by omega),if_pos e2]
   ·rw[if_neg (by omega),if_neg e2]
 ·rw[IL H _ _ _ _ hP hr q hq,mE H hp _ _ hE hq,T.cnt H hq,hc]
  by_cases e:q=p
  ·rw[if_neg (by omega),if_pos e,if_pos e]
  ·rw[if_neg e,if_neg e]
   by_cases e2:p<q∧q<p+m
   ·rw[if_pos (by omega),if_pos e2]
   ·rw[if_neg (by omega),if_neg e2]
 ·rw[IM H _ _ _ _ hP hr q hq,pC H hp _ _ hE hq,T.bit H hq,hc]
  by_cases e:q=p
  ·rw[if_neg (by omega),if_pos e,if_pos (by omega)]
  ·rw[if_neg e]
   by_cases e2:p<q∧q<p+m
   ·rw[if_pos (by omega),if_pos (by omega)]
   ·rw[if_neg (by omega),if_neg (by omega)]
 ·rw[zq0 H _ _ _ _ hP hr,tL H hp _ _ hE,Lb H ht hn hj]
 ·obtain⟨o3,o4,o5⟩:=o1 p hp
  rw[IP H _ _ _ _ hP hr i h0 o1,im H hp _ _ hE h0,if_neg o5,if_neg o4,if_neg o3,T.off i h0 o2]
structure PF (pg st p m:Int)(ws ws':List Int):Prop where
 len:ws'.length=ws.length
 kind:∀q,aX pg st ws' q=if p≤q∧q<p+m then 0 else aX pg st ws q
 cnt:∀q,af pg q=true→cG pg st ws' q=if p≤q∧q<p+m then 0 else cG pg st ws q
 bit:∀q,af pg q=true→c6 pg st ws' q=if p≤q∧q<p+m then 0 else c6 pg st ws q
 map:∀j,bL pg st ws' j=bL pg st ws j
 off:∀i:Int,0≤i→(∀p,af pg p=true→i≠kA pg st p∧i≠cA pg st p∧i≠bA pg st p)→wAt ws' i=wAt ws i
end
open Go.ChangeShapes Go.WideShapes Go.ChangeAt Go.Joins Go.Deep
theorem FF (b o j:Nat):(⟨b,o,none⟩:Addr).add j=⟨b,o+j,none⟩:=by
 unfold Addr.add
 by_cases q:j=0
 ·subst q;simp
 ·simp[q]
theorem IR {α:Type}{n:Nat}{f:Nat→α}{i:Nat}{t:α}(h:((List.range n).map f)[i]?=some t):i<n∧t=f i:=by
 rw[List.getElem?_map] at h
 by_cases q:i<n
 ·rw[List.getElem?_range q] at h;exact⟨q,by simpa using h.symm⟩
 ·rw[List.getElem?_eq_none (by simpa using q)] at h;cases h
section
variable {H:Type}{enc:TypeId×Value→H}{P:Program}{w:World}{base:Nat}{spare:Nat→Bool}{held:Bool}
end
section
variable {H:Type}{enc:TypeId×Value→H}{P:Program}{w:World}{base:Nat}{spare:Nat→Bool}{held:Bool}
end
theorem IT {α:Type}{l:List α}{j:Nat}{x:α}(h:l[j]?=some x):l.drop j=x::l.drop (j+1):=by
 have hj:j<l.length:=by
  rcases Nat.lt_or_ge j l.length with q|q
  ·exact q
  ·rw[List.getElem?_eq_none q] at h;cases h
 rw[List.drop_eq_getElem_cons hj]
 rw[List.getElem?_eq_getElem hj] at h
 cases h;rfl
def NU (pg st k:Int)(ws:List Int):Bool:=tH pg st (p8 pg k) (fE pg k) ws
section
variable {pg st:Int}{n:Nat}(H:PgIn pg st n)
include H
structure Pq (pg st:Int)(lo s:Int)(ws:List Int)(r:Int×List Int):Prop where
 tab:Tab pg st ws r.2
 wf:Wf pg st r.2
 cnt:Ig pg st r.2=Ig pg st ws-(r.1-s)
 le:s≤r.1
 map:∀j,bS pg j=true→bL pg st r.2 j=if lo≤j then(bL pg st ws j && !NU pg st j ws) else bL pg st ws j
end
section
variable {pg st:Int}{n:Nat}(H:PgIn pg st n)
include H
end
def opN (pg st:Int)(ws:List Int)(mp:Bool):Nat→Int→Bool
 | 0,_=>true
 |m+1,q=>(decide (aX pg st ws q=0) && (!mp ||bL pg st ws (ofV q))) && opN pg st ws mp m (q+1)
theorem Pr (pg st:Int)(ws:List Int)(mp:Bool)(m:Nat):∀q:Int,opN pg st ws mp m q=true↔∀i:Int,q≤i→i<q+m→aX pg st ws i=0∧(mp=true→bL pg st ws (ofV i)=true):=by
 induction m with
 |zero=>intro q;exact⟨fun _ i h0 h1=>by omega,fun _=>rfl⟩
 |succ m ih =>
  intro q
  show((decide (aX pg st ws q=0) && (!mp ||bL pg st ws (ofV q))) && opN pg st ws mp m (q+1))=true↔_
  rw[Bool.and_eq_true,Bool.and_eq_true,ih]
  constructor
  ·rintro⟨⟨h0,h1⟩,h2⟩ i hi hl
   by_cases e:i=q
   ·subst e
    refine⟨by simpa using h0,fun hm=>?_⟩
    rw[hm] at h1;simpa using h1
   ·exact h2 i (by omega) (by omega)
  ·intro h
   obtain⟨a,b⟩:=h q (by omega) (by omega)
   refine⟨⟨by simpa using a,?_⟩,fun i hi hl=>h i (by omega) (by omega)⟩
   cases mp with
   |false=>rfl
   |true=>simpa using b rfl
def Ed (f:Int→Bool)(pg m q:Int):Prop:=q≤pg-m∧∀i,q≤i→i<q+m→f i=true
theorem Cr {f:Int→Bool}(m:Nat):∀q:Int,nW f m q=none→∀i,q≤i→i<q+m→f i=true:=by
 induction m with
 |zero=>intro q _ i h0 h1;omega
 |succ m ih =>
  intro q h i h0 h1
  have h:(if f q then nW f m (q+1) else some q)=none:=h
  by_cases e:f q=true
  ·rw[if_pos e] at h
   by_cases ei:i=q
   ·rw[ei];exact e
   ·exact ih (q+1) h i (by omega) (by omega)
  ·rw[if_neg e] at h;cases h
theorem Cs {f:Int→Bool}(m:Nat):∀q x:Int,nW f m q=some x→q≤x∧x<q+m∧f x=false:=by
 induction m with
 |zero=>intro q x h;cases h
 |succ m ih =>
  intro q x h
  have h:(if f q then nW f m (q+1) else some q)=some x:=h
  by_cases e:f q=true
  ·rw[if_pos e] at h
   obtain⟨a,b,c⟩:=ih (q+1) x h
   exact⟨by omega,by omega,c⟩
  ·rw[if_neg e] at h
   cases h
   exact⟨by omega,by omega,by simpa using e⟩
theorem Ct {f:Int→Bool}{pg m step:Int}(h1:1≤m)(h2:1≤step)(j:Nat):∀p d:Int,p=d * step→0≤p→pg<p+j →
 (pB f pg m step j p= -1∧∀k:Int,p≤k * step→¬Ed f pg m (k * step))∨∃k:Int,pB f pg m step j p=k * step∧p≤k * step∧Ed f pg m (k * step)∧∀l:Int,p≤l * step→l * step<k * step→¬Ed f pg m (l * step):=by
 induction j with
 |zero=>intro p d hp h0 hj;exact .inl ⟨rfl,fun k hk hh=>by have:=hh.1;omega⟩
 |succ j ih =>
  intro p d hp h0 hj
  unfold pB
  by_cases e:p≤pg-m
  ·rw[if_pos e]
   cases hs:nW f m.toNat p with
   |none =>
    have:=Cr _ _ hs
    exact .inr ⟨d,hp,by omega,⟨by omega,fun i a b=>this i (by omega) (by omega)⟩,fun l a b=>by omega⟩
   |some q =>
    obtain⟨s0,s1,s2⟩:=Cs _ _ _ hs
    have q0:q / step * step≤q:=Int.ediv_mul_le q (by omega)
    have q1:q<(q / step+1) * step:=Int.lt_ediv_add_one_mul_self q (by omega)
    have skip:∀l:Int,p≤l * step→l * step<(q / step+1) * step→¬Ed f pg m (l * step):=fun l a b hh=>by
     have hl:l<q / step+1:=Int.lt_of_mul_lt_mul_right b (by omega)
     have hl2:l * step≤q / step * step:=Int.mul_le_mul_of_nonneg_right (by omega) (by omega)
     have:=hh.2 q (by omega) (by omega)
     rw[s2] at this;cases this
    rcases ih ((q / step+1) * step) (q / step+1) rfl (by omega) (by omega) with⟨a,b⟩|⟨k,a,b,c,d'⟩
    ·refine .inl ⟨a,fun k hk=>?_⟩
     rcases Int.lt_or_le (k * step) ((q / step+1) * step) with z|z
     ·exact skip k hk z
     ·exact b k z
    ·refine .inr ⟨k,a,by omega,c,fun l hl hl2=>?_⟩
     rcases Int.lt_or_le (l * step) ((q / step+1) * step) with z|z
     ·exact skip l hl z
     ·exact d' l z hl2
  ·rw[if_neg e]
   exact .inl ⟨rfl,fun k hk hh=>by have:=hh.1;omega⟩
section
variable {pg st:Int}{n:Nat}(H:PgIn pg st n)
include H
end
def bZ (pg a:Int)(ws:List Int):Int:=if a=0 then -1 else gX pg (wAt ws a)
def plThrV (pg st p:Int):Nat→Int→List Int→List Int→List Int×Bool
 | 0,_,l,_=>(l,false)
 |m+1,a,l,ws=>if bZ pg a ws=p then(l,true) else if bZ pg a ws= -1 then(l,false) else plThrV pg st p m (nA pg st (bZ pg a ws)) (l++ [bZ pg a ws]) ws
def cP (pg st h p q:Int)(ws:List Int):List Int:=if q= -1 then ws.set (if p= -1 then h else nA pg st p).toNat (q+1) else(ws.set (if p= -1 then h else nA pg st p).toNat (q+1)).set (vA pg st q).toNat (p+1)
def eH (pg st p c f:Int)(ws:List Int):Bool×List Int:=if aG pg st c f≠0∧af pg p=true then(true,cP pg st (aG pg st c f) (-1) p (cP pg st (aG pg st c f) p (bZ pg (aG pg st c f) ws) ws)) else(false,ws)
def cB (pg st p c f:Int)(ws:List Int):Bool×List Int:=if af pg p=true∧(plThrV pg st p pg.toNat (aG pg st c f) [] ws).2=true then(true,((cP pg st (aG pg st c f) (cC (plThrV pg st p pg.toNat (aG pg st c f) [] ws).1) (bZ pg (nA pg st p) ws) ws).set (nA pg st p).toNat 0).set (vA pg st p).toNat 0) else(false,ws)
def dl (pg st c:Int):Nat→Int→List Int→Int
 | 0,_,_=> -1
 |m+1,f,ws=>if bZ pg (aG pg st c f) ws= -1 then dl pg st c m (f+1) ws else bZ pg (aG pg st c f) ws
section
variable {pg st:Int}{n:Nat}(H:cF pg st n)
include H
theorem jO {a:Int}(h0:0≤a)(ha:a<n):bG n (el pg a) (fun ws=>(bZ pg a ws,ws)):=by
 unfold el bZ
 by_cases e:a=0
 ·simp only[if_pos e];exact au n (-1)
 ·simp only[if_neg e];exact aA (dW h0 ha) (fun x=>au n (gX pg x))
theorem tO (a:Int)(ws:List Int):bZ pg a ws= -1∨af pg (bZ pg a ws)=true:=by
 unfold bZ
 split
 ·exact .inl rfl
 ·exact zp H _
theorem zP (p:Int)(m:Nat):∀(a:Int) (l:List Int),0≤a→a<n→bG n (k7 pg st p m a l) (fun ws=>(plThrV pg st p m a l ws,ws)):=by
 induction m with
 |zero=>intro a l _ _;exact au n (l,false)
 |succ m ih =>
  intro a l h0 ha
  refine aU (ge (Q:=fun q:Int=>q= -1∨af pg q=true) (jO H h0 ha) (fun ws _=>tO H a ws) (fun q hq=>bI (fun _=>au n (l,true)) (fun _=>bI (fun _=>au n (l,false)) (fun hne=>by
   have hp:=hq.resolve_left hne
   have:=(eF H hp).1
   exact ih (nA pg st q) (l++ [q]) (by omega) this.2.1)))) (fun ws _=>?_)
  show _=(if bZ pg a ws=p then(l,true) else if bZ pg a ws= -1 then(l,false) else plThrV pg st p m (nA pg st (bZ pg a ws)) (l++ [bZ pg a ws]) ws,ws)
  by_cases e:bZ pg a ws=p
  ·simp only[if_pos e]
  ·by_cases e2:bZ pg a ws= -1
   ·simp only[if_neg e,if_pos e2]
   ·simp only[if_neg e,if_neg e2]
theorem Cu (p c f:Int):bG n (k8 pg st p c f) (fun ws=>(plThrV pg st p pg.toNat (aG pg st c f) [] ws,ws)):=zP H p _ _ _ (bD H).1 (bD H).2.1
theorem mF {h p q:Int}(h0:0≤h)(h1:W64 h)(h2:h<n)(hp:p= -1∨af pg p=true)(hq:q= -1∨af pg q=true):bG n (eY pg st h p q) (fun ws=>((),cP pg st h p q ws)):=by
 have first:bG n (if p= -1 then cO h (q+1) else cO (nA pg st p) (q+1)) (fun ws=>((),ws.set (if p= -1 then h else nA pg st p).toNat (q+1))):=by
  by_cases e:p= -1
  ·simp only[if_pos e];exact dg h0 h2 h1 (nT H hq)
  ·simp only[if_neg e]
   obtain⟨⟨a,b,c⟩,_⟩:=eF H (hp.resolve_left e)
   exact dg (by omega) b c (nT H hq)
 refine aU (aA first (fun _=>bI (fun _=>au n ()) (fun hne=>by
  obtain⟨_,a,b,c⟩:=eF H (hq.resolve_left hne)
  exact dg (by omega) b c (nT H hp)))) (fun ws _=>?_)
 unfold cP
 by_cases e:q= -1
 ·simp only[if_pos e]
 ·simp only[if_neg e]
theorem zQ (p c f:Int):bG n (iV pg st p c f) (eH pg st p c f):=by
 unfold iV
 by_cases hz:aG pg st c f=0
 ·rw[if_pos hz]
  exact aU (au n false) (fun ws _=>by unfold eH;rw[if_neg (by rintro⟨a,_⟩;exact a hz)])
 rw[if_neg hz]
 cases hp:af pg p with
 |false=>exact aU (au n false) (fun ws _=>by unfold eH;rw[if_neg (by rintro⟨_,a⟩;rw[hp] at a;cases a)])
 |true =>
  rw[if_pos rfl]
  obtain⟨b0,b1,b2⟩:=bD (c:=c) (f:=f) H
  refine aU (ge (Q:=fun q:Int=>q= -1∨af pg q=true) (jO H b0 b1) (fun ws _=>tO H _ ws) (fun q hq=>aA (mF H b0 b2 b1 (.inr hp) hq) (fun _=>aA (mF H b0 b2 b1 (.inl rfl) (.inr hp)) (fun _=>au n true)))) (fun ws _=>?_)
  unfold eH
  rw[if_pos ⟨hz,hp⟩]
theorem FH (p:Int)(m:Nat)(ws:List Int):∀(a:Int) (l:List Int),(∀x∈l,af pg x=true)→∀x∈(plThrV pg st p m a l ws).1,af pg x=true:=by
 induction m with
 |zero=>intro a l hl;exact hl
 |succ m ih =>
  intro a l hl
  unfold plThrV
  split
  ·exact hl
  ·split
   ·exact hl
   ·rename_i hne
    exact ih _ _ (fun x hx=>by
     rcases List.mem_append.1 hx with h|h
     ·exact hl x h
     ·rw[List.mem_singleton.1 h];exact(tO H a ws).resolve_left hne)
theorem uZ (p c f:Int):bG n (fI pg st p c f) (cB pg st p c f):=by
 unfold fI
 cases hp:af pg p with
 |false=>exact aU (au n false) (fun ws _=>by unfold cB;rw[if_neg (by rintro⟨a,_⟩;rw[hp] at a;cases a)])
 |true =>
  rw[if_pos rfl]
  obtain⟨b0,b1,b2⟩:=bD (c:=c) (f:=f) H
  obtain⟨⟨a0,a1,a2⟩,c0,c1,c2⟩:=eF H hp
  refine aU (ge (Q:=fun r:List Int×Bool=>∀x∈r.1,af pg x=true) (Cu H p c f) (fun ws _=>FH H _ _ _ _ _ (fun x hx=>by cases hx)) (fun r hr=>bI (fun _=>ge (Q:=fun q:Int=>q= -1∨af pg q=true) (jO H (by omega) a1) (fun ws _=>tO H _ ws) (fun q hq=>aA (mF H b0 b2 b1 (lf H hr) hq) (fun _=>aA (dg (by omega) a1 a2 (by unfold W64;omega)) (fun _=>aA (dg (by omega) c1 c2 (by unfold W64;omega)) (fun _=>au n true))))) (fun _=>au n false))) (fun ws _=>?_)
  unfold cB
  by_cases e:(plThrV pg st p pg.toNat (aG pg st c f) [] ws).2=true
  ·simp only[if_pos e,if_pos (And.intro hp e)]
  ·simp only[if_neg e];rw[if_neg (fun q=>e q.2)]
theorem nX (c:Int)(m:Nat):∀f,bG n (fe pg st c m f) (fun ws=>(dl pg st c m f ws,ws)):=by
 induction m with
 |zero=>intro f;exact au n (-1)
 |succ m ih =>
  intro f
  obtain⟨b0,b1,b2⟩:=bD (c:=c) (f:=f) H
  refine aU (aA (jO H b0 b1) (fun q=>bI (fun _=>ih (f+1)) (fun _=>au n q))) (fun ws _=>?_)
  show _=(if bZ pg (aG pg st c f) ws= -1 then dl pg st c m (f+1) ws else bZ pg (aG pg st c f) ws,ws)
  by_cases e:bZ pg (aG pg st c f) ws= -1
  ·simp only[if_pos e]
  ·simp only[if_neg e]
end
def dx (pg st a:Int):Prop:=bo st pg≤a∧a<bo st pg+62
theorem io {pg st c f:Int}(h:aG pg st c f≠0):dx pg st (aG pg st c f)∧0≤c∧c≤4∧1≤f∧f≤fX c:=by
 unfold aG at h⊢
 split
 ·rename_i g
  refine⟨?_,g.1,g.2.1,g.2.2.1,g.2.2.2⟩
  obtain⟨c0,c4,f1,fs⟩:=g
  have:c=0∨c=1∨c=2∨c=3∨c=4:=by omega
  unfold dx
  rcases this with rfl|rfl|rfl|rfl|rfl<;>simp[fX,fD] at fs⊢ <;>omega
 ·rename_i g;rw[if_neg g] at h;exact absurd rfl h
theorem IU {pg st c f c' f':Int}(h:aG pg st c f≠0)(e:aG pg st c f=aG pg st c' f'):c=c'∧f=f':=by
 have g:=(io h).2
 have g':=(io (e▸h)).2
 unfold aG at e
 rw[if_pos ⟨g.1,g.2.1,g.2.2.1,g.2.2.2⟩,if_pos ⟨g'.1,g'.2.1,g'.2.2.1,g'.2.2.2⟩] at e
 obtain⟨c0,c4,f1,fs⟩:=g
 obtain⟨d0,d4,k1,ks⟩:=g'
 have h1:c=0∨c=1∨c=2∨c=3∨c=4:=by omega
 have h2:c'=0∨c'=1∨c'=2∨c'=3∨c'=4:=by omega
 rcases h1 with rfl|rfl|rfl|rfl|rfl<;>rcases h2 with rfl|rfl|rfl|rfl|rfl<;>simp[fX,fD] at fs ks e⊢ <;>omega
def hd1:List Int→Int
 | []=>0
 |p::_=>p+1
def fU:List Int→Int
 | []=> -1
 |p::_=>p
theorem Ee (l:List Int):hd1 l=fU l+1:=by cases l<;>rfl
def nxL:List Int→Int→Int
 | [],_=>0
 |x::t,p=>if x=p then hd1 t else nxL t p
def pvL:Int→List Int→Int→Int
 | _,[],_=>0
 |k,x::t,p=>if x=p then k else pvL (x+1) t p
theorem gg (l:List Int)(x:Int):cC (l++ [x])=x:=by simp[cC,List.getD]
theorem tP (x:Int)(l:List Int)(h:l≠ []):cC (x::l)=cC l:=by
 obtain⟨s,y,rfl⟩:∃s y,l=s++ [y]:=⟨l.dropLast,l.getLast h,(List.dropLast_concat_getLast h).symm⟩
 rw[gg,show x::(s++ [y])=(x::s)++ [y] from rfl,gg]
theorem we (l m:List Int)(h:m≠ []):cC (l++m)=cC m:=by
 obtain⟨s,y,rfl⟩:∃s y,m=s++ [y]:=⟨m.dropLast,m.getLast h,(List.dropLast_concat_getLast h).symm⟩
 rw[gg,←List.append_assoc,gg]
theorem wg (l:List Int)(h:l≠ []):cC l∈l:=by
 obtain⟨s,y,rfl⟩:∃s y,l=s++ [y]:=⟨l.dropLast,l.getLast h,(List.dropLast_concat_getLast h).symm⟩
 rw[gg];simp
theorem mG (u v:List Int)(r:Int)(h:r∉u):nxL (u++r::v) r=hd1 v:=by
 induction u with
 |nil=>show(if r=r then hd1 v else _)=_;rw[if_pos rfl]
 |cons x u ih =>
  show(if x=r then _ else nxL (u++r::v) r)=_
  rw[if_neg (fun e=>h (by simp[e])),ih (fun q=>h (by simp[q]))]
theorem NV (u v:List Int)(r:Int)(h:r∉u):∀k,pvL k (u++r::v) r=if u= [] then k else cC u+1:=by
 induction u with
 |nil=>intro k;show(if r=r then k else _)=_;rw[if_pos rfl,if_pos rfl]
 |cons x u ih =>
  intro k
  show(if x=r then k else pvL (x+1) (u++r::v) r)=_
  rw[if_neg (fun e=>h (by simp[e])),ih (fun q=>h (by simp[q]))]
  by_cases hu:u= []
  ·subst hu;rfl
  ·rw[if_neg hu,if_neg (show ¬x::u= [] by simp),tP x u hu]
theorem ny (u v:List Int)(r:Int)(h:r∉u):pvL 0 (u++r::v) r=cC u+1:=by
 rw[NV u v r h]
 split
 ·rename_i e;subst e;rfl
 ·rfl
theorem kx {l:List Int}{p:Int}(h:p∈l):∃s t,l=s++p::t∧p∉s:=by
 induction l with
 |nil=>cases h
 |cons x l ih =>
  by_cases e:x=p
  ·exact⟨[],l,by rw[e];rfl,by simp⟩
  ·obtain⟨s,t,rfl,hs⟩:=ih ((List.mem_cons.1 h).resolve_left (fun q=>e q.symm))
   exact⟨x::s,t,rfl,by simp only[List.mem_cons];rintro(q|q);exact e q.symm;exact hs q⟩
structure Ln (pg st:Int)(G:Int→List Int)(ws:List Int):Prop where
 head:∀a,dx pg st a→wAt ws a=hd1 (G a)
 page:∀a,dx pg st a→∀p∈G a,af pg p=true
 nodup:∀a,dx pg st a→(G a).Nodup
 apart:∀a b p,dx pg st a→dx pg st b→p∈G a→p∈G b→a=b
 next:∀a p,dx pg st a→p∈G a→wAt ws (nA pg st p)=nxL (G a) p
 prev:∀a p,dx pg st a→p∈G a→wAt ws (vA pg st p)=pvL 0 (G a) p
 free:∀p,af pg p=true→(∀a,dx pg st a→p∉G a)→wAt ws (nA pg st p)=0∧wAt ws (vA pg st p)=0
structure d8 (pg st:Int)(ws ws':List Int):Prop where
 len:ws'.length=ws.length
 off:∀i:Int,0≤i→¬dx pg st i→(∀p,af pg p=true→i≠nA pg st p∧i≠vA pg st p)→wAt ws' i=wAt ws i
theorem d8.refl (pg st:Int)(ws:List Int):d8 pg st ws ws:=⟨rfl,fun _ _ _ _=>rfl⟩
theorem d8.trans {pg st:Int}{a b c:List Int}(h:d8 pg st a b)(g:d8 pg st b c):d8 pg st a c:=⟨g.len.trans h.len,fun i h0 h1 h2=>(g.off i h0 h1 h2).trans (h.off i h0 h1 h2)⟩
theorem Ln.uniq {pg st:Int}{G:Int→List Int}{ws ws':List Int}(h:Ln pg st G ws)(g:Ln pg st G ws')(o:d8 pg st ws ws'):ws'=ws :=
 vI o.len (fun i h0 _=>by
  by_cases e:dx pg st i
  ·rw[h.head i e,g.head i e]
  by_cases e2:∃p,af pg p=true∧(i=nA pg st p∨i=vA pg st p)
  ·obtain⟨p,hp,hi⟩:=e2
   by_cases m:∃a,dx pg st a∧p∈G a
   ·obtain⟨a,ha,m⟩:=m
    rcases hi with rfl|rfl
    ·rw[h.next a p ha m,g.next a p ha m]
    ·rw[h.prev a p ha m,g.prev a p ha m]
   ·have m':∀a,dx pg st a→p∉G a:=fun a ha q=>m ⟨a,ha,q⟩
    rcases hi with rfl|rfl
    ·rw[(h.free p hp m').1,(g.free p hp m').1]
    ·rw[(h.free p hp m').2,(g.free p hp m').2]
  ·exact o.off i h0 e (fun p hp=>⟨fun q=>e2 ⟨p,hp,.inl q⟩,fun q=>e2 ⟨p,hp,.inr q⟩⟩))
section
variable {pg st:Int}{n:Nat}(H:cF pg st n)
include H
theorem qC {a:Int}(h:dx pg st a):4≤a∧a<n∧W64 a:=by
 have h1:=H.st1;have h2:=H.st2;have h3:=H.top62;have h4:=H.pg1;have h5:=H.pg2
 unfold dx bo W64 at *
 unfold aL a8 at *
 omega
theorem jP {a p:Int}(h:dx pg st a)(hp:af pg p=true):a≠nA pg st p∧a≠vA pg st p:=by
 have:=ax.1 hp;have h4:=H.pg1
 unfold dx bo at h
 unfold nA vA
 omega
theorem iQ {p q:Int}(hp:af pg p=true)(hq:af pg q=true):nA pg st p≠vA pg st q:=by
 have:=ax.1 hp;have:=ax.1 hq
 unfold nA vA;omega
theorem Lc {x:Int}(h:af pg x=true):gX pg (x+1)=x:=by
 have:=ax.1 h;have h5:=H.pg2
 unfold gX
 rw[show IntKind.i64.wrap (x+1-1)=x by rw[show x+1-1=x by omega];exact az (by omega) (by omega),if_pos h]
theorem FJ:gX pg 0= -1:=by
 unfold gX
 rw[show IntKind.i64.wrap (0-1)= -1 from az (by omega) (by omega),if_neg (by rw[sY.2 (by omega)];simp)]
theorem Ld {l:List Int}(h:∀p∈l,af pg p=true):gX pg (hd1 l)=fU l:=by
 cases l with
 |nil=>exact FJ H
 |cons x t=>exact Lc H (h x (by simp))
theorem rZ {l:List Int}{a:Int}{ws:List Int}(ha:0<a)(hw:wAt ws a=hd1 l)(h:∀p∈l,af pg p=true):bZ pg a ws=fU l:=by
 unfold bZ
 rw[if_neg (by omega),hw]
 exact Ld H h
theorem MG {l:List Int}(h:∀p∈l,af pg p=true)(hn:l.Nodup):l.length≤pg.toNat :=
 lS pg.toNat l hn (fun p hp=>by have:=ax.1 (h p hp);omega)
theorem IV {p a:Int}{G:Int→List Int}{ws:List Int}(L:Ln pg st G ws)(ha:dx pg st a)(m:Nat):∀(s t:List Int) (at':Int),G a=s++t→0<at'→wAt ws at'=hd1 t →
 (∀t1 t2,t=t1++p::t2→p∉t1→t1.length<m→plThrV pg st p m at' s ws=(s++t1,true)) ∧
 (p∉t→t.length≤m→(plThrV pg st p m at' s ws).1=s++t∧(p≠ -1→(plThrV pg st p m at' s ws).2=false)):=by
 induction m with
 |zero =>
  intro s t at' hG h0 hw
  refine⟨fun t1 t2 _ _ h=>absurd h (by omega),fun _ h=>?_⟩
  have:t= []:=List.length_eq_zero_iff.1 (by omega)
  subst this
  exact⟨by show s=s++ [];simp,fun _=>rfl⟩
 |succ m ih =>
  intro s t at' hG h0 hw
  have hpt:∀x∈t,af pg x=true:=fun x hx=>L.page a ha x (by rw[hG];simp[hx])
  have hl:=rZ H h0 hw hpt
  unfold plThrV
  rw[hl]
  cases t with
  |nil =>
   refine⟨fun t1 t2 e _ _=>by simp at e,fun _ _=>?_⟩
   rw[show fU []= -1 from rfl]
   by_cases e:(-1:Int)=p
   ·simp only[if_pos e];exact⟨by simp,fun q=>absurd e.symm q⟩
   ·simp only[if_neg e,if_true];exact⟨by simp,fun _=>by simp⟩
  |cons x t =>
   have hx:=hpt x (by simp)
   have hxp:=ax.1 hx
   have hxm:x∈G a:=by rw[hG];simp
   have hnd:=L.nodup a ha
   rw[hG] at hnd
   have hxs:x∉s:=fun q=>by
    have:=List.nodup_append.1 hnd
    exact this.2.2 x q x (by simp) rfl
   have hnx:wAt ws (nA pg st x)=hd1 t:=by rw[L.next a x ha hxm,hG,mG s t x hxs]
   have I:=ih (s++ [x]) t (nA pg st x) (by rw[hG];simp) (by have:=(eF H hx).1.1;omega) hnx
   show(∀t1 t2,x::t=t1++p::t2→p∉t1→t1.length<m+1→(if x=p then(s,true) else if x= -1 then(s,false) else plThrV pg st p m (nA pg st x) (s++ [x]) ws)=(s++t1,true))∧(p∉x::t→(x::t).length≤m+1→(if x=p then(s,true) else if x= -1 then(s,false) else plThrV pg st p m (nA pg st x) (s++ [x]) ws).1=s++x::t∧(p≠ -1→(if x=p then(s,true) else if x= -1 then(s,false) else plThrV pg st p m (nA pg st x) (s++ [x]) ws).2=false))
   refine⟨fun t1 t2 e hn hm=>?_,fun hn hm=>?_⟩
   ·cases t1 with
    |nil =>
     have:x=p:=by simp at e;exact e.1
     rw[if_pos this];simp
    |cons y t1 =>
     simp only[List.cons_append,List.cons.injEq] at e
     obtain⟨rfl,e⟩:=e
     rw[if_neg (fun q=>hn (by simp[q])),if_neg (by omega),I.1 t1 t2 e (fun q=>hn (by simp[q])) (by simp at hm;omega)]
     simp
   ·have hne:x≠p:=fun q=>hn (by simp[q])
    rw[if_neg hne,if_neg (by omega)]
    have:=I.2 (fun q=>hn (by simp[q])) (by simp at hm;omega)
    exact⟨by rw[this.1];simp,this.2⟩
theorem Le {p a:Int}{G:Int→List Int}{ws:List Int}(L:Ln pg st G ws)(ha:dx pg st a){s t:List Int}(hG:G a=s++p::t)(hs:p∉s):plThrV pg st p pg.toNat a [] ws=(s,true):=by
 have hl:=MG H (L.page a ha) (L.nodup a ha)
 rw[hG] at hl
 simp at hl
 have:=(IV H (p:=p) L ha pg.toNat [] (G a) a rfl (by have:=(qC H ha).1;omega) (L.head a ha)).1 s t hG hs (by omega)
 simpa using this
theorem Lf {p a:Int}{G:Int→List Int}{ws:List Int}(L:Ln pg st G ws)(ha:dx pg st a)(hp:p∉G a):(plThrV pg st p pg.toNat a [] ws).1=G a∧(p≠ -1→(plThrV pg st p pg.toNat a [] ws).2=false):=by
 have:=(IV H (p:=p) L ha pg.toNat [] (G a) a rfl (by have:=(qC H ha).1;omega) (L.head a ha)).2 hp (MG H (L.page a ha) (L.nodup a ha))
 simpa using this
theorem IW {p:Int}(ws:List Int):(plThrV pg st p pg.toNat 0 [] ws).1= []∧(p≠ -1→(plThrV pg st p pg.toNat 0 [] ws).2=false):=by
 obtain⟨m,hm⟩:∃m,pg.toNat=m+1:=⟨pg.toNat-1,by have:=H.pg1;omega⟩
 rw[hm]
 have h0:bZ pg 0 ws= -1:=by unfold bZ;rw[if_pos rfl]
 unfold plThrV
 rw[h0]
 by_cases e:(-1:Int)=p
 ·rw[if_pos e];exact⟨rfl,fun q=>absurd e.symm q⟩
 ·rw[if_neg e,if_pos rfl];exact⟨rfl,fun _=>rfl⟩
theorem xQ {h p q:Int}(hh:dx pg st h)(hp:p= -1∨af pg p=true)(hq:q= -1∨af pg q=true){ws:List Int}(hn:ws.length=n){i:Int}(hi:0≤i):
 wAt (cP pg st h p q ws) i=if q≠ -1∧i=vA pg st q then p+1 else if i=(if p= -1 then h else nA pg st p) then q+1 else wAt ws i:=by
 have hb:4≤(if p= -1 then h else nA pg st p)∧(if p= -1 then h else nA pg st p)<n:=by
  by_cases e:p= -1
  ·rw[if_pos e];exact⟨(qC H hh).1,(qC H hh).2.1⟩
  ·rw[if_neg e];have:=(eF H (hp.resolve_left e)).1;exact⟨this.1,this.2.1⟩
 unfold cP
 by_cases e:q= -1
 ·rw[if_pos e,dI (by omega) hi (by omega),if_neg (fun z:q≠ -1∧i=vA pg st q=>z.1 e)]
 ·have:=(eF H (hq.resolve_left e)).2
  rw[if_neg e,dI (by omega) hi (by simp;omega),dI (by omega) hi (by omega)]
  by_cases e2:i=vA pg st q
  ·rw[if_pos e2,if_pos ⟨e,e2⟩]
  ·rw[if_neg e2,if_neg (fun z:q≠ -1∧i=vA pg st q=>e2 z.2)]
theorem ky (h p q:Int)(ws:List Int):(cP pg st h p q ws).length=ws.length:=by unfold cP;split<;>simp
end
def vd (G:Int→List Int)(a:Int)(l:List Int):Int→List Int:=fun b=>if b=a then l else G b
theorem du (G:Int→List Int)(a:Int)(l:List Int):vd G a l a=l:=if_pos rfl
theorem dB (G:Int→List Int)(a:Int)(l:List Int){b:Int}(h:b≠a):vd G a l b=G b:=if_neg h
section
variable {pg st:Int}{n:Nat}(H:cF pg st n)
include H
theorem Lg {c f p:Int}{G:Int→List Int}{ws:List Int}(L:Ln pg st G ws)(hn:ws.length=n)(hz:aG pg st c f≠0)(hp:af pg p=true)(hf:∀a,dx pg st a→p∉G a):
 Ln pg st (vd G (aG pg st c f) (p::G (aG pg st c f))) (eH pg st p c f ws).2∧d8 pg st ws (eH pg st p c f ws).2:=by
 have hv:eH pg st p c f ws=(true,cP pg st (aG pg st c f) (-1) p (cP pg st (aG pg st c f) p (bZ pg (aG pg st c f) ws) ws)):=by unfold eH;rw[if_pos ⟨hz,hp⟩]
 have ha:=(io hz).1
 rw[hv]
 generalize aG pg st c f=a at ha hz
 show Ln pg st (vd G a (p::G a)) (cP pg st a (-1) p (cP pg st a p (bZ pg a ws) ws))∧d8 pg st ws (cP pg st a (-1) p (cP pg st a p (bZ pg a ws) ws))
 have ha4:=(qC H ha).1
 rw[rZ H (by omega) (L.head a ha) (L.page a ha)]
 have hq:fU (G a)= -1∨af pg (fU (G a))=true:=by
  cases e:G a with
  |nil=>exact .inl rfl
  |cons x t=>exact .inr (L.page a ha x (by rw[e];simp))
 have hpp:=ax.1 hp
 have hne:p≠ -1:=by omega
 have val:∀i:Int,0≤i→wAt (cP pg st a (-1) p (cP pg st a p (fU (G a)) ws)) i=if i=vA pg st p then 0 else if i=a then p+1 else if fU (G a)≠ -1∧i=vA pg st (fU (G a)) then p+1 else if i=nA pg st p then hd1 (G a) else wAt ws i:=fun i hi=>by
  rw[xQ H ha (.inl rfl) (.inr hp) (by rw[ky H];exact hn) hi,xQ H ha (.inr hp) hq hn hi,if_pos rfl,if_neg hne,Ee]
  by_cases e:i=vA pg st p
  ·rw[if_pos ⟨hne,e⟩,if_pos e];omega
  ·rw[if_neg (fun z:p≠ -1∧i=vA pg st p=>e z.2),if_neg e]
 have hlen:(cP pg st a (-1) p (cP pg st a p (fU (G a)) ws)).length=ws.length:=by rw[ky H,ky H]
 generalize cP pg st a (-1) p (cP pg st a p (fU (G a)) ws)=xs at val hlen
 have hfa:=hf a ha
 have qmem:fU (G a)≠ -1→fU (G a)∈G a:=fun e=>by
  cases e2:G a with
  |nil=>rw[e2] at e;exact absurd rfl e
  |cons x t=>simp[fU]
 have pos1:=fun(b:Int) (hb:dx pg st b)=>(qC H hb).1
 have posn:=fun(r:Int) (hr:af pg r=true)=>(eF H hr).1.1
 have posv:=fun(r:Int) (hr:af pg r=true)=>(eF H hr).2.1
 have injn:∀r,nA pg st r=nA pg st p→r=p:=fun r e=>by unfold nA at e;omega
 have injv:∀r s,vA pg st r=vA pg st s→r=s:=fun r s e=>by unfold vA at e;omega
 refine⟨⟨fun b hb=>?_,fun b hb r hr=>?_,fun b hb=>?_,fun b b' r hb hb' hr hr'=>?_,fun b r hb hr=>?_,fun b r hb hr=>?_,fun r hr hno=>?_⟩,?_,fun i h0 h1 h2=>?_⟩
 ·have nv:=jP H hb hp
  rw[val b (by have:=pos1 b hb;omega),if_neg nv.2]
  by_cases e:b=a
  ·rw[if_pos e,e,du];rfl
  ·rw[if_neg e,dB _ _ _ e,if_neg (fun z=>(jP H hb (L.page a ha _ (qmem z.1))).2 z.2),if_neg nv.1]
   exact L.head b hb
 ·by_cases e:b=a
  ·subst e
   rw[du] at hr
   rcases List.mem_cons.1 hr with rfl|hr
   ·exact hp
   ·exact L.page b hb r hr
  ·rw[dB _ _ _ e] at hr;exact L.page b hb r hr
 ·by_cases e:b=a
  ·subst e
   rw[du]
   exact List.nodup_cons.2 ⟨hfa,L.nodup b hb⟩
  ·rw[dB _ _ _ e];exact L.nodup b hb
 ·have cas:∀b,dx pg st b→r∈vd G a (p::G a) b→(b=a∧r=p)∨r∈G b:=fun b hb hr=>by
   by_cases e:b=a
   ·subst e
    rw[du] at hr
    rcases List.mem_cons.1 hr with h|h
    ·exact .inl ⟨rfl,h⟩
    ·exact .inr h
   ·rw[dB _ _ _ e] at hr;exact .inr hr
  rcases cas b hb hr with⟨e,h⟩|h
  ·rcases cas b' hb' hr' with⟨e',_⟩|h'
   ·rw[e,e']
   ·rw[h] at h';exact absurd h' (hf b' hb')
  ·rcases cas b' hb' hr' with⟨e',h'⟩|h'
   ·rw[h'] at h;exact absurd h (hf b hb)
   ·exact L.apart b b' r hb hb' h h'
 ·have hrp:af pg r=true:=by
   by_cases e:b=a
   ·subst e
    rw[du] at hr
    rcases List.mem_cons.1 hr with rfl|hr
    ·exact hp
    ·exact L.page b hb r hr
   ·rw[dB _ _ _ e] at hr;exact L.page b hb r hr
  have p0:=posn r hrp
  rw[val _ (by omega),if_neg (iQ H hrp hp),if_neg (fun e=>(jP H ha hrp).1 e.symm),if_neg (fun z=>iQ H hrp (L.page a ha _ (qmem z.1)) z.2)]
  by_cases e:r=p
  ·subst e
   have:b=a:=by
    rcases Classical.em (b=a) with h|h
    ·exact h
    ·rw[dB _ _ _ h] at hr;exact absurd hr (hf b hb)
   subst this
   rw[if_pos rfl,du]
   exact(mG [] (G b) r (by simp)).symm
  ·rw[if_neg (fun z=>e (injn r z))]
   by_cases e2:b=a
   ·subst e2
    rw[du] at hr⊢
    have hr:=(List.mem_cons.1 hr).resolve_left e
    rw[L.next b r hb hr]
    show _=if p=r then _ else nxL (G b) r
    rw[if_neg (fun z=>e z.symm)]
   ·rw[dB _ _ _ e2] at hr⊢
    exact L.next b r hb hr
 ·have hrp:af pg r=true:=by
   by_cases e:b=a
   ·subst e
    rw[du] at hr
    rcases List.mem_cons.1 hr with rfl|hr
    ·exact hp
    ·exact L.page b hb r hr
   ·rw[dB _ _ _ e] at hr;exact L.page b hb r hr
  have p0:=posv r hrp
  rw[val _ (by omega)]
  by_cases e:r=p
  ·subst e
   have:b=a:=by
    rcases Classical.em (b=a) with h|h
    ·exact h
    ·rw[dB _ _ _ h] at hr;exact absurd hr (hf b hb)
   subst this
   rw[if_pos rfl,du]
   exact(ny [] (G b) r (by simp)).symm
  ·rw[if_neg (fun z=>e (injv r p z)),if_neg (fun z=>(jP H ha hrp).2 z.symm)]
   by_cases e2:b=a
   ·subst e2
    rw[du] at hr⊢
    have hr:=(List.mem_cons.1 hr).resolve_left e
    have e5:pvL 0 (p::G b) r=pvL (p+1) (G b) r:=by show(if p=r then 0 else pvL (p+1) (G b) r)=_;rw[if_neg (fun z=>e z.symm)]
    rw[e5]
    by_cases e3:r=fU (G b)
    ·have hq1:fU (G b)≠ -1:=by have:=ax.1 hrp;omega
     rw[if_pos ⟨hq1,by rw[e3]⟩]
     cases e4:G b with
     |nil=>rw[e4] at hr;cases hr
     |cons x t =>
      rw[e4] at e3
      have:x=r:=e3.symm
      show _=if x=r then p+1 else _
      rw[if_pos this]
    ·rw[if_neg (fun z=>e3 (injv _ _ z.2)),if_neg (fun z=>(iQ H hp hrp) z.symm),L.prev b r hb hr]
     cases e4:G b with
     |nil=>rw[e4] at hr;cases hr
     |cons x t =>
      rw[e4] at e3
      have:x≠r:=fun z=>e3 z.symm
      show(if x=r then 0 else pvL (x+1) t r)=if x=r then p+1 else pvL (x+1) t r
      rw[if_neg this,if_neg this]
   ·rw[dB _ _ _ e2] at hr⊢
    rw[if_neg (fun z=>e2 (L.apart b a r hb ha hr (by rw[injv _ _ z.2];exact qmem z.1))),if_neg (fun z=>(iQ H hp hrp) z.symm)]
    exact L.prev b r hb hr
 ·have hrne:r≠p:=fun e=>hno a ha (by rw[du,e];simp)
  have hno':∀b,dx pg st b→r∉G b:=fun b hb q=>by
   by_cases e:b=a
   ·subst e;exact hno b hb (by rw[du];simp[q])
   ·exact hno b hb (by rw[dB _ _ _ e];exact q)
  have:=L.free r hr hno'
  have p0:=posn r hr
  have p1:=posv r hr
  rw[val _ (by omega),val _ (by omega)]
  rw[if_neg (iQ H hr hp),if_neg (fun z=>(jP H ha hr).1 z.symm),if_neg (fun z=>iQ H hr (L.page a ha _ (qmem z.1)) z.2),if_neg (fun z=>hrne (injn r z))]
  rw[if_neg (fun z=>hrne (injv r p z)),if_neg (fun z=>(jP H ha hr).2 z.symm),if_neg (fun z=>hno' a ha (by rw[injv _ _ z.2];exact qmem z.1)),if_neg (fun z=>(iQ H hp hr) z.symm)]
  exact this
 ·exact hlen
 ·rw[val i h0,if_neg (h2 p hp).2,if_neg (fun e=>h1 (by rw[e];exact ha)),if_neg (fun z=>(h2 _ (L.page a ha _ (qmem z.1))).2 z.2),if_neg (h2 p hp).1]
theorem FM {c f p:Int}{G:Int→List Int}{ws:List Int}(L:Ln pg st G ws)(hn:ws.length=n)(hz:aG pg st c f≠0){s t:List Int}(hG:G (aG pg st c f)=s++p::t)(hs:p∉s):
 (cB pg st p c f ws).1=true∧Ln pg st (vd G (aG pg st c f) (s++t)) (cB pg st p c f ws).2∧d8 pg st ws (cB pg st p c f ws).2:=by
 have ha:=(io hz).1
 have hpm:p∈G (aG pg st c f):=by rw[hG];simp
 have hp:=L.page _ ha p hpm
 have thr:=Le H L ha hG hs
 have hv:cB pg st p c f ws=(true,((cP pg st (aG pg st c f) (cC s) (bZ pg (nA pg st p) ws) ws).set (nA pg st p).toNat 0).set (vA pg st p).toNat 0):=by
  unfold cB
  rw[thr,if_pos ⟨hp,rfl⟩]
 rw[hv]
 refine⟨rfl,?_⟩
 generalize aG pg st c f=a at ha hz hG hpm
 show Ln pg st (vd G a (s++t)) (((cP pg st a (cC s) (bZ pg (nA pg st p) ws) ws).set (nA pg st p).toNat 0).set (vA pg st p).toNat 0)∧d8 pg st ws (((cP pg st a (cC s) (bZ pg (nA pg st p) ws) ws).set (nA pg st p).toNat 0).set (vA pg st p).toNat 0)
 have hpgl:=L.page a ha
 have hnd:=L.nodup a ha
 rw[hG] at hpgl hnd
 have hna:=List.nodup_append.1 hnd
 have hpt:p∉t:=(List.nodup_cons.1 hna.2.1).1
 have hst:∀x,x∈s→x∉t:=fun x h1 h2=>hna.2.2 x h1 x (by simp[h2]) rfl
 have hnp:wAt ws (nA pg st p)=hd1 t:=by rw[L.next a p ha hpm,hG,mG s t p hs]
 obtain⟨⟨a0,a1,a2⟩,c0,c1,c2⟩:=eF H hp
 have htp:∀x∈t,af pg x=true:=fun x hx=>hpgl x (by simp[hx])
 have hsp:∀x∈s,af pg x=true:=fun x hx=>hpgl x (by simp[hx])
 rw[rZ H (by omega) hnp htp]
 have hq:fU t= -1∨af pg (fU t)=true:=by
  cases t with
  |nil=>exact .inl rfl
  |cons x t=>exact .inr (htp x (by simp))
 have hb:=lf H hsp
 have val:∀i:Int,0≤i→wAt (((cP pg st a (cC s) (fU t) ws).set (nA pg st p).toNat 0).set (vA pg st p).toNat 0) i=if i=vA pg st p then 0 else if i=nA pg st p then 0 else if fU t≠ -1∧i=vA pg st (fU t) then cC s+1 else if i=(if cC s= -1 then a else nA pg st (cC s)) then hd1 t else wAt ws i:=fun i hi=>by
  rw[dI (by omega) hi (by simp[ky H];omega),dI (by omega) hi (by rw[ky H];omega),xQ H ha hb hq hn hi,Ee]
 have hlen:(((cP pg st a (cC s) (fU t) ws).set (nA pg st p).toNat 0).set (vA pg st p).toNat 0).length=ws.length:=by simp[ky H]
 generalize ((cP pg st a (cC s) (fU t) ws).set (nA pg st p).toNat 0).set (vA pg st p).toNat 0=xs at val hlen
 have hpp:=ax.1 hp
 have pos1:=fun(b:Int) (hb:dx pg st b)=>(qC H hb).1
 have posn:=fun(r:Int) (hr:af pg r=true)=>(eF H hr).1.1
 have posv:=fun(r:Int) (hr:af pg r=true)=>(eF H hr).2.1
 have injn:∀r s,nA pg st r=nA pg st s→r=s:=fun r s e=>by unfold nA at e;omega
 have injv:∀r s,vA pg st r=vA pg st s→r=s:=fun r s e=>by unfold vA at e;omega
 have qmem:fU t≠ -1→fU t∈t:=fun e=>by
  cases t with
  |nil=>exact absurd rfl e
  |cons x t=>simp[fU]
 have bmem:cC s≠ -1→cC s∈s:=fun e=>wg s (fun z=>by rw[z] at e;exact e rfl)
 have snil:cC s= -1→s= []:=fun e=>by
  rcases Classical.em (s= []) with z|z
  ·exact z
  ·have:=ax.1 (hsp _ (wg s z));omega
 have mem':∀b r,dx pg st b→r∈vd G a (s++t) b→r∈G b∧r≠p:=fun b r hb hr=>by
  by_cases e:b=a
  ·subst e
   rw[du] at hr
   refine⟨?_,fun z=>?_⟩
   ·rw[hG]
    rcases List.mem_append.1 hr with h|h<;>simp[h]
   ·rw[z] at hr
    rcases List.mem_append.1 hr with h|h
    ·exact hs h
    ·exact hpt h
  ·rw[dB _ _ _ e] at hr
   exact⟨hr,fun z=>e (L.apart b a p hb ha (z▸hr) hpm)⟩
 have qin:∀r,fU t≠ -1∧vA pg st r=vA pg st (fU t)→r∈t:=fun r z=>by rw[injv _ _ z.2];exact qmem z.1
 have ga:∀r,r∈s∨r∈t→r∈G a:=fun r h=>by rw[hG];rcases h with h|h<;>simp[h]
 refine⟨⟨fun b hb=>?_,fun b hb r hr=>L.page b hb r (mem' b r hb hr).1,fun b hb=>?_,fun b b' r hb hb' hr hr'=>L.apart b b' r hb hb' (mem' b r hb hr).1 (mem' b' r hb' hr').1,fun b r hb hr=>?_,fun b r hb hr=>?_,fun r hr hno=>?_⟩,hlen,fun i h0 h1 h2=>?_⟩
 ·have nv:=jP H hb hp
  rw[val b (by have:=pos1 b hb;omega),if_neg nv.2,if_neg nv.1,if_neg (fun z=>(jP H hb (htp _ (qmem z.1))).2 z.2)]
  by_cases e:b=a
  ·subst e
   rw[du]
   by_cases e2:cC s= -1
   ·rw[if_pos e2,if_pos rfl,snil e2];rfl
   ·rw[if_neg e2,if_neg (jP H hb (hsp _ (bmem e2))).1,L.head b hb,hG]
    cases s with
    |nil=>exact absurd rfl e2
    |cons x s=>rfl
  ·rw[dB _ _ _ e]
   by_cases e2:cC s= -1
   ·rw[if_pos e2,if_neg e];exact L.head b hb
   ·rw[if_neg e2,if_neg (jP H hb (hsp _ (bmem e2))).1];exact L.head b hb
 ·by_cases e:b=a
  ·subst e
   rw[du]
   refine List.nodup_append.2 ⟨hna.1,(List.nodup_cons.1 hna.2.1).2,fun x hx y hy z=>?_⟩
   subst z
   exact hst x hx hy
  ·rw[dB _ _ _ e];exact L.nodup b hb
 ·obtain⟨hr1,hrp⟩:=mem' b r hb hr
  have hrg:=L.page b hb r hr1
  have p0:=posn r hrg
  rw[val _ (by omega),if_neg (iQ H hrg hp),if_neg (fun z=>hrp (injn _ _ z)),if_neg (fun z=>iQ H hrg (htp _ (qmem z.1)) z.2)]
  have hh:nA pg st r≠a:=fun z=>(jP H ha hrg).1 z.symm
  by_cases e:b=a
  ·subst e
   rw[du] at hr⊢
   by_cases e2:r=cC s
   ·have hs0:cC s≠ -1:=by rw[←e2];have:=ax.1 hrg;omega
    rw[if_neg hs0,if_pos (by rw[e2])]
    obtain⟨s',y,rfl⟩:∃s' y,s=s'++ [y]:=⟨s.dropLast,s.getLast (fun z=>hs0 (by rw[z];rfl)),(List.dropLast_concat_getLast _).symm⟩
    rw[gg] at e2
    subst e2
    have:r∉s':=fun q=>(List.nodup_append.1 hna.1).2.2 r q r (by simp) rfl
    rw[List.append_assoc]
    exact(mG s' t r this).symm
   ·have hif:nA pg st r≠(if cC s= -1 then b else nA pg st (cC s)):=by
     by_cases e3:cC s= -1
     ·rw[if_pos e3];exact hh
     ·rw[if_neg e3];exact fun z=>e2 (injn _ _ z)
    rw[if_neg hif,L.next b r hb hr1,hG]
    rcases List.mem_append.1 hr with h|h
    ·obtain⟨u,v,rfl,hu⟩:=kx h
     have hv:v≠ []:=fun z=>e2 (by rw[z,gg])
     obtain⟨y,v',rfl⟩:=List.exists_cons_of_ne_nil hv
     have h1:(u++r::y::v')++p::t=u++r::(y::(v'++p::t)):=by simp
     have h2:(u++r::y::v')++t=u++r::(y::(v'++t)):=by simp
     rw[h1,h2,mG u _ r hu,mG u _ r hu]
     rfl
    ·obtain⟨u,v,rfl,hu⟩:=kx h
     have hrs:r∉s:=fun q=>hst r q h
     have h1:s++p::(u++r::v)=(s++p::u)++r::v:=by simp
     have h2:s++(u++r::v)=(s++u)++r::v:=by simp
     rw[h1,h2,mG _ v r (by simp;exact⟨hrs,hrp,hu⟩),mG _ v r (by simp;exact⟨hrs,hu⟩)]
  ·rw[dB _ _ _ e] at hr⊢
   have hif:nA pg st r≠(if cC s= -1 then a else nA pg st (cC s)):=by
    by_cases e3:cC s= -1
    ·rw[if_pos e3];exact hh
    ·rw[if_neg e3];exact fun z=>e (L.apart b a r hb ha hr (by rw[injn _ _ z];exact ga _ (.inl (bmem e3))))
   rw[if_neg hif]
   exact L.next b r hb hr
 ·obtain⟨hr1,hrp⟩:=mem' b r hb hr
  have hrg:=L.page b hb r hr1
  have p0:=posv r hrg
  rw[val _ (by omega),if_neg (fun z=>hrp (injv _ _ z)),if_neg (fun z=>iQ H hp hrg z.symm)]
  have hif:vA pg st r≠(if cC s= -1 then a else nA pg st (cC s)):=by
   by_cases e3:cC s= -1
   ·rw[if_pos e3];exact fun z=>(jP H ha hrg).2 z.symm
   ·rw[if_neg e3];exact fun z=>iQ H (hsp _ (bmem e3)) hrg z.symm
  by_cases e:b=a
  ·subst e
   rw[du] at hr⊢
   by_cases e2:fU t≠ -1∧vA pg st r=vA pg st (fU t)
   ·rw[if_pos e2]
    have hrt:=qin r e2
    have hr':=injv _ _ e2.2
    cases t with
    |nil=>cases hrt
    |cons x t' =>
     have:x=r:=hr'.symm
     subst this
     exact(ny s t' x (fun q=>hst x q (by simp))).symm
   ·rw[if_neg e2,if_neg hif,L.prev b r hb hr1,hG]
    rcases List.mem_append.1 hr with h|h
    ·obtain⟨u,v,rfl,hu⟩:=kx h
     have h1:(u++r::v)++p::t=u++r::(v++p::t):=by simp
     have h2:(u++r::v)++t=u++r::(v++t):=by simp
     rw[h1,h2,ny u _ r hu,ny u _ r hu]
    ·obtain⟨u,v,rfl,hu⟩:=kx h
     have hrs:r∉s:=fun q=>hst r q h
     have hun:u≠ []:=fun z=>e2 (by subst z;exact⟨by show r≠ -1;have:=ax.1 hrg;omega,rfl⟩)
     have h1:s++p::(u++r::v)=(s++p::u)++r::v:=by simp
     have h2:s++(u++r::v)=(s++u)++r::v:=by simp
     rw[h1,h2,ny _ v r (by simp;exact⟨hrs,hrp,hu⟩),ny _ v r (by simp;exact⟨hrs,hu⟩),we s (p::u) (by simp),tP p u hun,we s u hun]
  ·rw[dB _ _ _ e] at hr⊢
   rw[if_neg (fun z=>e (L.apart b a r hb ha hr (ga _ (.inr (qin r z))))),if_neg hif]
   exact L.prev b r hb hr
 ·have p0:=posn r hr
  have p1:=posv r hr
  rw[val _ (by omega),val _ (by omega)]
  by_cases e:r=p
  ·subst e
   rw[if_neg (iQ H hr hr),if_pos rfl,if_pos rfl]
   exact⟨rfl,rfl⟩
  ·have hno':∀b,dx pg st b→r∉G b:=fun b hb q=>by
    by_cases e2:b=a
    ·subst e2
     refine hno b hb ?_
     rw[du]
     rw[hG] at q
     rcases List.mem_append.1 q with h|h
     ·simp[h]
     ·simp[(List.mem_cons.1 h).resolve_left e]
    ·exact hno b hb (by rw[dB _ _ _ e2];exact q)
   have fr:=L.free r hr hno'
   have hif1:nA pg st r≠(if cC s= -1 then a else nA pg st (cC s)):=by
    by_cases e3:cC s= -1
    ·rw[if_pos e3];exact fun z=>(jP H ha hr).1 z.symm
    ·rw[if_neg e3];exact fun z=>hno' a ha (by rw[injn _ _ z];exact ga _ (.inl (bmem e3)))
   have hif2:vA pg st r≠(if cC s= -1 then a else nA pg st (cC s)):=by
    by_cases e3:cC s= -1
    ·rw[if_pos e3];exact fun z=>(jP H ha hr).2 z.symm
    ·rw[if_neg e3];exact fun z=>iQ H (hsp _ (bmem e3)) hr z.symm
   rw[if_neg (iQ H hr hp),if_neg (fun z=>e (injn _ _ z)),if_neg (fun z=>iQ H hr (htp _ (qmem z.1)) z.2),if_neg hif1]
   rw[if_neg (fun z=>e (injv _ _ z)),if_neg (fun z=>iQ H hp hr z.symm),if_neg (fun z=>hno' a ha (ga _ (.inr (qin r z)))),if_neg hif2]
   exact fr
 ·have hif:i≠(if cC s= -1 then a else nA pg st (cC s)):=by
   by_cases e3:cC s= -1
   ·rw[if_pos e3];exact fun z=>h1 (by rw[z];exact ha)
   ·rw[if_neg e3];exact(h2 _ (hsp _ (bmem e3))).1
  rw[val i h0,if_neg (h2 p hp).2,if_neg (h2 p hp).1,if_neg (fun z=>(h2 _ (htp _ (qmem z.1))).2 z.2),if_neg hif]
theorem wh {c f p:Int}{G:Int→List Int}{ws:List Int}(L:Ln pg st G ws)(h:af pg p=true→aG pg st c f≠0→p∉G (aG pg st c f)):cB pg st p c f ws=(false,ws):=by
 unfold cB
 refine if_neg (fun z=>?_)
 have hp:=ax.1 z.1
 by_cases e:aG pg st c f=0
 ·have:=(IW H (p:=p) ws).2 (by omega)
  rw[e,this] at z
  cases z.2
 ·have:=(Lf H L (io e).1 (h z.1 e)).2 (by omega)
  rw[this] at z
  cases z.2
end
theorem IX {pg st:Int}{n:Nat}(H:cF pg st n):Ln pg st (fun _=> []) (cL n):=by
 have hz:∀i:Int,wAt (cL n) i=0:=fun i=>by
  unfold wAt cL
  simp only[List.getD,List.getElem?_replicate]
  split<;>rfl
 exact⟨fun a _=>hz a,fun a _ p h=>(by cases h),fun a _=>List.nodup_nil,fun a b p _ _ h=>(by cases h),fun a p _ h=>(by cases h),fun a p _ h=>(by cases h),fun p _ _=>⟨hz _,hz _⟩⟩
section
variable {pg st:Int}{n:Nat}(H:cF pg st n)
include H
end
structure InL (pg st:Int)(G:Int→List Int)(ins:List Int):Prop where
 len:ins.length=pg.toNat
 at':∀p,af pg p=true→(wAt ins p=0∧∀a,dx pg st a→p∉G a)∨(∃c f,aG pg st c f≠0∧p∈G (aG pg st c f)∧wAt ins p=100 * c+f)
section
variable {pg st:Int}{n:Nat}(H:cF pg st n)
include H
end
theorem d8.symm {pg st:Int}{a b:List Int}(h:d8 pg st a b):d8 pg st b a:=⟨h.len.symm,fun i h0 h1 h2=>(h.off i h0 h1 h2).symm⟩
structure PG (pg st h:Int)(ps:List Int)(ws:List Int)(i:Nat)(ws':List Int):Prop where
 hd:wAt ws' h=if i=0 then 0 else hd1 ps
 nx:∀k,k<i→wAt ws' (nA pg st (ps.getD k 0))=if k+1<ps.length then ps.getD (k+1) 0+1 else 0
 pv:∀k,k<i→wAt ws' (vA pg st (ps.getD k 0))=if k=0 then 0 else ps.getD (k-1) 0+1
 off:∀x:Int,0≤x→x≠h→(∀k,k<i→x≠nA pg st (ps.getD k 0)∧x≠vA pg st (ps.getD k 0))→wAt ws' x=wAt ws x
section
variable {pg st:Int}{n:Nat}(H:cF pg st n)
include H
end
end Go.Proofs.YtddmeghbmdfgeaaGreatDoor
