/-
  Layer 17: sums of numbers that may be: the whole walk.
-/
import Derived.Test.YtfddhogffpkhcaaGreatDoorTdAj
import Derived.Test.YtfddhogffpkhcaaGreatDoorTdAe
import Derived.Test.YtfddhogffpkhcaaGreatDoorTdAd
import Derived.Test.YtfddhogffpkhcaaGreatDoorTdAh
import Derived.Test.YtfddhogffpkhcaaGreatDoorTdAi
import Derived.Test.YtfddhogffpkhcaaGreatDoorTdAc
import Derived.Test.YtfddhogffpkhcaaGreatDoorTdAa
import Derived.ProofKit
import Derived.Deep.Fields
set_option maxRecDepth 100000
set_option maxHeartbeats 8000000
set_option linter.all false
namespace Go.Proofs.YtfddhogffpkhcaaGreatDoor
open Go.RowKit Go.Sort Go.Maps Go.Shelf
theorem eR {x:Int}(h0: -9223372036854775808≤x)(h1:x≤9223372036854775807):wrap64 x=x:=by unfold wrap64;omega
theorem Cz {a b:TS}(ha:0≤kP a)(hb:0≤kP b)(h1:wH a≤549755813888)(h2:wH b≤549755813888):eF a b=⟨a.bl+b.bl,a.ak+b.ak,a.wo+b.wo,a.ke+b.ke,a.op+b.op,a.ma+b.ma,a.us+b.us⟩:=by
 obtain⟨a1,a2,a3,a4,a5,a6,a7⟩:=(iq a 0).1 ha
 obtain⟨b1,b2,b3,b4,b5,b6,b7⟩:=(iq b 0).1 hb
 obtain⟨c1,c2,c3,c4,c5,c6,c7⟩:=(js a _).1 h1
 obtain⟨d1,d2,d3,d4,d5,d6,d7⟩:=(js b _).1 h2
 unfold eF
 rw[eR (by omega) (by omega),eR (by omega) (by omega),eR (by omega) (by omega),eR (by omega) (by omega),eR (by omega) (by omega),eR (by omega) (by omega),eR (by omega) (by omega)]
theorem CC {a:TS} :mr a=true↔0≤kP a∧a.wo≤35184372088832∧a.ke≤35184372088832∧a.us≤1099511627776∧a.ak≤a.wo∧a.bl≤a.wo∧a.us≤a.ma∧a.op=wrap64 (wrap64 (wrap64 (a.us * 32)-a.wo)-a.ke):=by
 simp only[mr,Bool.and_eq_true,decide_eq_true_eq,FP,beq_iff_eq,and_assoc]
theorem wI {a:TS}(hl:0≤kP a)(hm:wH a≤1099511627776):mr a=true↔a.ak≤a.wo∧a.bl≤a.wo∧a.us≤a.ma∧a.op=32 * a.us-a.wo-a.ke:=by
 obtain⟨a1,a2,a3,a4,a5,a6,a7⟩:=(iq a 0).1 hl
 obtain⟨c1,c2,c3,c4,c5,c6,c7⟩:=(js a _).1 hm
 rw[CC,eR (x:=a.us * 32) (by omega) (by omega),eR (x:=a.us * 32-a.wo) (by omega) (by omega),eR (by omega) (by omega)]
 constructor
 ·rintro⟨_,_,_,_,h5,h6,h7,h8⟩;exact⟨h5,h6,h7,by omega⟩
 ·rintro⟨h5,h6,h7,h8⟩;exact⟨hl,by omega,by omega,by omega,h5,h6,h7,by omega⟩
def JB (w:World)(u:Value)(xs:List Int):Prop:=(u=.slice none 0 0∧xs= [])∨∃p c,u=.slice (some p) xs.length c∧∀j x,(xs.map (Value.int .i64))[j]?=some x→w.cell? (p.add j)=some x
theorem Ai {o:Oper}{a:Act}{K:Act→World→Prop}{Q:Exit→Act→World→Prop}{w:World}{base:Nat}{v u:Value}{xs ys:List Int}(s x:Operand)
 (ho:o.op=.call { callee:= .builtin .append,args:= #[s,x],argTypes:= #[28,28] })
 (hs:a.eval s=v) (hv:Rw base w v xs) (hb:base≤w.heap.size) (hx:a.eval x=u) (hu:JB w u ys) (hl:xs.length+ys.length≤1000000)
 (h:∀v' w',Rw base w' v' (xs++ys)→Turned (fun k=>v.ownBlock=some k) w w'→(∀k,v'.ownBlock=some k→v.ownBlock=some k∨k=w.heap.size)→K (a.put o.dst v') w'):o.wp Tryz.prog a w K Q:=by
 obtain⟨i,i1,i2,i3,i4⟩:=iA
 rcases hu with⟨rfl,rfl⟩|⟨p,c,rfl,hc⟩
 ·have hrun:=run_append_owned_none (P:=Tryz.prog) (w:=w) base 28 o.type 3 i 1 Tryz.underlying28 i1 v xs.length _ hv
  unfold Oper.wp
  simp[execOp,ho,resolve,invoke,builtin,hs,hx,hrun,Result.andThen]
  exact h _ _ (by simpa using hv) (Turned.refl _ _) (fun k q=> .inl q)
 ·obtain⟨v',w',hr,h2,h3,_,h5⟩:=run_append_own_at (P:=Tryz.prog) w base 28 o.type 3 i _ 1 8 Tryz.underlying28 i1 i2 i3 i4 rfl (by omega) v xs.length _ hv p ys.length c (ys.map (Value.int .i64)) (by simp) hc (by intro u hu;obtain⟨z,_,rfl⟩:=List.mem_map.1 hu;rfl) (by simp only[maxLen];omega) (by omega) hb
  unfold Oper.wp execOp
  simp only[ho,resolve,invoke,builtin,Sem.run_bind,Sem.run_pure,Result.andThen_ok,List.map_toArray,List.map_cons,List.map_nil,hs,hx,hr]
  refine h v' w' ?_ ⟨h3.os,h3.tape,h3.output,h3.size,fun k hk hne=>h3.block k hk (fun e=>hne e.symm)⟩ (fun k q=>?_)
  ·unfold Rw
   rw[List.length_append,List.map_append]
   exact h2
  ·rcases h5 with h5|h5
   ·exact .inl (by rw[←h5];exact q)
   ·rw[h5] at q;cases q;exact .inr rfl
theorem Ik (w:World):Rw w.heap.size (w.alloc (.cells #[] 3)) (.slice (some ⟨w.heap.size,0,none⟩) 0 0) [] :=
 ⟨rfl,.inr ⟨_,0,_,rfl,Nat.le_refl _,bm w _,Nat.le_refl _,by simp[maxLen],rfl,rfl⟩⟩
theorem yL {o:Oper}{a:Act}{w:World}{K:Act→World→Prop}{Q:Exit→Act→World→Prop}(ho:o.op=.buildSlice 28 0 #[])(h:K (a.put o.dst (.slice (some ⟨w.heap.size,0,none⟩) 0 0)) (w.alloc (.cells #[] 3))):Oper.wp Tryz.prog o a w K Q:=by
 unfold Oper.wp Oper.upon execOp
 simp only[ho]
 generalize a.eval=ρ
 go_simp
 exact h
def hiJ (g m cap:Nat):Addr:=if cap=m+1 then⟨g,0,none⟩ else⟨g,m+1,none⟩
section
variable {C:World→Prop}{ops:Array Oper}{o':Oper}{a:Act}
theorem wJ {x y:Operand}{g n cap m:Nat}(hw:Region.wanted o' (yielded ops a.tmps)=true)(ho:o'.op=.slice 28 x none (some y) none)(hx:a.eval x=.slice (some ⟨g,0,none⟩) n cap)(hy:a.eval y=.int .i64 (m:Int))(hm:m≤cap):bx Tryz.prog ops C o' (.slice (some ⟨g,0,none⟩) m cap) a:=by
 have d1:decide (m≤cap)=true:=by simp[hm]
 refine .inl ⟨hw,fun W hW=>?_⟩
 unfold execOp
 generalize a.eval=ρ at hx hy⊢
 simp only[ho,hx,hy]
 go_simp
theorem wK {x y:Operand}{g n cap m:Nat}(hw:Region.wanted o' (yielded ops a.tmps)=true)(ho:o'.op=.slice 28 x (some y) none none)(hx:a.eval x=.slice (some ⟨g,0,none⟩) n cap)(hy:a.eval y=.int .i64 ((m:Int)+1))(hm:m<n)(hn:n≤cap):bx Tryz.prog ops C o' (.slice (some (hiJ g m cap)) (n-(m+1)) (cap-(m+1))) a:=by
 refine .inl ⟨hw,fun W hW=>?_⟩
 unfold execOp
 generalize a.eval=ρ at hx hy⊢
 simp only[ho,hx,hy]
 go_simp
 rw[if_pos ⟨by omega,by omega⟩]
 unfold hiJ
 split<;>rfl
end
theorem CD {W:World}{g cv j:Nat}{xs:List Int}(hc:∀i x,(xs.map (Value.int .i64))[i]?=some x→W.cell? ⟨g,i,none⟩=some x)(hj:j≤xs.length):JB W (.slice (some ⟨g,0,none⟩) j cv) (xs.take j):=by
 have hl:(xs.take j).length=j:=by simp;omega
 refine .inr ⟨⟨g,0,none⟩,cv,by rw[hl],fun i x hi=>?_⟩
 rw[eV,Nat.zero_add]
 refine hc i x ?_
 rw[List.map_take,List.getElem?_take] at hi
 split at hi
 ·exact hi
 ·cases hi
theorem CF {W:World}{g cv m c:Nat}{xs:List Int}(hc:∀i x,(xs.map (Value.int .i64))[i]?=some x→W.cell? ⟨g,i,none⟩=some x)(hm:m<xs.length)(hn:xs.length≤cv):JB W (.slice (some (hiJ g m cv)) (xs.length-(m+1)) c) (xs.drop (m+1)):=by
 have hl:(xs.drop (m+1)).length=xs.length-(m+1):=by simp
 refine .inr ⟨hiJ g m cv,c,by rw[hl],fun i x hi=>?_⟩
 have hi':=(List.getElem?_eq_some_iff.1 hi).1
 rw[List.length_map,hl] at hi'
 have e:hiJ g m cv=⟨g,m+1,none⟩:=by unfold hiJ;rw[if_neg (by omega)]
 rw[e,eV]
 refine hc _ x ?_
 rw[List.map_drop,List.getElem?_drop] at hi
 exact hi
theorem Rw.lies {b:Nat}{w:World}{xs:List Int}{g n cap:Nat}(h:Rw b w (.slice (some ⟨g,0,none⟩) n cap) xs):n=xs.length∧xs.length≤cap∧g<w.heap.size∧b≤g∧∀i x,(xs.map (Value.int .i64))[i]?=some x→w.cell? ⟨g,i,none⟩=some x:=by
 obtain⟨a,c,e,hr⟩:=h.reads
 cases e
 rcases h.2 with⟨q,_⟩|⟨g',cp,cur,q,hb,hg,hcap,_,hs,ht⟩
 ·cases q
 ·cases q
  refine⟨rfl,by omega,ac hg,hb,fun i x hi=>?_⟩
  have hi':=(List.getElem?_eq_some_iff.1 hi).1
  rw[List.length_map] at hi'
  obtain⟨g2,e2,_,_,hc⟩:=hr i hi'
  cases e2
  rw[hc i hi',←hi,List.getElem?_map,List.getElem?_eq_getElem hi']
  simp[List.getD,hi']
theorem CG {c:Cfg}(R:c.Ok){n:Nat}(H:cB c.pg c.st n)(hw:(n:Int)=c.words)(hn:n≤1000){s:LSt}{ws:List Int}{r:Gh}{O:List (Int×Int)}{RL:List Int}(h:LdI c n s ws r O RL){x:Int}(hx:x∈s.all)(g:Nat)(v:Value)(its:List It)(he:Eqv s.P its)(hlen:its.length≤10000)(w:World)(hv:IR 0 w v its)(hW:Ws w g n ws):
 Calls Tryz.prog 30 #[.agg c.cells,.slice (some ⟨g,0,none⟩) n n,.int .i64 0,.agg #[v],.int .i64 x] w (qD w g n its.length (frV c 0 s.P x ws).1 (frV c 0 s.P x ws).2):=by
 obtain⟨C,hF⟩:=h.fri
 obtain⟨G,PW⟩:=hF.pgs
 have hl:ws.length=n:=hF.len
 unfold frV
 rcases List.mem_append.1 (h.all.mem_iff.1 hx) with q|q
 ·obtain⟨⟨y,k⟩,hm,hy⟩:=List.mem_map.1 q
  have hy:y=x:=hy
  subst hy
  obtain⟨O1,O2,eO⟩:=List.append_of_mem hm
  subst eO
  have tk:tkC c.us c.pg c.st ws y=some k:=(hF.acc y k).2 (by simp)
  rw[tk]
  obtain⟨_,_,_,k0,k4,_⟩:=(fg H PW).1 tk
  obtain⟨kn,rfl⟩:∃kn:Nat,k=(kn:Int):=⟨k.toNat,by omega⟩
  have pm:(O1++(y,(kn:Int))::O2).Perm ((y,(kn:Int))::(O1++O2)):=List.perm_middle
  have hF2:FrI c.us c.pg c.st n (bh c) r ws C (puO s.P++((y,(kn:Int))::(O1++O2))):=hF.perm (pm.append_left _)
  have:=Cs R ws (by rw[hl];exact H) (by omega) (by rw[hl];exact hw) (by rw[hl];exact hF2) g n (u:=0) (by have:=R.cp1;simp;omega) (by omega) v its he hlen w hv hW
  rw[hl] at this
  exact this
 ·obtain⟨p,hpm,hy⟩:=List.mem_map.1 q
  have hy:c.us+32 * p=x:=hy
  subst hy
  obtain⟨hpg,hr⟩:=(h.run p).1 hpm
  have h6:aj c.pg c.st ws p=6:=Classical.byContradiction fun q=>hr ((hF.runs p hpg).2 q)
  rw[qC H PW hpg h6]
  have:=Ct R ws (by rw[hl];exact H) (by omega) (by rw[hl];exact hw) (by rw[hl];exact hF) hpg h6 g n (u:=0) (P:=s.P) v its he hlen w hv hW
  rw[hl] at this
  show Calls Tryz.prog 30 _ w (qD w g n its.length s.P (dQ c.pg c.st ((c.us+32 * p-c.us) / 32) ws).2)
  rw[show(c.us+32 * p-c.us) / 32=p by omega]
  exact this
theorem JD {b:Nat}{w:World}{v:Value}{its:List It}(h:IR b w v its):(#[v]:Array Value).all (·.oneCell')=true:=by
 obtain⟨a,c,rfl,_⟩:=h.at
 simp[Value.oneCell']
def jU (c:Cfg):List nV→LSt→List Int→LSt×List Int
 | [],s,ws=>(s,ws)
 |t::l,s,ws=>jU c l (gm c t.1 t.2.1 t.2.2.1 (nthI t.2.2.2 s.all.length) s ws).1 (gm c t.1 t.2.1 t.2.2.1 (nthI t.2.2.2 s.all.length) s ws).2
def ls0:LSt:=⟨fun _=> [],[]⟩
theorem Aj {c:Cfg}(R:c.Ok){n:Nat}(H:cB c.pg c.st n)(hw:(n:Int)=c.words):LdI c n ls0 (bQ n) (gh0 c) [] [] :=
 ⟨⟨_,rQ R H hw c.us⟩,fun j _=>by have:=R.pr1;simp[ls0];omega,List.nodup_nil,fun p=>by simp[gh0],by simp[ls0],rfl,fun a _ _=> .inl rfl⟩
theorem JE (z:Int)(h0:0≤z)(h1:z<18446744073709551616):IntKind.u64.wrap z=z:=by
 show z % 18446744073709551616=z
 omega
theorem Kr {b:Nat}{w:World}{v:Value}{xs:List Int}(h:Rw b w v xs){k:Nat}(q:v.ownBlock=some k):∃cs fr,w.heap[k]?=some (.cells cs 3 fr):=by
 rcases h.2 with⟨rfl,_⟩|⟨g,cap,cur,rfl,hb,hg,_⟩
 ·cases q
 ·cases q;exact⟨_,_,hg⟩
theorem Ak {w w':World}{g n:Nat}{ws:List Int}{S:Nat→Prop}(h:Ws w g n ws)(t:Turned S w w')(hs:¬S g):Ws w' g n ws:=by
 obtain⟨cur,hg,h1,h2,h3,h4⟩:=h
 exact⟨cur,(t.block _ (ac hg) hs).trans hg,h1,h2,h3,h4⟩
theorem JF {c:Cfg}(R:c.Ok){n:Nat}(H:cB c.pg c.st n)(hw:(n:Int)=c.words)(hn:n≤1000){s:LSt}{ws:List Int}(h:∃r O RL,LdI c n s ws r O RL)(m al:Int):∃x:Unit,(alW c 0 s.P m al ws).2.length=n∧x=():=by
 obtain⟨r,O,RL,hI⟩:=h
 obtain⟨C,hF⟩:=hI.fri
 refine⟨(),?_,rfl⟩
 rcases z6 R H hw hn 0 hI.lim hF m al with⟨e,_,ea⟩|⟨a,k,P',X,C',ea,_,_,_,_,_,hF',_⟩|⟨p,q,X,ea,_,_,_,_,_,_,hF'⟩
 ·rw[ea];exact hF.len
 ·rw[ea];exact hF'.len
 ·rw[ea];exact hF'.len
structure o6 (c:Cfg)(n gR gL gW gP bb:Nat)(s:LSt)(ws:List Int)(v9:Value)(m:Nat)(w:World):Prop where
 lay:w.heap[gL]?=some (.cells c.cells 27 (0,0))
 res:w.heap[gR]?=some (.cells #[.int .i64 0,.int .i64 0,.int .i64 0,.int .i64 0,.int .i64 0,.int .i64 0,.int .i64 0,.int .i64 0,.int .i64 0,.int .i64 0,.int .i64 0] 27 (0,0))
 pur:∃a1 n1 c1 its,w.heap[gP]?=some (.cells #[.slice a1 n1 c1] 62 (0,0))∧IR 0 w (.slice a1 n1 c1) its∧its.length=n1∧Eqv s.P its∧n1≤9 * m
 row:Rw bb w v9 s.all
 all:s.all.length≤m
 words:Ws w gW n ws
 len:ws.length=n
 inv:∃r O RL,LdI c n s ws r O RL
theorem gF {P:Program}{ops:Array Oper}{rest:List Oper}{o:Oper}{a:Act}{w:World}{Q:Exit→Act→World→Prop}(hgd:o.guard=none)(ty:TypeId)(x:Operand)(ho:o.op=.load ty x)
 (s off:Nat) (hx:a.eval x=.pointer (some ⟨s,off,none⟩)) (v0 v1 v2 v3:Value) (d:TypeDesc) (hg:w.cell? ⟨s,off,none⟩=some v0∧w.cell? ⟨s,off+1,none⟩=some v1∧w.cell? ⟨s,off+2,none⟩=some v2∧w.cell? ⟨s,off+3,none⟩=some v3)
 (hu:P.underlying ty=some d) (hd:(match d with| .struct _| .array _ _=>true|_=>false)=true) (hi:(P.info? ty).map (·.size)=some 4)
 (h:wpList P ops Q rest (a.put o.dst (.agg #[v0,v1,v2,v3])) w):wpList P ops Q (o::rest) a w:=by
 obtain⟨h0,h1,h2,h3⟩:=hg
 refine wpList_plain hgd fun K hK=>?_
 unfold Oper.wp execOp
 simp only[ho,hx,Instr.loadAt,Instr.sureAddr,Sem.run_bind,Sem.run_pure,Result.andThen_ok,nW w s off ty v0 v1 v2 v3 d h0 h1 h2 h3 hu hd hi]
 exact hK _ _ h
theorem FY {c:Cfg}{kind m al:Int}{i:Nat}{s:LSt}{ws:List Int}(hk:kind<3)(h:(alW c 0 s.P m al ws).1.2≠0):gm c kind m al i s ws=(s,(alW c 0 s.P m al ws).2):=by
 unfold gm;rw[if_pos hk,if_pos h]
theorem CH {c:Cfg}{kind m al:Int}{i:Nat}{s:LSt}{ws:List Int}(hk:kind<3)(h:(alW c 0 s.P m al ws).1.2=0):gm c kind m al i s ws=(⟨(alW c 0 s.P m al ws).1.1.2,s.all++ [(alW c 0 s.P m al ws).1.1.1.1]⟩,if kind≠2 then(mo (aX c (alW c 0 s.P m al ws).1.1.1.1) m (alW c 0 s.P m al ws).2).2 else(alW c 0 s.P m al ws).2):=by
 unfold gm;rw[if_pos hk,if_neg (by rw[h];simp)]
theorem JG {w:World}{g n:Nat}(h:w.heap[g]?=some (.cells (iQ (bQ n)) 3 (0,0)))(hn:n≤1000000:=by omega):Ws w g n (bQ n):=
 ⟨_,h,by simp[bQ],by simp only[maxLen];omega,by simp[iQ,bQ],fun i hi=>by simp[bQ] at hi;simp[iQ,bQ,hi]⟩
theorem o6.turn {c:Cfg}{n gR gL gW gP bb:Nat}{s:LSt}{ws:List Int}{v9:Value}{m:Nat}{w w':World}{ww:List Int}(h:o6 c n gR gL gW gP bb s ws v9 m w)(t:Turned (fun b=>b=gW) w w')(hx:Ws w' gW n ww)(hi:∃r O RL,LdI c n s ww r O RL)(ne:gR<gL∧gL<gW∧gW<gP∧gP<bb):o6 c n gR gL gW gP bb s ww v9 (m+1) w':=by
 obtain⟨a1,n1,c1,its,hP,hIR,hln,hEq,hle⟩:=h.pur
 refine⟨(t.block _ (ac h.lay) (by omega)).trans h.lay,(t.block _ (ac h.res) (by omega)).trans h.res,⟨a1,n1,c1,its,(t.block _ (ac hP) (by omega)).trans hP,jp hIR h.words t,hln,hEq,by omega⟩,h.row.keepT t (fun k q=>by have:=h.row.own q;omega),by have:=h.all;omega,hx,?_,hi⟩
 obtain⟨_,_,_,z⟩:=hi
 obtain⟨_,z⟩:=z.fri
 exact z.len
theorem o6.more {c:Cfg}{n gR gL gW gP bb:Nat}{s:LSt}{ws:List Int}{v9:Value}{m:Nat}{w w':World}(h:o6 c n gR gL gW gP bb s ws v9 m w)(hm:ae w w'):o6 c n gR gL gW gP bb s ws v9 (m+1) w':=by
 obtain⟨a1,n1,c1,its,hP,hIR,hln,hEq,hle⟩:=h.pur
 exact⟨hm.block h.lay,hm.block h.res,⟨a1,n1,c1,its,hm.block hP,hIR.more hm,hln,hEq,by omega⟩,h.row.more hm,by have:=h.all;omega,h.words.more hm,h.len,h.inv⟩
theorem CI {c:Cfg}(R:c.Ok){n:Nat}(H:cB c.pg c.st n)(hw:(n:Int)=c.words)(hn:n≤1000)(cs:Array Value)(hcs:cs.size=11)(SM:∀W,Calls Tryz.prog 24 #[.agg cs] W (aF W (.agg c.cells)))(l:List nV)(hl:l.length≤60)(hok:∀t∈l,W64 t.2.1∧W64 t.2.2.2)(ad:Option Addr)(cap:Nat)(w:World)(h:iG w ad l):
 Calls Tryz.prog 8 #[.agg cs,.slice ad l.length cap] w (fun e w'=>∃g,e=.returned (.tuple #[.agg c.cells,.slice (some ⟨g,0,none⟩) n n])∧w.heap.size≤g∧Ws w' g n (jU c l ls0 (bQ n)).2∧ae w w'):=by
 obtain⟨mf,hmf⟩:∃mf,jU c l ls0 (bQ n)=mf:=⟨_,rfl⟩
 rw[hmf]
 obtain⟨w2,e2,hb1,hb2,m2,s2⟩:=nH w (.cells cs 23) (.cells #[.int .i64 0,.int .i64 0,.int .i64 0,.int .i64 0,.int .i64 0,.int .i64 0,.int .i64 0,.int .i64 0,.int .i64 0,.int .i64 0,.int .i64 0] 27)
 have B1:=hQQ hb1
 have B2:=hQQ hb2
 have M2:=hQQ m2
 have SM:=hQQ SM
 have IS:=hQQ h
 have HR:=hQQ R
 have RW:=hQQ (fun W=>show Calls Tryz.prog 25 #[.agg c.cells] W (aF W (.int .i64 (n:Int))) from by rw[hw];exact uK R W)
 have LZ:=hQQ (Aj R H hw)
 have HWW:=hQQ hw
 clear hw
 clear hb1 hb2 m2 h
 go_enter Tryz.func8,Tryz.ntmps8
 go_wp2_with (refine wpList_load_row rfl 23 _ rfl _ rfl 23 _ _ _ B1.o Tryz.underlying23 rfl (by rw[hcs];kernel_rfl) ?_)
 clear e2
 refine(SM.o _).mono ?_
 rintro e w3 ⟨rfl,h3⟩
 have M3:=hQQ (M2.o.trans h3)
 have R3:=hQQ (h3.block B2.o)
 clear h3
 obtain⟨w4,e4,hb4,m4,s4⟩:=df w3 (.cells #[.int .i64 0,.int .i64 0,.int .i64 0,.int .i64 0,.int .i64 0,.int .i64 0,.int .i64 0,.int .i64 0,.int .i64 0,.int .i64 0,.int .i64 0] 27)
 have L4:=hQQ hb4
 obtain⟨w5,e5⟩:∃w5,w4.setRow w3.heap.size c.cells=w5:=⟨_,rfl⟩
 have m5:ae w3 w5:=by rw[←e5];exact m4.setRow _ _ (Nat.le_refl _)
 have L5:Hq (w5.heap[w3.heap.size]?=some (.cells c.cells 27 (0,0))):=hQQ (by rw[←e5];exact setRow_heap _ _ _ _ _ _ hb4)
 have M5:=hQQ (M3.o.trans m5)
 have R5:=hQQ (m5.block R3.o)
 have gr3:w.heap.size+1<w3.heap.size:=ac R3.o
 have g3:w.heap.size≤w3.heap.size:=M3.o.size
 have l5:w3.heap.size<w5.heap.size:=ac L5.o
 clear hb4 m4 s4 m5
 go_wp2_with (first|(refine pF rfl _ rfl c rfl ?_)|(refine wpList_store_row rfl 27 _ _ rfl _ _ rfl rfl 27 _ L4.o (by kernel_rfl) rfl (je c) ?_;rw[e5])|(first|(refine aA rfl rfl rfl L5.o (by kernel_rfl) ?_)|(refine aA rfl rfl rfl L5.o (by kernel_rfl) ?_)))
 clear e4 e5 L4
 refine(RW.o _).mono ?_
 rintro e w6 ⟨rfl,h6⟩
 have M6:=hQQ (M5.o.trans h6)
 have R6:=hQQ (h6.block R5.o)
 have L6:=hQQ (h6.block L5.o)
 have l6:w3.heap.size<w6.heap.size:=Nat.lt_of_lt_of_le l5 h6.size
 clear h6 l5 L5 M5
 obtain⟨w7,hmk,hw7,m7,s7⟩:∃w7,(Instr.makeSlice 28 (.int .i64 (n:Int)) (.int .i64 (n:Int))).run Tryz.prog w6=.ok (.slice (some ⟨w6.heap.size,0,none⟩) n n) w7∧w7.heap[w6.heap.size]?=some (.cells (iQ (bQ n)) 3 (0,0))∧ae w6 w7∧w7.heap.size=w6.heap.size+1 :=
  ⟨_,kv n (by omega) w6,aH w6 _ _,(ae.refl _).alloc _,by simp⟩
 have W7:Hq (Ws w7 w6.heap.size n (bQ n)):=hQQ (JG hw7)
 have M7:=hQQ (M6.o.trans m7)
 have R7:=hQQ (m7.block R6.o)
 have L7:=hQQ (m7.block L6.o)
 clear hw7 m7 L6
 obtain⟨w8,e8,hb8,m8,s8⟩:=df w7 (.cells #[.slice none 0 0] 62)
 have A8:Hq (o6 c n (w.heap.size+1) w3.heap.size w6.heap.size w7.heap.size w8.heap.size ls0 (bQ n) (.slice none 0 0) 0 w8):=hQQ
  ⟨m8.block L7.o,m8.block R7.o,⟨none,0,0,[],hb8,IR.nil 0 w8,rfl,vU,Nat.zero_le _⟩,Rw.nil _ _,Nat.le_refl _,W7.o.more m8,by simp[bQ],⟨_,_,_,LZ.o⟩⟩
 have M8:=hQQ (M7.o.trans m8)
 have G8:Hq (w.heap.size+1<w3.heap.size∧w3.heap.size<w6.heap.size∧w6.heap.size<w7.heap.size∧w7.heap.size<w8.heap.size):=hQQ ⟨gr3,l6,by omega,by omega⟩
 clear hb8 m8 s8 s7 W7 L7 M7 l6 g3
 have HL:=hQQ hl
 have HOK:=hQQ hok
 have HH:=hQQ H
 have HN:=hQQ hn
 obtain⟨gL,hgL⟩:∃x,w3.heap.size=x:=⟨_,rfl⟩
 obtain⟨gW,hgW⟩:∃x,w6.heap.size=x:=⟨_,rfl⟩
 obtain⟨gP,hgP⟩:∃x,w7.heap.size=x:=⟨_,rfl⟩
 obtain⟨bb,hbb⟩:∃x,w8.heap.size=x:=⟨_,rfl⟩
 rw[hgL,hgW,hgP,hbb] at A8 G8
 clear hl hok hn M2 M3 M6 B1 B2 SM RW LZ hcs
 go_wp2_with fail
 go_loopw [9,10,11,12,13,14,15,16] (fun v9 v10 v11 v12 v13 v14 v15 v16 wr=>∃(j:Nat) (s:LSt) (ws:List Int),v10=.int .i64 (j:Int)∧j≤l.length∧o6 c n (w.heap.size+1) gL gW gP bb s ws v9 j wr∧bb≤wr.heap.size∧ae w wr∧jU c (l.drop j) s ws=mf) (fun _ v10 _ _ _ _ _ _ _=>((l.length:Int)-intOf v10).toNat)
 case atStart=>exact⟨0,ls0,bQ n,rfl,Nat.zero_le _,A8.o,by omega,M8.o,by simpa using hmf⟩
 case round =>
  obtain⟨j,s,ws,rfl,hj,hA0,hbw,hM0,hmf⟩:=hrel
  by_cases hlt:j<l.length
  ·obtain⟨t,ht⟩:∃t,l[j]?=some t:=⟨_,List.getElem?_eq_getElem hlt⟩
   have htm:t∈l:=List.mem_of_getElem? ht
   have hdr:l.drop j=t::l.drop (j+1):=Eu ht
   rw[hdr] at hmf
   have hmf:jU c (l.drop (j+1)) (gm c t.1 t.2.1 t.2.2.1 (nthI t.2.2.2 s.all.length) s ws).1 (gm c t.1 t.2.1 t.2.2.1 (nthI t.2.2.2 s.all.length) s ws).2=mf:=hmf
   obtain⟨hw1,hw2⟩:=HOK.o t htm
   rcases IS.o.more hM0 with e0|⟨so,off,rfl,hso,hcl⟩
   ·rw[e0] at hlt;simp at hlt
   have AC:=hQQ (hcl j t ht)
   obtain⟨t1,t2,t3,t4⟩:=t
   simp only at hmf hw1 hw2 AC
   have LA:=hQQ hA0
   have MW:=hQQ hM0
   have BW:=hQQ hbw
   have MF:=hQQ hmf
   have y6:=hA0.lay
   obtain⟨wb,eb,hbb1,mb,sb⟩:=df wr (.cells #[.int .i64 0,.int .i64 0,.int .i64 0,.int .i64 0] 67)
   obtain⟨wa,ea⟩:∃wa,wb.setRow wr.heap.size #[.int .i64 t1,.int .i64 t2,.int .i64 t3,.int .i64 t4]=wa:=⟨_,rfl⟩
   have ma:ae wr wa:=by rw[←ea];exact mb.setRow _ _ (Nat.le_refl _)
   have BA:Hq (wa.heap[wr.heap.size]?=some (.cells #[.int .i64 t1,.int .i64 t2,.int .i64 t3,.int .i64 t4] 67 (0,0))):=hQQ (by rw[←ea];exact setRow_heap _ _ _ _ _ _ hbb1)
   have BB:=hQQ hbb1
   have MA:=hQQ ma
   have a0:wa.cell? ⟨wr.heap.size,0,none⟩=some (.int .i64 t1):=by simp[World.cell?,BA.o]
   clear hA0 hM0 hbw hmf hbb1 mb sb ma ht htm hdr hso hcl y6
   by_cases hk:t1<3
   ·have d0:decide (t1<3)=true:=by simp[hk]
    have a1:wa.cell? ⟨wr.heap.size,1,none⟩=some (.int .i64 t2):=by simp[World.cell?,BA.o]
    have a2:wa.cell? ⟨wr.heap.size,2,none⟩=some (.int .i64 t3):=by simp[World.cell?,BA.o]
    obtain⟨a1p,n1,c1p,its,hP,hIR,hln,hEq,hle⟩:=LA.o.pur
    obtain⟨r,O,RL,hI⟩:=LA.o.inv
    obtain⟨C,hF⟩:=hI.fri
    have hlw:=LA.o.len
    have NI:=hQQ (tQ HR.o HH.o HWW.o HN.o hI t1 t2 t3 (i:=nthI t4 s.all.length) (fun e=>tH t4 (List.length_pos_iff.2 e)))
    have AL:=hQQ (fun W (hV:IR 0 W (.slice a1p n1 c1p) its) (hW:Ws W gW n ws)=>show Calls Tryz.prog 26 #[.agg c.cells,.slice (some ⟨gW,0,none⟩) n n,.int .i64 0,.agg #[.slice a1p n1 c1p],.int .i64 t2,.int .i64 t3] W (AlR W gW n n1 (alW c 0 s.P t2 t3 ws)) from by
     have:=sm HR.o ws (by rw[hlw];exact HH.o) (by rw[hlw];exact HN.o) (by rw[hlw];exact HWW.o) hI.lim (by rw[hlw];exact hF) gW n (u:=0) (by have:=HR.o.cp1;simp;omega) t2 t3 (by unfold W64 at hw1;omega) (.slice a1p n1 c1p) its hEq (by have:=HL.o;omega) W hV hW
     rw[hlw,hln] at this
     exact this)
    obtain⟨res,hres⟩:∃res,alW c 0 s.P t2 t3 ws=res:=⟨_,rfl⟩
    rw[hres] at AL
    have y2:wa.cell? ⟨gP,0,none⟩=some (.slice a1p n1 c1p):=by simp[World.cell?,MA.o.block hP]
    have IRA:=hQQ (hIR.more MA.o)
    have XA:=hQQ (LA.o.words.more MA.o)
    have LYA:=hQQ (MA.o.block LA.o.lay)
    have PA:=hQQ (MA.o.block hP)
    have PO:Hq (∀W,Turned (fun b=>b=gW) wr W→W.heap[gP]?=some (.cells #[.slice a1p n1 c1p] 62 (0,0))):=hQQ fun W t=>(t.block _ (ac hP) (by have:=G8.o;omega)).trans hP
    have EQ:=hQQ hEq
    have LE:=hQQ hle
    have LNI:=hQQ hln
    clear hP hIR hln hEq hle hI hF hlw
    go_wp2_with (first|(refine gF rfl 67 _ rfl _ _ rfl _ _ _ _ _ AC.o Tryz.underlying67 rfl (by kernel_rfl) ?_)|(refine wpList_store_row rfl 67 _ _ rfl _ _ rfl rfl 67 _ BB.o (by kernel_rfl) rfl (by simp[Value.oneCell']) ?_;rw[ea])|(first|(refine aA rfl rfl rfl LYA.o (by kernel_rfl) ?_)|(refine aA rfl rfl rfl LYA.o (by kernel_rfl) ?_)))
    clear ea eb BB
    refine(AL.o _ IRA.o XA.o).mono ?_
    rintro e wc ⟨v5,its5,rfl,hr5,he5,hl5,hx5,ht5⟩
    obtain⟨a5,c5,rfl,_,_,_⟩:=hr5.at
    obtain⟨n5,hn5⟩:∃n5,its5.length=n5:=⟨_,rfl⟩
    rw[hn5] at hr5 hl5⊢
    obtain⟨wd,ed,hbd,md,sd⟩:=df wc (.cells #[.slice none 0 0] 62)
    obtain⟨we,ee⟩:∃we,wd.setRow wc.heap.size #[.slice a5 n5 c5]=we:=⟨_,rfl⟩
    have me:ae wc we:=by rw[←ee];exact md.setRow _ _ (Nat.le_refl _)
    have BQ:Hq (we.heap[wc.heap.size]?=some (.cells #[.slice a5 n5 c5] 62 (0,0))):=hQQ (by rw[←ee];exact setRow_heap _ _ _ _ _ _ hbd)
    have BD:=hQQ hbd
    have TE:=hQQ (show Turned (fun b=>b=gW) wr we from Turned.trans (turned_more MA.o) (Turned.trans ht5 (turned_more me)))
    have XE:=hQQ (hx5.more me)
    have RE:=hQQ (hr5.more me)
    have E5:=hQQ he5
    have L5:=hQQ hl5
    have HN5:=hQQ hn5
    have WC:Hq (bb≤wc.heap.size):=hQQ (by have:=ht5.size;have:=MA.o.size;have:=BW.o;omega)
    have AE:Hq (we.heap[wr.heap.size]?=some (.cells #[.int .i64 t1,.int .i64 t2,.int .i64 t3,.int .i64 t4] 67 (0,0))):=hQQ (me.block ((ht5.block _ (ac BA.o) (by have:=G8.o;have:=BW.o;omega)).trans BA.o))
    have DD:=G8.o
    clear hbd md sd me hr5 he5 hl5 hx5 ht5 hn5 y2 a0 a1 a2 IRA XA PA
    obtain⟨er,her⟩:∃er,res.1.2=er:=⟨_,rfl⟩
    rw[her]
    by_cases h0:er=0
    ·subst h0
     have d1:((0:Int)==0)=true:=rfl
     have hst:=CH (c:=c) (al:=t3) (i:=nthI t4 s.all.length) (s:=s) (ws:=ws) hk (m:=t2) (by rw[hres,her])
     have MF1:=MF.o
     have NI1:=NI.o
     rw[hst,hres] at MF1 NI1
     obtain⟨nb,hnb⟩:∃nb,res.1.1.1.1=nb:=⟨_,rfl⟩
     obtain⟨nP,hnP⟩:∃nP,res.1.1.2=nP:=⟨_,rfl⟩
     obtain⟨wz,hwz⟩:∃wz,res.2=wz:=⟨_,rfl⟩
     have q1:IntKind.i64.wrap ((j:Int)+1)=(j:Int)+1:=am (by have:=HL.o;omega) (by have:=HL.o;omega)
     have PE:we.heap[gP]?=some (.cells #[.slice a1p n1 c1p] 62 (0,0)):=by
      exact PO.o we TE.o
     have PEH:=hQQ PE
     have y14:we.cell? ⟨wc.heap.size,0,none⟩=some (.slice a5 n5 c5):=by simp[World.cell?,BQ.o]
     obtain⟨wf,ef⟩:∃wf,we.setRow gP #[.slice a5 n5 c5]=wf:=⟨_,rfl⟩
     have tf:Turned (fun b=>b=gP) we wf:=by rw[←ef];exact Turned.setRow (Turned.refl _ we) _ _ (fun _=>rfl)
     have PF:wf.heap[gP]?=some (.cells #[.slice a5 n5 c5] 62 (0,0)):=by rw[←ef];exact setRow_heap _ _ _ _ _ _ PE
     obtain⟨wg,eg,hbg,mg,sg⟩:=df wf (.cells #[.int .i64 nb] 3)
     have TG:Turned (fun b=>b=gW∨b=gP) wr wg:=Turned.trans (TE.o.mono (fun _ _ q=> .inl q)) (Turned.trans (tf.mono (fun _ _ q=> .inr q)) (turned_more mg))
     have RG:=hQQ (LA.o.row.keepT TG (fun k q=>by have:=LA.o.row.own q;omega))
     have OWN:Hq (∀k,u9.ownBlock=some k→bb≤k∧k<wr.heap.size):=hQQ fun k q=>LA.o.row.own q
     have TYP:Hq (∀k,u9.ownBlock=some k→∃cs fr,wg.heap[k]?=some (.cells cs 3 fr)):=hQQ fun k q=>Kr RG.o q
     have BG:=hQQ hbg
     have IRG:Hq (IR 0 wg (.slice a5 n5 c5) its5):=hQQ ((RE.o.keep tf (fun k q=>by subst q;exact⟨_,_,_,PE,by decide⟩)).more mg)
     have XG:=hQQ ((XE.o.keep tf (by omega)).more mg)
     have LG:=hQQ ((TG.block _ (ac LA.o.lay) (by omega)).trans LA.o.lay)
     have PG:=hQQ (mg.block PF)
     have AG':=hQQ (mg.block ((tf.block _ (ac AE.o) (by have:=BW.o;omega)).trans AE.o))
     have TGH:=hQQ TG
     have HB':Hq (bb≤wg.heap.size):=hQQ (by have:=TG.size;have:=BW.o;omega)
     have HA':Hq (s.all.length≤1000000):=hQQ (by have:=LA.o.all;have:=HL.o;omega)
     rw[hnb,hnP,hwz] at MF1 NI1
     rw[hnb]
     rw[hnP] at E5
     rw[hwz] at XG
     have LZ5:Hq (wz.length=n):=hQQ (by obtain⟨_,hF5⟩:=JF HR.o HH.o HWW.o HN.o LA.o.inv t2 t3;rw[hres,hwz] at hF5;exact hF5.1)
     have MFH:=hQQ MF1
     have NIH:=hQQ NI1
     clear hbg mg sg tf PE PF TG MF1 NI1 hst
     have MKC:=hQQ (fun W (hW:Ws W gW n wz)=>show Calls Tryz.prog 27 #[.agg c.cells,.slice (some ⟨gW,0,none⟩) n n,.int .i64 nb,.int .i64 t2] W (og W gW n (.bool (mo (aX c nb) t2 wz).1) (mo (aX c nb) t2 wz).2) from by
      have:=vW HR.o wz (by rw[LZ5.o];exact HH.o) (by rw[LZ5.o];exact HWW.o) gW n nb t2 W hW
      rw[LZ5.o] at this
      exact this)
     by_cases h2:t1=2
     ·have d2:(t1==2)=true:=by simp[h2]
      rw[if_neg (by simp[h2])] at MFH NIH
      go_wp2_with (first
       |(refine wpList_store_row rfl 62 _ _ rfl _ _ rfl rfl 62 _ BD.o (by kernel_rfl) rfl (by simp[Value.oneCell']) ?_;rw[ee])
       |(refine wpList_store_row rfl 62 _ _ rfl _ _ rfl rfl 62 _ PEH.o (by kernel_rfl) rfl (by simp[Value.oneCell']) ?_;rw[ef])
       |(refine wpList_plain rfl (fun K hK=>zh (base:=bb) (g:=wf.heap.size) (v:=u9) (xs:=s.all) nb _ _ rfl rfl RG.o HB'.o HA'.o rfl BG.o (fun v9' wh rh th kh=>hK _ _ ?_));have b0:=(th.block _ (ac AG'.o) (fun q=>by have:=OWN.o _ q;omega)).trans AG'.o;have a0:wh.cell? ⟨wr.heap.size,0,none⟩=some (.int .i64 t1):=(by simp[World.cell?,b0]);have a1:wh.cell? ⟨wr.heap.size,1,none⟩=some (.int .i64 t2):=(by simp[World.cell?,b0]);have TH:=hQQ th;have RH:=hQQ rh;have LH:=hQQ ((th.block _ (ac LG.o) (fun q=>by have:=OWN.o _ q;omega)).trans LG.o);have XH0:Ws wh gW n wz:=Ak XG.o th (fun q=>by have:=OWN.o _ q;omega))|(first|(refine aA rfl rfl rfl LH.o (by kernel_rfl) ?_)|(refine aA rfl rfl rfl LH.o (by kernel_rfl) ?_)))
      have XH:=hQQ XH0
      have TWH:Turned (fun b=>(b=gW∨b=gP)∨u9.ownBlock=some b) wr wh:=Turned.trans (TGH.o.mono (fun _ _ q=> .inl q)) (TH.o.mono (fun _ _ q=> .inr q))
      have PH2:wh.heap[gP]?=some (.cells #[.slice a5 n5 c5] 62 (0,0)):=(TH.o.block _ (ac PG.o) (fun q=>by have:=OWN.o _ q;omega)).trans PG.o
      have RH2:=(TWH.block _ (ac LA.o.res) (fun q=>by rcases q with(q|q)|q;omega;omega;have:=OWN.o _ q;omega)).trans LA.o.res
      have IRH:IR 0 wh (.slice a5 n5 c5) its5:=IRG.o.keep TH.o (fun k q=>by obtain⟨cs,fr,z⟩:=TYP.o k q;exact⟨cs,_,fr,z,by decide⟩)
      have NEW:Hq (∀(wq:World) (ww:List Int),Turned (fun b=>b=gW) wh wq→Ws wq gW n ww→(∃r' O' RL',LdI c n ⟨nP,s.all++ [nb]⟩ ww r' O' RL')→o6 c n (w.heap.size+1) gL gW gP bb ⟨nP,s.all++ [nb]⟩ ww v9' (j+1) wq):=hQQ fun wq ww t hx hi=>by
       refine⟨(t.block _ (ac LH.o) (by omega)).trans LH.o,(t.block _ (ac RH2) (by omega)).trans RH2,⟨a5,n5,c5,its5,(t.block _ (ac PH2) (by omega)).trans PH2,jp IRH XH.o t,HN5.o,E5.o,by have:=L5.o;have:=LE.o;omega⟩,RH.o.keepT t (fun k q=>by have:=RH.o.own q;omega),by have:=LA.o.all;simp;omega,hx,?_,hi⟩
       obtain⟨_,_,_,z⟩:=hi
       obtain⟨_,z⟩:=z.fri
       exact z.len
      have MW1:Hq (∀wq:World,Turned (fun b=>b=gW) wh wq→ae w wq):=hQQ fun wq t=>aq (F':=fun b=>((b=gW∨b=gP)∨u9.ownBlock=some b)∨b=gW) MW.o (Turned.trans (TWH.mono (fun _ _ q=> .inl q)) (t.mono (fun _ _ q=> .inr q))) (fun k q=> .inr (by rcases q with((q|q)|q)|q;omega;omega;have:=OWN.o k q;omega;omega))
      have SZ:Hq (∀wq:World,Turned (fun b=>b=gW) wh wq→bb≤wq.heap.size):=hQQ fun wq t=>by have:=t.size;have:=TWH.size;have:=BW.o;omega
      have HJ:Hq (j+1≤l.length):=hQQ hlt
      clear TWH PH2 RH2 IRH XH0 b0 a0 a1 rh th kh
      go_roundw
      case rel=>exact⟨j+1,⟨nP,s.all++ [nb]⟩,wz,by go_num,HJ.o,NEW.o _ _ (Turned.refl _ _) XH.o NIH.o,SZ.o _ (Turned.refl _ _),MW1.o _ (Turned.refl _ _),MFH.o⟩
      case measure=>simp[intOf];omega
     ·have d2:(t1==2)=false:=by simp[h2]
      rw[if_pos h2] at MFH NIH
      go_wp2_with (first
       |(refine wpList_store_row rfl 62 _ _ rfl _ _ rfl rfl 62 _ BD.o (by kernel_rfl) rfl (by simp[Value.oneCell']) ?_;rw[ee])
       |(refine wpList_store_row rfl 62 _ _ rfl _ _ rfl rfl 62 _ PEH.o (by kernel_rfl) rfl (by simp[Value.oneCell']) ?_;rw[ef])
       |(refine wpList_plain rfl (fun K hK=>zh (base:=bb) (g:=wf.heap.size) (v:=u9) (xs:=s.all) nb _ _ rfl rfl RG.o HB'.o HA'.o rfl BG.o (fun v9' wh rh th kh=>hK _ _ ?_));have b0:=(th.block _ (ac AG'.o) (fun q=>by have:=OWN.o _ q;omega)).trans AG'.o;have a0:wh.cell? ⟨wr.heap.size,0,none⟩=some (.int .i64 t1):=(by simp[World.cell?,b0]);have a1:wh.cell? ⟨wr.heap.size,1,none⟩=some (.int .i64 t2):=(by simp[World.cell?,b0]);have TH:=hQQ th;have RH:=hQQ rh;have LH:=hQQ ((th.block _ (ac LG.o) (fun q=>by have:=OWN.o _ q;omega)).trans LG.o);have XH0:Ws wh gW n wz:=Ak XG.o th (fun q=>by have:=OWN.o _ q;omega))|(first|(refine aA rfl rfl rfl LH.o (by kernel_rfl) ?_)|(refine aA rfl rfl rfl LH.o (by kernel_rfl) ?_)))
      refine(MKC.o _ XH0).mono ?_
      rintro e wk ⟨rfl,hxk,htk⟩
      have XH:=hQQ XH0
      have TWH:Turned (fun b=>(b=gW∨b=gP)∨u9.ownBlock=some b) wr wh:=Turned.trans (TGH.o.mono (fun _ _ q=> .inl q)) (TH.o.mono (fun _ _ q=> .inr q))
      have PH2:wh.heap[gP]?=some (.cells #[.slice a5 n5 c5] 62 (0,0)):=(TH.o.block _ (ac PG.o) (fun q=>by have:=OWN.o _ q;omega)).trans PG.o
      have RH2:=(TWH.block _ (ac LA.o.res) (fun q=>by rcases q with(q|q)|q;omega;omega;have:=OWN.o _ q;omega)).trans LA.o.res
      have IRH:IR 0 wh (.slice a5 n5 c5) its5:=IRG.o.keep TH.o (fun k q=>by obtain⟨cs,fr,z⟩:=TYP.o k q;exact⟨cs,_,fr,z,by decide⟩)
      have NEW:Hq (∀(wq:World) (ww:List Int),Turned (fun b=>b=gW) wh wq→Ws wq gW n ww→(∃r' O' RL',LdI c n ⟨nP,s.all++ [nb]⟩ ww r' O' RL')→o6 c n (w.heap.size+1) gL gW gP bb ⟨nP,s.all++ [nb]⟩ ww v9' (j+1) wq):=hQQ fun wq ww t hx hi=>by
       refine⟨(t.block _ (ac LH.o) (by omega)).trans LH.o,(t.block _ (ac RH2) (by omega)).trans RH2,⟨a5,n5,c5,its5,(t.block _ (ac PH2) (by omega)).trans PH2,jp IRH XH.o t,HN5.o,E5.o,by have:=L5.o;have:=LE.o;omega⟩,RH.o.keepT t (fun k q=>by have:=RH.o.own q;omega),by have:=LA.o.all;simp;omega,hx,?_,hi⟩
       obtain⟨_,_,_,z⟩:=hi
       obtain⟨_,z⟩:=z.fri
       exact z.len
      have MW1:Hq (∀wq:World,Turned (fun b=>b=gW) wh wq→ae w wq):=hQQ fun wq t=>aq (F':=fun b=>((b=gW∨b=gP)∨u9.ownBlock=some b)∨b=gW) MW.o (Turned.trans (TWH.mono (fun _ _ q=> .inl q)) (t.mono (fun _ _ q=> .inr q))) (fun k q=> .inr (by rcases q with((q|q)|q)|q;omega;omega;have:=OWN.o k q;omega;omega))
      have SZ:Hq (∀wq:World,Turned (fun b=>b=gW) wh wq→bb≤wq.heap.size):=hQQ fun wq t=>by have:=t.size;have:=TWH.size;have:=BW.o;omega
      have HJ:Hq (j+1≤l.length):=hQQ hlt
      clear TWH PH2 RH2 IRH XH0 b0 a0 a1 rh th kh
      have XK:=hQQ hxk
      have TK:=hQQ htk
      clear hxk htk
      go_wp2_with fail
      go_roundw
      case rel=>exact⟨j+1,⟨nP,s.all++ [nb]⟩,_,by go_num,HJ.o,NEW.o _ _ TK.o XK.o NIH.o,SZ.o _ TK.o,MW1.o _ TK.o,MFH.o⟩
      case measure=>simp[intOf];omega
    ·have d1:(er==0)=false:=by simp[h0]
     have hst:=FY (c:=c) (al:=t3) (i:=nthI t4 s.all.length) (s:=s) (ws:=ws) hk (m:=t2) (by rw[hres,her];exact h0)
     have MF1:=MF.o
     have NI1:=NI.o
     rw[hst,hres] at MF1 NI1
     have q1:IntKind.i64.wrap ((j:Int)+1)=(j:Int)+1:=am (by have:=HL.o;omega) (by have:=HL.o;omega)
     have NEW:Hq (o6 c n (w.heap.size+1) gL gW gP bb s res.2 u9 (j+1) we):=hQQ (by
      obtain⟨a1p',n1',c1p',its',hP,hIR,hln,hEq,hle⟩:=LA.o.pur
      refine⟨(TE.o.block _ (ac LA.o.lay) (by omega)).trans LA.o.lay,(TE.o.block _ (ac LA.o.res) (by omega)).trans LA.o.res,⟨a1p',n1',c1p',its',(TE.o.block _ (ac hP) (by omega)).trans hP,jp hIR LA.o.words TE.o,hln,hEq,by omega⟩,LA.o.row.keepT TE.o (fun k q=>by have:=LA.o.row.own q;omega),by have:=LA.o.all;omega,XE.o,?_,NI1⟩
      obtain⟨_,_,_,z⟩:=NI1
      obtain⟨_,z⟩:=z.fri
      exact z.len)
     have MW1:=hQQ (show ae w we from aq (F':=fun b=>b=gW) MW.o TE.o (fun k q=> .inr (by omega)))
     have HJ:Hq (j+1≤l.length):=hQQ hlt
     have MF2:=hQQ MF1
     have SZ:Hq (bb≤we.heap.size):=hQQ (by have:=TE.o.size;have:=BW.o;omega)
     clear MF1 NI1 hst hres her DD
     go_wp2_with (refine wpList_store_row rfl 62 _ _ rfl _ _ rfl rfl 62 _ BD.o (by kernel_rfl) rfl (by simp[Value.oneCell']) ?_;rw[ee])
     go_roundw
     case rel=>exact⟨j+1,s,res.2,by go_num,HJ.o,NEW.o,SZ.o,MW1.o,MF2.o⟩
     case measure=>simp[intOf];omega
   ·have d0:decide (t1<3)=false:=by simp;omega
    have a3:wa.cell? ⟨wr.heap.size,3,none⟩=some (.int .i64 t4):=by simp[World.cell?,BA.o]
    obtain⟨a9,c9,e9,hrd⟩:=LA.o.row.reads
    subst e9
    have q1:IntKind.i64.wrap ((j:Int)+1)=(j:Int)+1:=am (by have:=HL.o;omega) (by have:=HL.o;omega)
    have HJ:Hq (j+1≤l.length):=hQQ hlt
    obtain⟨n9,hn9⟩:∃n9,s.all.length=n9:=⟨_,rfl⟩
    have HN9:=hQQ hn9
    rw[hn9] at LA MF hrd⊢
    clear hn9
    have MWA:=hQQ (MW.o.trans MA.o)
    have BWA:Hq (bb≤wa.heap.size):=hQQ (by have:=MA.o.size;have:=BW.o;omega)
    by_cases hne:n9=0
    ·subst hne
     have MF1:=MF.o
     have he:s.all= []:=List.length_eq_zero_iff.1 HN9.o
     rw[show gm c t1 t2 t3 (nthI t4 0) s ws=(s,ws) by unfold gm;rw[if_neg hk,if_pos he]] at MF1
     have MF2:=hQQ MF1
     have NEW:=hQQ (LA.o.more MA.o)
     clear MF1 he
     go_wp2_with (first|(refine gF rfl 67 _ rfl _ _ rfl _ _ _ _ _ AC.o Tryz.underlying67 rfl (by kernel_rfl) ?_)|(refine wpList_store_row rfl 67 _ _ rfl _ _ rfl rfl 67 _ BB.o (by kernel_rfl) rfl (by simp[Value.oneCell']) ?_;rw[ea]))
     go_roundw
     case rel=>exact⟨j+1,s,ws,by go_num,HJ.o,NEW.o,BWA.o,MWA.o,MF2.o⟩
     case measure=>simp[intOf];omega
    ·have dn:((n9:Int)==0)=false:=by simp[hne]
     have dn2:decide ((n9:Int)=0)=false:=by simp[hne]
     have h60:n9≤60:=by have h1:=LA.o.all;have h2:=HL.o;have h3:=HN9.o;omega
     have hq9:IntKind.u64.wrap (n9:Int)=(n9:Int):=JE _ (by omega) (by omega)
     have hrem:=Jn t4 (n:=n9) (by omega) (by omega)
     obtain⟨ix,hix⟩:∃ix,nthI t4 n9=ix:=⟨_,rfl⟩
     have hixl:ix<n9:=by rw[←hix];exact tH t4 (by omega)
     rw[hix] at hrem MF
     have HIX:=hQQ hixl
     obtain⟨g9,rfl,hb9,hg9,hc9⟩:=hrd 0 (by omega)
     obtain⟨x,hx⟩:∃x,qY s ix=x:=⟨_,rfl⟩
     have CXA:Hq (wa.cell? ⟨g9,ix,none⟩=some (.int .i64 x)):=hQQ (MA.o.cell (by rw[←hx];exact hc9 ix hixl))
     have B9:=hQQ (And.intro hb9 hg9)
     have LYA:=hQQ (MA.o.block LA.o.lay)
     have XA:=hQQ (LA.o.words.more MA.o)
     have NI:Hq (∃r' O' RL',LdI c n (gm c t1 t2 t3 ix s ws).1 (gm c t1 t2 t3 ix s ws).2 r' O' RL'):=hQQ (by
      obtain⟨r,O,RL,hI⟩:=LA.o.inv
      exact tQ HR.o HH.o HWW.o HN.o hI t1 t2 t3 (fun _=>by have:=HN9.o;omega))
     have hane:¬s.all= []:=fun e=>hne (by have:=HN9.o;rw[e] at this;simpa using this.symm)
     have CLC:Hq (∀W,Ws W gW n ws→Calls Tryz.prog 29 #[.agg c.cells,.slice (some ⟨gW,0,none⟩) n n,.int .i64 x] W (og W gW n (.bool (jq (aX c x) ws).1) (jq (aX c x) ws).2)):=hQQ fun W hW=>by
      obtain⟨r,O,RL,hI⟩:=LA.o.inv
      obtain⟨C,hF⟩:=hI.fri
      have hlw:=LA.o.len
      have:=Cj HR.o ws (by rw[hlw];exact HH.o) (by rw[hlw];exact HWW.o) hF.ok gW n x W (by exact hW)
      rw[hlw] at this
      exact this
     clear hb9 hg9 hc9 hrd hixl
     go_wp2_with (first|(refine gF rfl 67 _ rfl _ _ rfl _ _ _ _ _ AC.o Tryz.underlying67 rfl (by kernel_rfl) ?_)|(refine wpList_store_row rfl 67 _ _ rfl _ _ rfl rfl 67 _ BB.o (by kernel_rfl) rfl (by simp[Value.oneCell']) ?_;rw[ea]))
     clear ea eb BB a0 a3
     refine dg (fun W=>W.heap[gL]?=some (.cells c.cells 27 (0,0))∧W.cell? ⟨g9,ix,none⟩=some (.int .i64 x)) (by kernel_rfl) ?_
     change eY _ _ _ _ _ _ _ _ (wa.drewN 1)
     have M0:Hq (ae wa (wa.drewN 1)):=hQQ ((ae.refl wa).drewN 1)
     have C0:Hq ((wa.drewN 1).heap[gL]?=some (.cells c.cells 27 (0,0))∧(wa.drewN 1).cell? ⟨g9,ix,none⟩=some (.int .i64 x)):=hQQ (⟨M0.o.block LYA.o,M0.o.cell CXA.o⟩)
     generalize wa.drewN 1=wq at M0 C0⊢
     generalize hA:Act.mk _ _=A
     have HF:AG 109 A [(6,.pointer (some ⟨gL,0,none⟩)),(7,.slice (some ⟨gW,0,none⟩) n n),(9,.slice (some ⟨g9,0,none⟩) n9 c9),(16,.int .i64 (ix:Int))]:=by
      rw[←hA];try simp only[pts,List.foldl]
      refine⟨⟨Nat.le_of_ble_eq_true rfl,rfl⟩,?_⟩
      intro z hz;simp only[List.mem_cons,List.not_mem_nil,or_false] at hz;rcases hz with rfl|rfl|rfl|rfl<;>rfl
     refine eZ (fun a W=>a=(pts A [(76,.agg c.cells),(77,.slice (some ⟨gW,0,none⟩) n n),(78,.slice (some ⟨g9,0,none⟩) n9 c9),(79,.int .i64 (ix:Int)),(80,.pointer (some ⟨g9,ix,none⟩)),(81,.int .i64 x),(82,.bool (jq (aX c x) ws).1)])∧Turned (fun b=>b=gW) wa W∧Ws W gW n (jq (aX c x) ws).2) (fun _=>False) [] (fun a W hd h=>h.elim) (fun _ _ _ _ _ h=>h) ?_ ?_
     ·skip
      rintro a9 w9 ⟨rfl,ht,hx9⟩
      rw[←hA];try simp only[pts,List.foldl]
      have T9:Hq (Turned (fun b=>b=gW) wr w9):=hQQ (Turned.trans (turned_more MA.o) ht)
      have X9:=hQQ hx9
      have A9:=hQQ ((ht.block _ (ac BA.o) (by have:=G8.o;have:=BW.o;omega)).trans BA.o)
      have S9:Hq (bb≤w9.heap.size):=hQQ (by have:=T9.o.size;have:=BW.o;omega)
      have a0:w9.cell? ⟨wr.heap.size,0,none⟩=some (.int .i64 t1):=by simp[World.cell?,A9.o]
      clear HF hA ht hx9 C0 M0
      by_cases h3:t1=3
      ·have d3:(t1==3)=true:=by simp[h3]
       have hst:gm c t1 t2 t3 ix s ws=(⟨(frV c 0 s.P x (jq (aX c x) ws).2).1,s.all.eraseIdx ix⟩,(frV c 0 s.P x (jq (aX c x) ws).2).2):=by unfold gm;rw[if_neg (by omega),if_neg hane,if_pos h3,hx]
       have MF1:=MF.o
       have NI1:=NI.o
       rw[hst] at MF1 NI1
       have XIN:x∈s.all:=by
        rw[←hx];unfold qY
        have hi:ix<s.all.length:=by have:=HIX.o;have:=HN9.o;omega
        rw[show s.all.getD ix 0=s.all[ix] by simp[List.getD,hi]]
        exact List.getElem_mem hi
       have I9:Hq (∃r O RL,LdI c n s (jq (aX c x) ws).2 r O RL):=hQQ (by
        obtain⟨r,O,RL,hI⟩:=LA.o.inv
        obtain⟨r1,h1,_,_⟩:=wD HR.o HH.o HWW.o HN.o hI (z8 HR.o HH.o HWW.o HN.o hI XIN)
        exact⟨r1,_,_,h1⟩)
       obtain⟨wc,hwc⟩:∃wc,(jq (aX c x) ws).2=wc:=⟨_,rfl⟩
       rw[hwc] at X9 MF1 NI1 I9
       obtain⟨a1p,n1,c1p,its,hP,hIR,hln,hEq,hle⟩:=LA.o.pur
       have hn1:n1≤10000:=by have:=HL.o;omega
       have P9:Hq (w9.heap[gP]?=some (.cells #[.slice a1p n1 c1p] 62 (0,0))):=hQQ ((T9.o.block _ (ac hP) (by have:=G8.o;omega)).trans hP)
       have IR9:Hq (IR 0 w9 (.slice a1p n1 c1p) its):=hQQ (jp hIR LA.o.words T9.o)
       have LY9:Hq (w9.heap[gL]?=some (.cells c.cells 27 (0,0))):=hQQ ((T9.o.block _ (ac LA.o.lay) (by have:=G8.o;omega)).trans LA.o.lay)
       have RW9:Hq (Rw bb w9 (.slice (some ⟨g9,0,none⟩) n9 c9) s.all):=hQQ (LA.o.row.keepT T9.o (fun k q=>by have:=LA.o.row.own q;have:=G8.o;omega))
       have CX9:Hq (w9.cell? ⟨g9,ix,none⟩=some (.int .i64 x)):=hQQ (RW9.o.lies.2.2.2.2 ix _ (by
        have hi:ix<s.all.length:=by have:=HIX.o;have:=HN9.o;omega
        rw[List.getElem?_map,←hx]
        unfold qY
        simp[List.getD,hi]))
       have ITL:=hQQ hln
       have FR:=hQQ (fun W (hV:IR 0 W (.slice a1p n1 c1p) its) (hW:Ws W gW n wc)=>show Calls Tryz.prog 30 #[.agg c.cells,.slice (some ⟨gW,0,none⟩) n n,.int .i64 0,.agg #[.slice a1p n1 c1p],.int .i64 x] W (qD W gW n its.length (frV c 0 s.P x wc).1 (frV c 0 s.P x wc).2) from by
        obtain⟨r,O,RL,hI⟩:=I9.o
        exact CG HR.o HH.o HWW.o HN.o hI XIN gW _ its hEq (by rw[ITL.o];exact hn1) W hV hW)
       obtain⟨fz,hfz⟩:∃fz,frV c 0 s.P x wc=fz:=⟨_,rfl⟩
       rw[hfz] at FR MF1 NI1
       have MF2:=hQQ MF1
       have NI2:=hQQ NI1
       have HLE:=hQQ hle
       have H60:=hQQ h60
       clear MF1 NI1 hst hP hIR hEq hle hn1 hln hwc hfz XIN h60 hx hane
       go_simp
       go_wp2_with fail
       refine gn (fun W=>W.heap[gL]?=some (.cells c.cells 27 (0,0))∧W.heap[gP]?=some (.cells #[.slice a1p n1 c1p] 62 (0,0))∧W.cell? ⟨g9,ix,none⟩=some (.int .i64 x)) 11 (by kernel_rfl) ?_
       change jr _ _ _ _ _ _ _ _ _ (w9.drewN 1)
       have M0:Hq (ae w9 (w9.drewN 1)):=hQQ ((ae.refl w9).drewN 1)
       have C0:Hq ((w9.drewN 1).heap[gL]?=some (.cells c.cells 27 (0,0))∧(w9.drewN 1).heap[gP]?=some (.cells #[.slice a1p n1 c1p] 62 (0,0))∧(w9.drewN 1).cell? ⟨g9,ix,none⟩=some (.int .i64 x)):=hQQ (⟨M0.o.block LY9.o,M0.o.block P9.o,M0.o.cell CX9.o⟩)
       generalize w9.drewN 1=wq at M0 C0⊢
       generalize hA:Act.mk _ _=A
       have HF:AG 109 A [(6,.pointer (some ⟨gL,0,none⟩)),(7,.slice (some ⟨gW,0,none⟩) n n),(8,.pointer (some ⟨gP,0,none⟩)),(9,.slice (some ⟨g9,0,none⟩) n9 c9),(16,.int .i64 (ix:Int))]:=by
        rw[←hA];try simp only[pts,List.foldl]
        refine⟨⟨Nat.le_of_ble_eq_true rfl,rfl⟩,?_⟩
        intro z hz;simp only[List.mem_cons,List.not_mem_nil,or_false] at hz;rcases hz with rfl|rfl|rfl|rfl|rfl<;>rfl
       refine jT (fun aa W=>∃(u87 u88 u89 u90 u91 u92 u93 u94 u86 u95 u96:Value),aa=(Act.put (pts A [(87,u87),(88,u88),(89,u89),(90,u90),(91,u91),(92,u92),(93,u93),(94,u94),(86,u86),(95,u95),(96,u96)]) none undef)∧∃vy ity wy,W=wy.setRow gP #[vy]∧IR 0 wy vy ity∧Eqv fz.1 ity∧ity.length≤n1+1∧Ws wy gW n fz.2∧Turned (fun b=>b=gW) w9 wy) (fun _=>False) [] (fun a W hd h=>h.elim) (fun _ _ _ _ _ h=>h) ?_ ?_
       ·skip
        rintro a9 wv ⟨u87,u88,u89,u90,u91,u92,u93,u94,u86,u95,u96,rfl,vy,ity,wy,rfl,hIy,hEy,hly,hXy,hTy⟩
        rw[←hA];try simp only[pts,List.foldl]
        obtain⟨ay,cy,rfl,_⟩:=hIy.at
        obtain⟨ny,hny⟩:∃ny,ity.length=ny:=⟨_,rfl⟩
        rw[hny] at hIy hly
        rw[hny]
        have Py:=(hTy.block _ (ac P9.o) (by have:=G8.o;omega)).trans P9.o
        have tp:Turned (fun b=>b=gP) wy (wy.setRow gP #[.slice ay ny cy]):=Turned.setRow (Turned.refl _ wy) _ _ (fun _=>rfl)
        have PV:=hQQ (setRow_heap wy gP _ #[.slice ay ny cy] _ _ Py)
        have IV:Hq (IR 0 (wy.setRow gP #[.slice ay ny cy]) (.slice ay ny cy) ity):=hQQ (hIy.keep tp (fun k q=>by subst q;exact⟨_,_,_,Py,by decide⟩))
        have XV:Hq (Ws (wy.setRow gP #[.slice ay ny cy]) gW n fz.2):=hQQ (hXy.keep tp (by have:=G8.o;omega))
        have TV:Hq (Turned (fun b=>b=gW∨b=gP) w9 (wy.setRow gP #[.slice ay ny cy])):=hQQ (Turned.trans (hTy.mono (fun _ _ q=> .inl q)) (tp.mono (fun _ _ q=> .inr q)))
        generalize wy.setRow gP #[.slice ay ny cy]=wv at PV IV XV TV⊢
        have TVR:Hq (Turned (fun b=>b=gW∨b=gP) wr wv):=hQQ (Turned.trans (T9.o.mono (fun _ _ q=> .inl q)) TV.o)
        have LYV:=hQQ ((TV.o.block _ (ac LY9.o) (by have:=G8.o;omega)).trans LY9.o)
        have RSV:=hQQ ((TVR.o.block _ (ac LA.o.res) (by have:=G8.o;omega)).trans LA.o.res)
        have RWV:Hq (Rw bb wv (.slice (some ⟨g9,0,none⟩) n9 c9) s.all):=hQQ (RW9.o.keepT TV.o (fun k q=>by have:=RW9.o.own q;have:=G8.o;omega))
        have RWL:=hQQ RWV.o.lies
        have JN:Hq (n9≤c9):=hQQ (by have:=RWL.o;omega)
        have JC:Hq (ix≤c9):=hQQ (by have:=JN.o;have:=HIX.o;omega)
        have QX:Hq (IntKind.i64.wrap ((ix:Int)+1)=(ix:Int)+1):=hQQ (am (by omega) (by have:=HIX.o;have:=H60.o;omega))
        have SV:Hq (bb≤wv.heap.size):=hQQ (by have:=TV.o.size;have:=S9.o;omega)
        have HNY:=hQQ (And.intro hny (And.intro hEy hly))
        clear HF hA M0 C0 hIy hEy hly hXy hTy hny Py tp
        go_simp
        go_wp2_with fail
        refine dg (fun W=>ae wv W) (by kernel_rfl) ?_
        change eY _ _ _ _ _ _ _ _ (wv.drewN 1)
        have M0:Hq (ae wv (wv.drewN 1)):=hQQ ((ae.refl wv).drewN 1)
        generalize wv.drewN 1=wq at M0⊢
        generalize hA:Act.mk _ _=A
        have HF:AG 109 A [(9,.slice (some ⟨g9,0,none⟩) n9 c9),(16,.int .i64 (ix:Int))]:=by
         rw[←hA];try simp only[pts,List.foldl]
         refine⟨⟨Nat.le_of_ble_eq_true rfl,rfl⟩,?_⟩
         intro z hz;simp only[List.mem_cons,List.not_mem_nil,or_false] at hz;rcases hz with rfl|rfl<;>rfl
        refine eZ (fun aa W=>∃(u98 u99 u100 u102 u103 u104 u105 u97 u101 u106 u9:Value),aa=(pts A [(98,u98),(99,u99),(100,u100),(102,u102),(103,u103),(104,u104),(105,u105),(97,u97),(101,u101),(106,u106),(9,u9)])∧Rw bb W u9 (s.all.eraseIdx ix)∧ae wv W) (fun _=>False) [] (fun a W hd h=>h.elim) (fun _ _ _ _ _ h=>h) ?_ ?_
        ·skip
         rintro a9 wz ⟨u98,u99,u100,u102,u103,u104,u105,u97,u101,u106,u9,rfl,hrz,hmz⟩
         rw[←hA];try simp only[pts,List.foldl]
         have RWZ:=hQQ hrz
         have MZ:=hQQ hmz
         have NEW:Hq (o6 c n (w.heap.size+1) gL gW gP bb ⟨fz.1,s.all.eraseIdx ix⟩ fz.2 u9 (j+1) wz):=hQQ (by
          refine⟨hmz.block LYV.o,hmz.block RSV.o,⟨ay,ny,cy,ity,hmz.block PV.o,IV.o.more hmz,HNY.o.1,HNY.o.2.1,by have:=HNY.o.2.2;have:=HLE.o;omega⟩,hrz,by have:=LA.o.all;have:=HN9.o;have:=HIX.o;simp only[List.length_eraseIdx];split<;>omega,XV.o.more hmz,?_,NI2.o⟩
          obtain⟨_,_,_,z⟩:=NI2.o
          obtain⟨_,z⟩:=z.fri
          exact z.len)
         have MW1:Hq (ae w wz):=hQQ (aq (F':=fun b=>b=gW∨b=gP) MW.o (Turned.trans TVR.o (turned_more hmz)) (fun k q=> .inr (by have:=G8.o;rcases q with q|q<;>omega)))
         have SZ:Hq (bb≤wz.heap.size):=hQQ (Nat.le_trans SV.o hmz.size)
         clear HF hA M0 hrz hmz
         go_simp
         go_wp2_with fail
         go_roundw
         case rel=>exact⟨j+1,⟨fz.1,s.all.eraseIdx ix⟩,fz.2,by go_num,HJ.o,NEW.o,SZ.o,MW1.o,MF2.o⟩
         case measure=>simp[intOf];omega
        intro QQ FINE FIND FINQ
        clear hA
        refine tqM 1 98 0 rfl (.inl rfl) rfl (by kernel_rfl) FINQ M0.o HF fun A β1 HF=>?_
        refine tqM 2 99 2 rfl (.inl rfl) rfl (by kernel_rfl) FINQ M0.o HF fun A β2 HF=>?_
        refine tqC 3 100 (.slice (some ⟨g9,0,none⟩) ix c9) (by kernel_rfl) FINQ M0.o HF (by exact wJ (ah rfl) rfl (HF.get 1 rfl) (HF.get 0 rfl) JC.o) fun A β3 HF=>?_
        refine tqM 5 102 3 rfl (.inl rfl) rfl (by kernel_rfl) FINQ M0.o HF fun A β4 HF=>?_
        refine tqM 6 103 5 rfl (.inl rfl) rfl (by kernel_rfl) FINQ M0.o HF fun A β5 HF=>?_
        refine tqC 7 104 (.int .i64 ((ix:Int)+1)) (by kernel_rfl) FINQ M0.o HF (by exact mF (ah rfl) rfl (HF.get 0 rfl) rfl _ QX.o) fun A β6 HF=>?_
        refine tqC 8 105 (.slice (some (hiJ g9 ix c9)) (n9-(ix+1)) (c9-(ix+1))) (by kernel_rfl) FINQ M0.o HF (by exact wK (ah rfl) rfl (HF.get 2 rfl) (HF.get 0 rfl) HIX.o JN.o) fun A β7 HF=>?_
        refine tqO 0 97 (by kernel_rfl) HF fun K hK=>?_
        refine yL rfl ?_
        have M1:Hq (ae wv (wq.alloc (.cells #[] 3))):=hQQ (M0.o.alloc _)
        have Z1:=hQQ (Ik wq)
        have S1:Hq (wq.heap.size≤(wq.alloc (.cells #[] 3)).heap.size):=hQQ (by simp)
        generalize wq.alloc (.cells #[] 3)=y1 at M1 Z1 S1 hK⊢
        refine hK _ _ M1.o fun A β8 HF=>?_
        clear hK K
        refine fm (i:=4) (some 101) (by kernel_rfl) rfl (ah rfl) rfl (fun K hK=>?_)
        refine Ai _ _ rfl (HF.get 0 rfl) Z1.o (S1.o) (HF.get 5 rfl) (CD (fun i y hi=>M1.o.cell (RWL.o.2.2.2.2 i y hi)) (by have:=HIX.o;have:=HN9.o;omega)) (by have:=H60.o;have:=HN9.o;simp;omega) ?_
        intro v2 y2 r2 t2 k2
        have M2:Hq (ae wv y2):=hQQ (aq (F':=fun k=>Value.ownBlock (.slice (some ⟨wq.heap.size,0,none⟩) 0 0)=some k) M1.o t2 (fun k q=> .inr (by cases q;exact M0.o.size)))
        have R2:Hq (Rw wq.heap.size y2 v2 (s.all.take ix)):=hQQ r2
        have S2:Hq (wq.heap.size≤y2.heap.size):=hQQ (Nat.le_trans S1.o t2.size)
        refine hK _ _ M2.o ?_
        clear hK K r2 t2 k2
        replace HF:=HF.put 101 (v2) (by decide) rfl
        generalize β9:Act.put _ _ _=A at HF⊢
        refine fm (i:=9) (some 106) (by kernel_rfl) rfl (ah rfl) rfl (fun K hK=>?_)
        refine Ai _ _ rfl (HF.get 0 rfl) R2.o (S2.o) (HF.get 2 rfl) (by have h:=CF (c:=c9-(ix+1)) (fun i y hi=>M2.o.cell (RWL.o.2.2.2.2 i y hi)) (m:=ix) (cv:=c9) (by have:=HIX.o;have:=HN9.o;omega) (by have:=JN.o;have:=HN9.o;omega);rw[HN9.o] at h;exact h) (by have:=H60.o;have:=HN9.o;simp;omega) ?_
        intro v3 y3 r3 t3 k3
        have M3:Hq (ae wv y3):=hQQ (aq (F':=fun k=>v2.ownBlock=some k) M2.o t3 (fun k q=> .inr (by have:=R2.o.own q;have:=M0.o.size;omega)))
        have R3:Hq (Rw wq.heap.size y3 v3 (s.all.eraseIdx ix)):=hQQ (by rw[List.eraseIdx_eq_take_drop_succ];exact r3)
        refine hK _ _ M3.o ?_
        clear hK K r3 t3 k3
        replace HF:=HF.put 106 (v3) (by decide) rfl
        generalize β10:Act.put _ _ _=A at HF⊢
        replace HF:=AG.sub HF (L':= [(106,v3)]) (by intro q hq;simp only[List.mem_singleton] at hq;subst hq;simp)
        refine tqM 10 9 0 rfl (.inr rfl) rfl (by kernel_rfl) FINQ M3.o HF fun A β11 HF=>?_
        exact el (by kernel_rfl) (FINE _ _ ⟨(.slice (some ⟨g9,0,none⟩) n9 c9),(.int .i64 (ix:Int)),(.slice (some ⟨g9,0,none⟩) ix c9),(.slice (some ⟨g9,0,none⟩) n9 c9),(.int .i64 (ix:Int)),(.int .i64 ((ix:Int)+1)),(.slice (some (hiJ g9 ix c9)) (n9-(ix+1)) (c9-(ix+1))),(.slice (some ⟨wq.heap.size,0,none⟩) 0 0),(v2),(v3),(v3),by rw[← β11,← β10,← β9,← β8,← β7,← β6,← β5,← β4,← β3,← β2,← β1]<;>rfl,gQ R3.o (by have:=M0.o.size;have:=SV.o;omega),M3.o⟩)
       intro QQ FINE FIND FINQ
       clear hA
       refine aR (i:=0) (v:=.agg c.cells) (by kernel_rfl) (by kernel_rfl) (by kernel_rfl) (some 87) rfl rfl (by kernel_rfl) (by kernel_rfl) (by kernel_rfl) (fun c a w=>FINQ c a _ _ w) C0.o (by exact bF (C:=(fun W=>W.heap[gL]?=some (.cells c.cells 27 (0,0))∧W.heap[gP]?=some (.cells #[.slice a1p n1 c1p] 62 (0,0))∧W.cell? ⟨g9,ix,none⟩=some (.int .i64 x))) (ah rfl) 27 _ rfl gL (HF.get 0 rfl) 27 _ _ _ (fun W hW=>hW.1) Tryz.underlying27 rfl (by kernel_rfl)) ?_
       replace HF:=HF.put 87 (.agg c.cells) (by decide) rfl
       generalize β1:Act.put _ _ _=A at HF⊢
       refine aR (i:=1) (v:=.slice (some ⟨gW,0,none⟩) n n) (by kernel_rfl) (by kernel_rfl) (by kernel_rfl) (some 88) rfl rfl (by kernel_rfl) (by kernel_rfl) (by kernel_rfl) (fun c a w=>FINQ c a _ _ w) C0.o (by exact aV (ah rfl) _ rfl (HF.get 2 rfl)) ?_
       replace HF:=HF.put 88 (.slice (some ⟨gW,0,none⟩) n n) (by decide) rfl
       generalize β2:Act.put _ _ _=A at HF⊢
       refine aR (i:=2) (v:=.agg #[.slice a1p n1 c1p]) (by kernel_rfl) (by kernel_rfl) (by kernel_rfl) (some 89) rfl rfl (by kernel_rfl) (by kernel_rfl) (by kernel_rfl) (fun c a w=>FINQ c a _ _ w) C0.o (by exact bF (C:=(fun W=>W.heap[gL]?=some (.cells c.cells 27 (0,0))∧W.heap[gP]?=some (.cells #[.slice a1p n1 c1p] 62 (0,0))∧W.cell? ⟨g9,ix,none⟩=some (.int .i64 x))) (ah rfl) 62 _ rfl gP (HF.get 4 rfl) 62 _ _ _ (fun W hW=>hW.2.1) Tryz.underlying62 rfl (by kernel_rfl)) ?_
       replace HF:=HF.put 89 (.agg #[.slice a1p n1 c1p]) (by decide) rfl
       generalize β3:Act.put _ _ _=A at HF⊢
       refine aR (i:=3) (v:=.slice (some ⟨g9,0,none⟩) n9 c9) (by kernel_rfl) (by kernel_rfl) (by kernel_rfl) (some 90) rfl rfl (by kernel_rfl) (by kernel_rfl) (by kernel_rfl) (fun c a w=>FINQ c a _ _ w) C0.o (by exact aV (ah rfl) _ rfl (HF.get 6 rfl)) ?_
       replace HF:=HF.put 90 (.slice (some ⟨g9,0,none⟩) n9 c9) (by decide) rfl
       generalize β4:Act.put _ _ _=A at HF⊢
       refine aR (i:=4) (v:=.int .i64 (ix:Int)) (by kernel_rfl) (by kernel_rfl) (by kernel_rfl) (some 91) rfl rfl (by kernel_rfl) (by kernel_rfl) (by kernel_rfl) (fun c a w=>FINQ c a _ _ w) C0.o (by exact aV (ah rfl) _ rfl (HF.get 8 rfl)) ?_
       replace HF:=HF.put 91 (.int .i64 (ix:Int)) (by decide) rfl
       generalize β5:Act.put _ _ _=A at HF⊢
       refine aR (i:=5) (v:=.pointer (some ⟨g9,ix,none⟩)) (by kernel_rfl) (by kernel_rfl) (by kernel_rfl) (some 92) rfl rfl (by kernel_rfl) (by kernel_rfl) (by kernel_rfl) (fun c a w=>FINQ c a _ _ w) C0.o (by exact kC (j:=ix) (ah rfl) rfl (HF.get 1 rfl) (HF.get 0 rfl) HIX.o) ?_
       replace HF:=HF.put 92 (.pointer (some ⟨g9,ix,none⟩)) (by decide) rfl
       generalize β6:Act.put _ _ _=A at HF⊢
       refine aR (i:=6) (v:=.int .i64 x) (by kernel_rfl) (by kernel_rfl) (by kernel_rfl) (some 93) rfl rfl (by kernel_rfl) (by kernel_rfl) (by kernel_rfl) (fun c a w=>FINQ c a _ _ w) C0.o (by exact cZ (C:=(fun W=>W.heap[gL]?=some (.cells c.cells 27 (0,0))∧W.heap[gP]?=some (.cells #[.slice a1p n1 c1p] 62 (0,0))∧W.cell? ⟨g9,ix,none⟩=some (.int .i64 x))) (ah rfl) 3 _ rfl g9 ix (HF.get 0 rfl) (.int .i64 x) _ Tryz.underlying3 rfl (fun W hW=>hW.2.2)) ?_
       replace HF:=HF.put 93 (.int .i64 x) (by decide) rfl
       generalize β7:Act.put _ _ _=A at HF⊢
       refine dh (i:=7) (some 94) (by kernel_rfl) rfl (ah rfl) rfl (fun K hK=>?_)
       refine ku (v0:=.agg c.cells) (v1:=.slice (some ⟨gW,0,none⟩) n n) (v2:=(.int .i64 0)) (v3:=.agg #[.slice a1p n1 c1p]) (v4:=.int .i64 x) rfl (HF.get 6 rfl) (HF.get 5 rfl) rfl (HF.get 4 rfl) (HF.get 0 rfl) (enters_of Tryz.func30 (by kernel_rfl) rfl) ?_
       refine(FR.o _ (IR9.o.more M0.o) (X9.o.more M0.o)).mono ?_
       rintro e y1 ⟨vy,ity,rfl,hIy,hEy,hly,hXy,ht⟩
       rw[ITL.o] at hly
       have T1:Hq (Turned (fun b=>b=gW) w9 y1):=hQQ (Turned.trans (turned_more M0.o) ht)
       have Y1:=hQQ (And.intro hIy (And.intro hEy (And.intro hly hXy)))
       have C1:Hq (y1.heap[gL]?=some (.cells c.cells 27 (0,0))∧y1.heap[gP]?=some (.cells #[.slice a1p n1 c1p] 62 (0,0))∧y1.cell? ⟨g9,ix,none⟩=some (.int .i64 x)):=hQQ ⟨(ht.block _ (ac C0.o.1) (by have:=G8.o;omega)).trans C0.o.1,(ht.block _ (ac C0.o.2.1) (by have:=G8.o;omega)).trans C0.o.2.1,(World.cell?_of_block (w:=wq) (ht.block g9 (dA C0.o.2.2) (by have:=G8.o;have:=B9.o;omega))).trans C0.o.2.2⟩
       clear hIy hEy hly hXy ht
       refine hK _ _ (.inr C1.o) ?_
       clear hK K
       replace HF:=HF.put 94 (.tuple #[.agg #[vy],.bool true]) (by decide) rfl
       generalize β8:Act.put _ _ _=A at HF⊢
       refine aR (i:=8) (v:=.tuple #[.agg #[vy],.bool true]) (by kernel_rfl) (by kernel_rfl) (by kernel_rfl) (some 86) rfl rfl (by kernel_rfl) (by kernel_rfl) (by kernel_rfl) (fun c a w=>FINQ c a _ _ w) C1.o (by exact aV (ah rfl) _ rfl (HF.get 0 rfl)) ?_
       replace HF:=HF.put 86 (.tuple #[.agg #[vy],.bool true]) (by decide) rfl
       generalize β9:Act.put _ _ _=A at HF⊢
       refine aR (i:=9) (v:=.agg #[vy]) (by kernel_rfl) (by kernel_rfl) (by kernel_rfl) (some 95) rfl rfl (by kernel_rfl) (by kernel_rfl) (by kernel_rfl) (fun c a w=>FINQ c a _ _ w) C1.o (by exact(Or.inl ⟨(ah rfl),fun W hW=>by have h50:=(HF.getD 0 rfl);go_simp⟩)) ?_
       replace HF:=HF.put 95 (.agg #[vy]) (by decide) rfl
       generalize β10:Act.put _ _ _=A at HF⊢
       refine yF (i:=10) (v:=.bool true) (by kernel_rfl) (some 96) rfl rfl (by kernel_rfl) (by kernel_rfl) (by kernel_rfl) (fun c a w=>FINQ c a _ _ w) C1.o (by exact(Or.inl ⟨(ah rfl),fun W hW=>by have h50:=(HF.getD 1 rfl);go_simp⟩)) ?_
       replace HF:=HF.put 96 (.bool true) (by decide) rfl
       generalize β11:Act.put _ _ _=A at HF⊢
       have ONE:=JD Y1.o.1
       refine dh (i:=11) none (by kernel_rfl) rfl (ah rfl) rfl (fun K hK=>?_)
       refine wp_store_row 62 _ _ rfl gP _ (HF.get 13 rfl) (HF.get 1 rfl) 62 _ C1.o.2.1 (by kernel_rfl) rfl ONE ?_
       refine hK _ _ (.inl (by kernel_rfl)) ?_
       exact lw (by kernel_rfl) (FINE _ _ ⟨(.agg c.cells),(.slice (some ⟨gW,0,none⟩) n n),(.agg #[.slice a1p n1 c1p]),(.slice (some ⟨g9,0,none⟩) n9 c9),(.int .i64 (ix:Int)),(.pointer (some ⟨g9,ix,none⟩)),(.int .i64 x),(.tuple #[.agg #[vy],.bool true]),(.tuple #[.agg #[vy],.bool true]),(.agg #[vy]),(.bool true),by rw[← β11,← β10,← β9,← β8,← β7,← β6,← β5,← β4,← β3,← β2,← β1]<;>rfl,vy,ity,y1,rfl,Y1.o.1,Y1.o.2.1,Y1.o.2.2.1,Y1.o.2.2.2,T1.o⟩)
      ·have d3:(t1==3)=false:=by simp[h3]
       have hst:gm c t1 t2 t3 ix s ws=(s,(jq (aX c x) ws).2):=by unfold gm;rw[if_neg (by omega),if_neg hane,if_neg h3,hx]
       have MF1:=MF.o
       have NI1:=NI.o
       rw[hst] at MF1 NI1
       have MF2:=hQQ MF1
       have NEW:=hQQ (LA.o.turn T9.o X9.o NI1 (by have:=G8.o;omega))
       have MW1:Hq (ae w w9):=hQQ (aq (F':=fun b=>b=gW) MW.o T9.o (fun k q=> .inr (by have:=G8.o;omega)))
       clear MF1 NI1 hst
       go_simp
       go_wp2_with fail
       go_roundw
       case rel=>exact⟨j+1,s,_,by go_num,HJ.o,NEW.o,S9.o,MW1.o,MF2.o⟩
       case measure=>simp[intOf];omega
     intro QQ FINE FIND FINQ
     clear hA
     refine tqC 0 76 (.agg c.cells) (by kernel_rfl) FINQ C0.o HF (by exact bF (ah rfl) 27 _ rfl gL (HF.get 0 rfl) 27 _ _ _ (fun W hW=>hW.1) Tryz.underlying27 rfl (by kernel_rfl)) fun A β1 HF=>?_
     refine tqM 1 77 2 rfl (.inl rfl) rfl (by kernel_rfl) FINQ C0.o HF fun A β2 HF=>?_
     refine tqM 2 78 4 rfl (.inl rfl) rfl (by kernel_rfl) FINQ C0.o HF fun A β3 HF=>?_
     refine tqM 3 79 6 rfl (.inl rfl) rfl (by kernel_rfl) FINQ C0.o HF fun A β4 HF=>?_
     refine tqC 4 80 (.pointer (some ⟨g9,ix,none⟩)) (by kernel_rfl) FINQ C0.o HF (by exact kC (j:=ix) (ah rfl) rfl (HF.get 1 rfl) (HF.get 0 rfl) HIX.o) fun A β5 HF=>?_
     refine tqC 5 81 (.int .i64 x) (by kernel_rfl) FINQ C0.o HF (by exact cZ (ah rfl) 3 _ rfl g9 ix (HF.get 0 rfl) (.int .i64 x) _ Tryz.underlying3 rfl (fun W hW=>hW.2)) fun A β6 HF=>?_
     refine tqO 6 82 (by kernel_rfl) HF fun K hK=>?_
     refine jd (v0:=.agg c.cells) (v1:=.slice (some ⟨gW,0,none⟩) n n) (v2:=.int .i64 x) rfl (HF.get 5 rfl) (HF.get 4 rfl) (HF.get 0 rfl) (enters_of Tryz.func29 (by kernel_rfl) rfl) ?_
     refine(CLC.o _ (XA.o.more M0.o)).mono ?_
     rintro e y1 ⟨rfl,hx,ht⟩
     have T1:Hq (Turned (fun b=>b=gW) wa y1):=hQQ (Turned.trans (turned_more M0.o) ht)
     have X1:=hQQ hx
     have C1:Hq (y1.heap[gL]?=some (.cells c.cells 27 (0,0))∧y1.cell? ⟨g9,ix,none⟩=some (.int .i64 x)):=hQQ ⟨(ht.block _ (ac C0.o.1) (by have:=G8.o;omega)).trans C0.o.1,(World.cell?_of_block (w:=wq) (ht.block g9 (dA C0.o.2) (by have:=G8.o;have:=B9.o;omega))).trans C0.o.2⟩
     clear hx ht
     refine hK _ _ C1.o fun A β7 HF=>?_
     clear hK K
     exact el (by kernel_rfl) (FINE _ _ ⟨by rw[← β7,← β6,← β5,← β4,← β3,← β2,← β1]<;>rfl,T1.o,X1.o⟩)
  ·have hje:j=l.length:=by omega
   subst hje
   have hmf:(s,ws)=mf:=by rw[List.drop_length] at hmf;exact hmf
   have LYR:=hQQ hA0.lay
   have RSR:=hQQ hA0.res
   have XR:=hQQ hA0.words
   have LNR:=hQQ hA0.len
   have DG:=G8.o
   have FIN:Hq (∃g,(Ending.returned (.tuple #[.agg c.cells,.slice (some ⟨gW,0,none⟩) n n]))=.returned (.tuple #[.agg c.cells,.slice (some ⟨g,0,none⟩) n n])∧w.heap.size≤g∧Ws (wr.setRow (w.heap.size+1) c.cells) g n mf.2∧ae w (wr.setRow (w.heap.size+1) c.cells)):=hQQ (by
    refine⟨gW,rfl,by omega,?_,hM0.setRow _ _ (by omega)⟩
    rw[←hmf]
    exact XR.o.keep (Turned.setRow (S:=fun b=>b=w.heap.size+1) (Turned.refl _ wr) _ _ (fun _=>rfl)) (by omega))
   clear hA0 hM0 hbw hmf DG
   go_wp2_with (first|(first|(refine aA rfl rfl rfl LYR.o (by kernel_rfl) ?_)|(refine aA rfl rfl rfl LYR.o (by kernel_rfl) ?_))|(refine wpList_store_row rfl 27 _ _ rfl _ _ rfl rfl 27 _ RSR.o (by kernel_rfl) rfl (je c) ?_))
   refine bodyPost_ret (v:=.tuple #[.agg c.cells,.slice (some ⟨gW,0,none⟩) n n]) (ls Tryz.results8 _ _ _ 27 _ (0,0) _ rfl (setRow_heap _ _ _ _ _ _ RSR.o) Tryz.underlying27 rfl (by kernel_rfl)) rfl FIN.o
theorem qF {c:Cfg}(R:c.Ok){n:Nat}(H:cB c.pg c.st n)(hw:(n:Int)=c.words)(hn:n≤1000):∀(l:List nV) (s:LSt) (ws:List Int),(∃r O RL,LdI c n s ws r O RL)→∃r O RL,LdI c n (jU c l s ws).1 (jU c l s ws).2 r O RL
 | [],s,ws,h=>h
 |t::l,s,ws,⟨r,O,RL,h⟩=>by
  refine qF R H hw hn l _ _ (tQ R H hw hn h t.1 t.2.1 t.2.2.1 (fun ne=>tH _ ?_))
  cases hs:s.all with
  |nil=>exact absurd hs ne
  |cons x xs=>simp
theorem F5 (y0 y1 y2 y3 y4 y5 y6 y7 y8 y9 y10:Int)(f0:(Lit.int .i64 y0).wf=true)(f1:(Lit.int .i64 y1).wf=true)(f2:(Lit.int .i64 y2).wf=true)(f3:(Lit.int .i64 y3).wf=true)(f4:(Lit.int .i64 y4).wf=true)(f5:(Lit.int .i64 y5).wf=true)(f6:(Lit.int .i64 y6).wf=true)(f7:(Lit.int .i64 y7).wf=true)(f8:(Lit.int .i64 y8).wf=true)(f9:(Lit.int .i64 y9).wf=true)(f10:(Lit.int .i64 y10).wf=true)(l:List nV)(hl:l.length≤60)(ho:G0 l):∃(d:Cfg) (n:Nat) (s:LSt) (zs:List Int),d.Small∧(n:Int)=d.words∧(∃r O RL,LdI d n s zs r O RL)∧Hq (∀(ad:Option Addr) (cap:Nat) (w:World),iG w ad l→Calls Tryz.prog 8 #[.agg #[.int .i64 y0,.int .i64 y1,.int .i64 y2,.int .i64 y3,.int .i64 y4,.int .i64 y5,.int .i64 y6,.int .i64 y7,.int .i64 y8,.int .i64 y9,.int .i64 y10],.slice ad l.length cap] w (fun e w'=>∃g,e=.returned (.tuple #[.agg d.cells,.slice (some ⟨g,0,none⟩) n n])∧w.heap.size≤g∧Ws w' g n zs∧ae w w')):=by
 obtain⟨wk,cp,pg,st,tr,wt,ck,pr,ca,bi,ba,R0,S0⟩:=xB y0 y1 y2 y3 y4 y5 y6 y7 y8 y9 y10 f0 f1 f2 f3 f4 f5 f6 f7 f8 f9 f10
 have R:Cfg.Ok ⟨wk,cp,pg,st,tr,wt,ck,pr,ca,bi,ba⟩:=R0
 have S:=uJ R
 have SM:=fun W=>rn R y0 y1 y2 y3 y4 y5 y6 y7 y8 y9 y10 _ W S0.o rfl
 generalize kr ⟨wk,cp,pg,st,tr,wt,ck,pr,ca,bi,ba⟩=d at S SM
 have wd:=S.words
 have hn:((d.words.toNat:Nat):Int)=d.words:=by omega
 have H:cB d.pg d.st d.words.toNat:=by
  have h2:=eS S.ok;have h3:=S.ok.pg1
  have h5:aO d.st d.pg+62≤cF d.cp d.pg d.st d.ca d.bi:=by
   have:=j6 S.ok;have:=S.ok.bi1
   unfold cF dY cD;omega
  refine { S.tbl hn with top5:= ?_,top62:= ?_ }
  ·rw[hn]
   have ew:d.words=bH d.cp d.pg d.st d.ca d.bi+32 * d.pg:=rfl
   unfold aO at h5
   omega
  ·rw[hn]
   have ew:d.words=bH d.cp d.pg d.st d.ca d.bi+32 * d.pg:=rfl
   unfold aO at h5
   omega
 exact⟨d,d.words.toNat,_,_,S,hn,qF S.ok H hn (by omega) l ls0 (bQ d.words.toNat) ⟨_,_,_,Aj S.ok H hn⟩,
  fun ad cap w h=>CI S.ok H hn (by omega) #[.int .i64 y0,.int .i64 y1,.int .i64 y2,.int .i64 y3,.int .i64 y4,.int .i64 y5,.int .i64 y6,.int .i64 y7,.int .i64 y8,.int .i64 y9,.int .i64 y10] rfl SM l hl (fun t ht=>⟨(ho t ht).1,(ho t ht).2.2⟩) ad cap w h⟩
def wL (c:Cfg):Nat→Int→List KV→Prg (List KV)
 | 0,_,l=>aK l
 |m+1,a,l=>aJ (qt (aX c a)) (fun y=>wL c m (a+1) (if y.2 then l++ [(a,y.1)] else l))
def Il (c:Cfg):Prg (List KV):=wL c (32 * c.pg).toNat c.us []
theorem qG (c:Cfg):∀(m:Nat) (a:Int) (l:List KV),eG (wL c m a l)
 | 0,_,_=>ci _
 |m+1,a,l=>cL (rT _) (fun _=>qG c m _ _)
def tlAllN (c:Cfg)(ws:List Int):Nat→Int→List KV→List KV
 | 0,_,l=>l
 |m+1,a,l=>tlAllN c ws m (a+1) (if(dV (aX c a) ws).2 then l++ [(a,(dV (aX c a) ws).1)] else l)
def tlAll (c:Cfg)(ws:List Int):List KV:=tlAllN c ws (32 * c.pg).toNat c.us []
section
variable {c:Cfg}(R:c.Ok){n:Nat}(H:PgIn c.pg c.st n)(hw:(n:Int)=c.words)
include R H hw
theorem oz:∀(m:Nat) (a:Int) (l:List KV),fX n (fun _=>True) (wL c m a l)
 | 0,_,_=>cH n trivial
 |m+1,a,l=>cU (ni R H hw a) (fun _ _=>oz m _ _)
theorem sr:∀(m:Nat) (a:Int) (l:List KV),bO n (wL c m a l) (fun ws=>(tlAllN c ws m a l,ws))
 | 0,_,l=>az n l
 |m+1,a,l=>aE (wu R H hw a) (fun y=>sr m (a+1) (if y.2 then l++ [(a,y.1)] else l))
end
def oA (b:Nat)(F:Nat→Prop)(w:World)(v:Value)(ps:List KV):Prop:=PRw b w v ps∧∀k,v.ownBlock=some k→¬F k∧b≤k∧k<w.heap.size
theorem PRw.own {b:Nat}{w:World}{v:Value}{ps:List KV}(h:PRw b w v ps){k:Nat}(q:v.ownBlock=some k):b≤k∧k<w.heap.size:=by
 rcases h.2 with⟨rfl,_⟩|⟨g,cap,cur,rfl,hb,hg,_⟩
 ·cases q
 ·have:g=k:=by simpa [Value.ownBlock] using q
  subst this
  exact⟨hb,ac hg⟩
theorem oA.more {b:Nat}{F:Nat→Prop}{w w':World}{v:Value}{ps:List KV}(h:oA b F w v ps)(m:ae w w'):oA b F w' v ps :=
 ⟨h.1.more m,fun k q=>⟨(h.2 k q).1,(h.2 k q).2.1,Nat.lt_of_lt_of_le (h.2 k q).2.2 m.size⟩⟩
theorem oA.went {b:Nat}{F F':Nat→Prop}{w w':World}{v:Value}{ps:List KV}(h:oA b F w v ps)(hk:∀k o,¬F k→w.heap[k]?=some o→w'.heap[k]?=some o)(hf:∀k,F' k→F k∨w.heap.size≤k):oA b F' w' v ps:=by
 obtain⟨r,n⟩:=h
 have key:∀k,v.ownBlock=some k→¬F' k:=fun k q z=>by
  rcases hf k z with y|y
  ·exact(n k q).1 y
  ·have:=(n k q).2.2;omega
 rcases r with⟨h1,q|⟨g,cap,cur,rfl,hb,hg,rest⟩⟩
 ·exact⟨⟨h1,.inl q⟩,fun k q'=>by rw[q.1] at q';cases q'⟩
 ·have hg':=hk g _ (n g rfl).1 hg
  exact⟨⟨h1,.inr ⟨g,cap,cur,rfl,hb,hg',rest⟩⟩,fun k q=>by
   have:g=k:=by simpa [Value.ownBlock] using q
   subst this
   exact⟨key g rfl,hb,ac hg'⟩⟩
theorem tU {ops:Array Oper}{rest:List Oper}{o:Oper}{a:Act}{Q:Exit→Act→World→Prop}{w:World}{b:Nat}{v:Value}{ps:List KV}(p q:Int)(hgd:o.guard=none)(s x:Operand)
 (ho:o.op=.call { callee:= .builtin .append,args:= #[s,x],argTypes:= #[39,39] })
 (hs:a.eval s=v) (hn:PRw b w v ps) (hb:b≤w.heap.size) (hl:ps.length≤1000000)
 (hx:a.eval x=.slice (some ⟨w.heap.size,0,none⟩) 1 1)
 (h:∀v' w',PRw b w' v' (ps++ [(p,q)])→Turned (fun k=>v.ownBlock=some k) w w'→(∀k,v'.ownBlock=some k→v.ownBlock=some k∨w.heap.size≤k)→wpList Tryz.prog ops Q rest (a.put o.dst v') w'):wpList Tryz.prog ops Q (o::rest) a (w.alloc (.cells #[.int .i64 p,.int .i64 q] 55)):=by
 obtain⟨i,i1,i2,i3,i4⟩:=nE
 have hn':=hn.more ((ae.refl w).alloc (.cells #[.int .i64 p,.int .i64 q] 55))
 have hB:=bm w (.cells #[.int .i64 p,.int .i64 q] 55)
 refine wpList_append_lies _ hgd s x 39 ho b 55 i _ 2 16 Tryz.underlying39 i1 i2 i3 i4 rfl (by omega) v ps.length _ hs hn' ⟨w.heap.size,0,none⟩ 1 1 [.int .i64 p,.int .i64 q] hx (by simp)
  (fun j u hu=>World.news_of_block hB j u (by simpa using hu)) (by intro u hu;simp at hu;rcases hu with rfl|rfl<;>rfl) (by omega) (by simp only[maxLen];omega) (by omega) (by simp;omega) _ rfl ?_
 intro g cap w1 hown hgrow hg _
 refine h _ w1 ?_ ⟨hgrow.os,hgrow.tape,hgrow.output,by have:=hgrow.size;simp at this;omega,fun k hk hs=>by rw[hgrow.block k (by simp;omega) (fun e=>hs e.symm),Below.heap_alloc _ _ _ hk]⟩ (fun k q=>by
  have e:g=k:=by simpa [Value.ownBlock] using q
  subst e
  rcases hg with z|z
  ·exact .inl z
  ·exact .inr (by simp at z;omega))
 unfold PRw
 rw[List.length_append,iy]
 exact hown
theorem MidV.grewP {W wr w1:World}{F S F':Nat→Prop}{p n:Nat}{kn:Int→Option Int}{D:List KV}{v v':Value}{b:Nat}{xs ys:List KV}(h:MidV W wr F S p kn n D F')(hr:oA b F' wr v xs)(hb:W.heap.size≤b)(hbw:b≤wr.heap.size)(t:Turned (fun k=>v.ownBlock=some k) wr w1)(hr':PRw b w1 v' ys)(hv':∀k,v'.ownBlock=some k→v.ownBlock=some k∨wr.heap.size≤k):MidV W w1 F S p kn n D F'∧oA b F' w1 v' ys:=by
 have lt:=h.view.lt
 have hnc:∀(k:Nat) es cl,v.ownBlock=some k→wr.heap[k]? ≠some (.map es cl):=fun k es cl q z=>by
  rcases hr.1.2 with⟨q',_⟩|⟨g,cap,cur,q',_,hg,_⟩
  ·rw[q'] at q;cases q
  ·rw[q'] at q
   have:g=k:=by simpa [Value.ownBlock] using q
   subst this
   rw[hg] at z;cases z
 refine⟨⟨h.view.keepS t (fun k q e=>(hr.2 k e).1 q) (fun k es cl e q=>hnc k es cl e q),h.from',aq h.turn t (fun k q=> .inr (by have:=(hr.2 k q).2.1;omega)),h.inv⟩,hr',fun k q=>?_⟩
 have ho:=hr'.own q
 refine⟨fun z=>?_,ho⟩
 rcases hv' k q with e|e
 ·exact(hr.2 k e).1 z
 ·have:=lt k z;omega
theorem Ks {c:Cfg}(R:c.Ok){n:Nat}(H:PgIn c.pg c.st n)(hw:(n:Int)=c.words)(hn:n≤10000)(F:Nat→Prop)(p:Nat)(kn:Int→Option Int)(D:List KV)(w:World)(hv:bI w F p kn D)(hk:OkK kn)(hD:fy n D):
 Calls Tryz.prog 23 #[.pointer (some ⟨p,0,none⟩),.agg c.arr] w (zq w F p kn (fun ps v w' F'=>oA w.heap.size F' w' v ps) (Il c kn D)):=by
 obtain⟨Rr,hRr⟩:∃Rr,Il c kn D=Rr:=⟨_,rfl⟩
 rw[hRr]
 have HW:=hQQ hw
 have HN:=hQQ hn
 have pg1:=R.pg1
 have pg2:=R.pg2
 have us1:0≤c.us∧c.us≤1000000:=by
  have hb:=eS R
  have e2:c.us=bH c.cp c.pg c.st c.ca c.bi:=rfl
  omega
 have WD:=hQQ (show c.words=c.us+32 * c.pg from rfl)
 obtain⟨w1,e1,hl1,m1,s1⟩:=df w (.cells c.arr 33)
 have nFl:¬F w.heap.size:=fun q=>by have:=hv.lt _ q;omega
 have MM:=hQQ m1
 have L0:=hQQ hl1
 have M0:=m0Z (hv.more m1) hD
 have KL:=klZ (p:=p) (kn:=kn) (n:=n) L0.o nFl
 have NEED:Hq (∀a w2,Rr=.need a→eC w2 p a→Turned (fun b=>F b∨False) w1 w2→zq w F p kn (fun ps v w' F'=>oA w.heap.size F' w' v ps) Rr (.panicked (eT p)) w2):=hQQ fun a w2 e hd ht=>by
  subst e
  exact⟨rfl,hd,aq (Turned.mono MM.o (fun _ _ q=>q.elim)) ht (fun k q=>q.imp id (fun z=>z.elim))⟩
 have DONE:Hq (∀ps v w2 D' F',Rr=.ok ps D'→MidV w1 w2 F (fun _=>False) p kn n D' F'→oA w1.heap.size F' w2 v ps→zq w F p kn (fun ps v w' F'=>oA w.heap.size F' w' v ps) Rr (.returned v) w2):=hQQ fun ps v w2 D' F' e h hp=>by
  subst e
  exact⟨v,F',rfl,⟨hp.1.mono MM.o.size,fun k q=>⟨(hp.2 k q).1,Nat.le_trans MM.o.size (hp.2 k q).2.1,(hp.2 k q).2.2⟩⟩,h.view,aq (Turned.mono MM.o (fun _ _ q=>q.elim)) h.turn (fun k q=>q.imp id (fun z=>z.elim)),fun k q=>(h.from' k q).imp id (fun r=>Nat.le_trans MM.o.size r)⟩
 have HK:=hQQ hk
 have HR:=hQQ R
 have HH:=hQQ H
 have GS:=hQQ (fun a=>ni R H hw a)
 have R0:=hQQ (show wL c (32 * c.pg).toNat c.us [] kn D=Rr from hRr)
 clear hl1 m1 hv hD hk R H nFl hRr hw hn s1
 go_enter Tryz.func23,Tryz.ntmps23
 go_wp2_with (first|(refine cQ rfl rfl rfl L0.o (by kernel_rfl) ?_)|(refine cQ rfl rfl rfl L0.o (by kernel_rfl) ?_))
 clear e1
 refine(JV HR.o w1).mono ?_
 rintro e w2 ⟨rfl,h2⟩
 have M2:=hQQ (M0.o.more h2)
 clear h2
 go_wp2_with fail
 go_loopw [5,6] (fun v iv wr=>∃(j:Nat) (ps:List KV) (D':List KV) (F':Nat→Prop),iv=.int .i64 (c.us+j)∧(j:Int)≤32 * c.pg∧ps.length≤j∧MidV w1 wr F (fun _=>False) p kn n D' F'∧oA w1.heap.size F' wr v ps∧wL c ((32 * c.pg).toNat-j) (c.us+j) ps kn D'=Rr) (fun _ iv _=>((c.us+32 * c.pg)-intOf iv).toNat)
 case atStart=>exact⟨0,[],D,F,by simp[Cfg.us],by omega,Nat.le_refl _,M2.o,⟨PRw.nil _ _,fun k q=>by cases q⟩,by simpa using R0.o⟩
 case round =>
  obtain⟨j,ps,DD,FF,rfl,hj,hlen,hM,hP,hR⟩:=hrel
  have MR:=hQQ hM
  have PR:=hQQ hP
  have LR:=hQQ (KL.o _ _ _ hM)
  have HLEN:=hQQ hlen
  clear M2 R0 hM hP hlen
  go_wp2_with (first|(refine cQ rfl rfl rfl LR.o (by kernel_rfl) ?_)|(refine cQ rfl rfl rfl LR.o (by kernel_rfl) ?_))
  refine(GC HR.o _).mono ?_
  rintro e w3 ⟨rfl,h3⟩
  have M3:=hQQ (MR.o.more h3)
  have P3:=hQQ (PR.o.more h3)
  have L3:=hQQ (KL.o _ _ _ M3.o)
  clear h3 MR PR LR
  by_cases hlt:(j:Int)<32 * c.pg
  ·have d1:decide (c.us+(j:Int)<c.words)=true:=by have:=WD.o;simp;omega
   have q7:IntKind.i64.wrap (c.us+(j:Int)+1)=c.us+(j:Int)+1:=am (by omega) (by omega)
   obtain⟨m,hm⟩:∃m,(32 * c.pg).toNat-j=m+1:=⟨(32 * c.pg).toNat-j-1,by omega⟩
   have hm2:(32 * c.pg).toNat-(j+1)=m:=by omega
   rw[hm] at hR
   have RR:=hQQ (show aJ (qt (aX c (c.us+j))) (fun y=>wL c m (c.us+j+1) (if y.2 then ps++ [(c.us+(j:Int),y.1)] else ps)) kn DD=Rr from hR)
   have HM2:=hQQ hm2
   clear hR hm hm2
   go_wp2_with (first|(refine cQ rfl rfl rfl L3.o (by kernel_rfl) ?_)|(refine cQ rfl rfl rfl L3.o (by kernel_rfl) ?_))
   refine(Fu HR.o HH.o HW.o HN.o FF p kn DD (c.us+j) w3 M3.o.view HK.o M3.o.inv).mono ?_
   intro e w4 he
   rcases M3.o.step (ae.refl _) HK.o (GS.o _) he with⟨a',hE,rfl,hd',ht',hk'⟩|⟨x4,D4,F4,hE,rfl,M',hq4,hk',hf'⟩
   ·exact⟨rfl,NEED.o a' w4 (RR.o.symm.trans (bK hE)) hd' ht'⟩
   have R4:=hQQ ((bE hE).symm.trans RR.o)
   have M4:=hQQ M'
   have P4:=hQQ (P3.o.went hk' hf')
   clear he hE M' hk' hf' M3 P3 L3 RR hq4
   obtain⟨z,b⟩:=x4
   simp only[vIB]
   cases b with
   |false =>
    go_wp2_with fail
    go_roundw
    case rel=>exact⟨j+1,ps,D4,F4,by go_num,by omega,by have:=HLEN.o;omega,M4.o,P4.o,by have h:=R4.o;simp only[Bool.false_eq_true,if_false] at h;rw[HM2.o,show c.us+((j+1:Nat):Int)=c.us+j+1 by omega];exact h⟩
    case measure=>simp[intOf];omega
   |true =>
    have hb1:w1.heap.size≤w4.heap.size:=M4.o.size
    have hl1:ps.length≤1000000:=by have:=HLEN.o;omega
    go_wp2_with (refine tU (b:=w1.heap.size) (ps:=ps) (c.us+j) z rfl _ _ rfl rfl P4.o.1 hb1 hl1 rfl ?_;intro v5 w5 hp5 ht5 hv5;have GR:=hQQ (M4.o.grewP P4.o (Nat.le_refl _) hb1 ht5 hp5 hv5))
    go_roundw
    case rel=>exact⟨j+1,ps++ [(c.us+(j:Int),z)],D4,F4,by go_num,by omega,by have:=HLEN.o;simp;omega,GR.o.1,GR.o.2,by have h:=R4.o;simp only[if_true] at h;rw[HM2.o,show c.us+((j+1:Nat):Int)=c.us+j+1 by omega];exact h⟩
    case measure=>simp[intOf];omega
  ·have d1:decide (c.us+(j:Int)<c.words)=false:=by have:=WD.o;simp;omega
   rw[show(32 * c.pg).toNat-j=0 by omega] at hR
   have FIN:=hQQ (DONE.o ps _ w3 DD FF (show Rr=.ok ps DD from hR.symm) M3.o P3.o)
   clear hR
   go_wp2_with fail
   go_ret
   exact FIN.o
def ttP (c:Cfg):Prg (TS×List KV):=aJ (qx c) (fun s=>aJ (Il c) (fun l=>aK (s,l)))
theorem Ga (c:Cfg):eG (ttP c):=cL (rV _) (fun _=>cL (qG _ _ _ _) (fun _=>ci _))
theorem Im {c:Cfg}(R:c.Ok){n:Nat}(H:PgIn c.pg c.st n)(hw:(n:Int)=c.words):fX n (fun _=>True) (ttP c):=cU (nn R H hw) (fun _ _=>cU (oz R H hw _ _ _) (fun _ _=>cH n trivial))
theorem Io {c:Cfg}(R:c.Ok){n:Nat}(H:PgIn c.pg c.st n)(hw:(n:Int)=c.words):bO n (ttP c) (fun ws=>((tlV c ws,tlAll c ws),ws)):=
 aE (wB R H hw) (fun s=>aE (sr R H hw _ _ _) (fun t=>az n (s,t)))
def tV (g:Nat)(w:World)(v:Value):Prop:=w.heap[g]?=some (.cells #[v] 39 (0,0))
structure TtY (c:Cfg)(g1 ga gb bt:Nat)(w:World):Prop where
 h1:w.heap[g1]?=some (.cells c.arr 33 (0,0))
 ha:∃s,gq ga w s
 hb:∃v,tV gb w v
 sz:jf bt w
def TtX (ga gb b:Nat)(V:TS×List KV)(w:World):Prop:=gq ga w V.1∧∃v,tV gb w v∧PRw b w v V.2
theorem JH {c:Cfg}(R:c.Ok){n bt:Nat}(H:PgIn c.pg c.st n)(hw:(n:Int)=c.words)(hn:n≤10000)(F:Nat→Prop)(p g1 ga gb:Nat)(kn:Int→Option Int)(W:World)(hv:bI W F p kn [])(hk:OkK kn)(hY:TtY c g1 ga gb bt W)(n1:¬F g1)(na:¬F ga)(nb':¬F gb)(n0:¬F 0)(nb:¬F bt)(hd:(g1≠ga∧g1≠gb)∧ga≠gb∧(0≠ga∧0≠gb)∧bt≠ga∧bt≠gb)(V:TS×List KV)
 (ht:∀x D,ttP c kn []=.ok x D→x=V):
 Calls Tryz.prog 22 #[.pointer (some ⟨p,0,none⟩),.pointer (some ⟨g1,0,none⟩),.pointer (some ⟨ga,0,none⟩),.pointer (some ⟨gb,0,none⟩)] W (lG W F (fun b=>b=ga∨b=gb) (fun w'=>TtY c g1 ga gb bt w') (fun w'=>TtX ga gb W.heap.size V w') p kn (hZ (ttP c kn []))):=by
 obtain⟨Rr,hR⟩:∃Rr,ttP c kn []=Rr:=⟨_,rfl⟩
 rw[hR] at ht⊢
 obtain⟨⟨d1a,d1b⟩,dab,⟨d0a,d0b⟩,dta,dtb⟩:=hd
 obtain⟨x0,h2⟩:=hY.ha
 obtain⟨y0,h3⟩:=hY.hb
 have la:=ac h2
 have lb:=ac h3
 have L1:=hQQ hY.h1
 have KT:∀wr,Turned (fun b=>F b∨(b=ga∨b=gb)) W wr→(∃s,gq ga wr s)→(∃v,tV gb wr v)→TtY c g1 ga gb bt wr:=fun wr t a b =>
  ⟨(t.block g1 (ac hY.h1) (by rintro(z|z|z);exact n1 z;exact d1a z;exact d1b z)).trans hY.h1,a,b,hY.sz.keep t (by rintro(z|z|z);exact n0 z;exact d0a z;exact d0b z) (by rintro(z|z|z);exact nb z;exact dta z;exact dtb z)⟩
 have M0:MidV W W F (fun b=>b=ga∨b=gb) p kn n [] F:=MidV.begin hv (fZ _)
 have CT:=Ad R H hw hn F p kn [] W hv hk (fZ _) hY.sz n0 nb
 have GT:=nn R H hw
 have GA:=hQQ (oz R H hw (32 * c.pg).toNat c.us [])
 have NEED:Hq (∀x w2,Rr=.need x→eC w2 p x→Turned (fun b=>F b∨(b=ga∨b=gb)) W w2→(∃s,gq ga w2 s)→(∃v,tV gb w2 v)→lG W F (fun b=>b=ga∨b=gb) (fun w'=>TtY c g1 ga gb bt w') (fun w'=>TtX ga gb W.heap.size V w') p kn (hZ Rr) (.panicked (eT p)) w2):=hQQ fun x w2 e hd' ht' a b =>
  yW (pA e) hd' ht' (KT _ ht' a b)
 have DONE:Hq (∀(x:TS×List KV) w2 D F' v,Rr=.ok x D→MidV W w2 F (fun b=>b=ga∨b=gb) p kn n D F'→gq ga w2 x.1→tV gb w2 y0→¬F' gb→PRw W.heap.size w2 v x.2→lG W F (fun b=>b=ga∨b=gb) (fun w'=>TtY c g1 ga gb bt w') (fun w'=>TtX ga gb W.heap.size V w') p kn (hZ Rr) (.returned (.tuple #[])) (w2.setCell ⟨gb,0,none⟩ v)):=hQQ fun x w2 D F' v e h b2 b3 nf hp=>by
  obtain rfl:=ht x D e
  have hm:=h.box (b:=gb) (fun _=> .inr rfl) nf v b3
  have e3:tV gb (w2.setCell ⟨gb,0,none⟩ v) v:=uy b3 _
  have t3:Turned (fun k=>k=gb) w2 (w2.setCell ⟨gb,0,none⟩ v):=Turned.setCell (Turned.refl _ w2) _ _ (fun _=>rfl)
  have e2:gq ga (w2.setCell ⟨gb,0,none⟩ v) x.1:=(t3.block ga (ac b2) dab).trans b2
  exact yX hm (uz e) (KT _ hm.turn ⟨_,e2⟩ ⟨_,e3⟩) ⟨e2,v,e3,hp.keep t3 (fun k hk' z=>by subst z;omega)⟩
 have HRr:=hQQ (show aJ (qx c) (fun s=>aJ (Il c) (fun t=>aK (s,t))) kn []=Rr from hR)
 have KTH:=hQQ KT
 have ALN:=hQQ (fun W' F' D' (hv':bI W' F' p kn D') (hD':fy n D')=>Ks R H hw hn F' p kn D' W' hv' hk hD')
 have SZ0:=hQQ hY.sz
 clear ht KT hR
 go_enter Tryz.func22,Tryz.ntmps22
 go_wp2_with (refine cQ rfl rfl rfl L1.o (by kernel_rfl) ?_)
 refine CT.mono ?_
 intro e w4 he
 rcases M0.step (ae.refl _) hk GT he with⟨a',hE,rfl,hd',ht',hk4⟩|⟨x4,D4,F4,hE,rfl,M4,_,hk4,hn4⟩
 ·exact⟨rfl,NEED.o a' w4 (HRr.o.symm.trans (bK hE)) hd' ht' ⟨_,hk4 _ _ na h2⟩ ⟨_,hk4 _ _ nb' h3⟩⟩
 have R4:=hQQ ((bE hE).symm.trans HRr.o)
 have a4:gq ga w4 x0:=hk4 _ _ na h2
 have b4:tV gb w4 y0:=hk4 _ _ nb' h3
 have off4:∀k,k<W.heap.size→¬F k→¬F4 k:=fun k hk' nf z=>by
  rcases hn4 _ z with r|r
  ·exact nf r
  ·omega
 have nfa:¬F4 ga:=off4 _ la na
 have nfb:¬F4 gb:=off4 _ lb nb'
 have A4:=hQQ a4
 obtain⟨w5,e5⟩:∃w5,w4.setRow ga x4.arr=w5:=⟨_,rfl⟩
 have m5:=M4.setRow (b:=ga) (fun _=> .inl rfl) nfa x4.arr a4
 have a5:gq ga w5 x4:=by rw[←e5];exact setRow_heap w4 ga _ x4.arr _ _ a4
 have t5:Turned (fun k=>k=ga) w4 w5:=by rw[←e5];exact Turned.setRow (Turned.refl _ w4) _ _ (fun _=>rfl)
 rw[e5] at m5
 have b5:tV gb w5 y0:=(t5.block gb (ac b4) (fun z=>dab z.symm)).trans b4
 have y5:=KTH.o w5 m5.turn ⟨_,a5⟩ ⟨_,b5⟩
 have M5:=hQQ m5
 have L5:=hQQ y5.h1
 have A5:=hQQ a5
 have B5:=hQQ b5
 have AL5:=hQQ (ALN.o w5 F4 D4 m5.view m5.inv)
 clear he hE hk4 hn4 M4 a4 b4 off4 m5 a5 t5 b5 y5
 simp only[vTS]
 go_wp2_with (first|(refine wpList_store_row rfl 38 _ _ rfl ga x4.arr rfl rfl 38 _ A4.o (by kernel_rfl) rfl (fD _) ?_;rw[e5])|(refine cQ rfl rfl rfl L5.o (by kernel_rfl) ?_))
 clear e5
 refine AL5.o.mono ?_
 intro e w6 he
 rcases M5.o.stepR (ae.refl _) hk GA.o he with⟨a',hE,rfl,hd',ht',hk6⟩|⟨x6,D6,F6,v6,hE,rfl,hp6,M6,_,hk6,hn6⟩
 ·exact⟨rfl,NEED.o a' w6 (R4.o.symm.trans (bK hE)) hd' ht' ⟨_,hk6 _ _ nfa A5.o⟩ ⟨_,hk6 _ _ nfb B5.o⟩⟩
 have R6:=(bE hE).symm.trans R4.o
 have b6:tV gb w6 y0:=hk6 _ _ nfb B5.o
 have nf6:¬F6 gb:=fun z=>by
  rcases hn6 _ z with r|r
  ·exact nfb r
  ·have:=ac B5.o;omega
 obtain⟨a6,c6,rfl,_,_⟩:=hp6.1.reads
 have FIN:=hQQ (DONE.o (x4,x6) w6 D6 F6 _ R6.symm M6 (hk6 _ _ nfa A5.o) b6 nf6 (hp6.1.mono M5.o.size))
 obtain⟨y1,y2,_⟩:=bd b6
 clear he hE hk6 hn6 M6 b6 R6 hp6
 go_wp2_with fail
 go_end0
 exact FIN.o
theorem Kt {c:Cfg}(R:c.Ok){bt:Nat}(zs:List Int)(H:PgIn c.pg c.st zs.length)(hw:(zs.length:Int)=c.words)(hn:zs.length≤1000)(ok:OkW zs)(w:World)(g1 ga gb:Nat)(a:Option Addr)(cap:Nat)(hY:TtY c g1 ga gb bt w)(hd:(g1≠ga∧g1≠gb)∧ga≠gb∧(0≠ga∧0≠gb)∧bt≠ga∧bt≠gb)(hz:ig w a zs):
 Calls Tryz.prog 10 #[.slice a zs.length cap,.func (.func 22) #[] #[.pointer (some ⟨g1,0,none⟩),.pointer (some ⟨ga,0,none⟩),.pointer (some ⟨gb,0,none⟩)]] w (fun e w'=>∃v1 v2,e=.returned (.tuple #[v1,v2,.int .i64 0])∧TtX ga gb w.heap.size (tlV c zs,tlAll c zs) w'∧Turned (fun b=>b=ga∨b=gb) w w'):=by
 have l1:=ac hY.h1
 have la:ga<w.heap.size:=by obtain⟨x,h⟩:=hY.ha;exact ac h
 have lb:gb<w.heap.size:=by obtain⟨x,h⟩:=hY.hb;exact ac h
 have l0:=hY.sz.lt0
 have lt:=hY.sz.lt
 have G:=Im R H hw
 obtain⟨K',hK',_,hans⟩:=yR (zs:=zs) (Ga c) G ok (Io R H hw)
 have M:=FO a cap zs (fun K=>hZ (ttP c (look K) [])) (some (_,K')) zs.length w hz (by omega) ok (yQ G ok (by omega)) (by omega) hK' 22 #[.pointer (some ⟨g1,0,none⟩),.pointer (some ⟨ga,0,none⟩),.pointer (some ⟨gb,0,none⟩)] (fun k=>k=ga∨k=gb)
  (fun w'=>TtY c g1 ga gb bt w') (fun b w'=>TtX ga gb b (tlV c zs,tlAll c zs) w')
  (fun k z=>by rcases z with rfl|rfl<;>assumption)
  (fun w' w'' y t=>⟨(t.block g1 (ac y.h1) (by omega)).trans y.h1,by obtain⟨z,q⟩:=y.ha;exact⟨z,(t.block ga (ac q) (by omega)).trans q⟩,by obtain⟨z,q⟩:=y.hb;exact⟨z,(t.block gb (ac q) (by omega)).trans q⟩,y.sz.keep t (by omega) (by omega)⟩)
  (fun b w' w'' hb x t=>by
   obtain⟨x1,v,x2,x3⟩:=x
   exact⟨(t.block ga (ac x1) (by omega)).trans x1,v,(t.block gb (ac x2) (by omega)).trans x2,x3.keep t (by omega)⟩) hY (enters_of Tryz.func22 (by kernel_rfl) rfl)
  (fun K hK W F p t y hv hF=>JH R H hw (by omega) F p g1 ga gb (look K) W hv (sx hK ok) y (fun q=>by have:=hF _ q;omega) (fun q=>by have:=hF _ q;omega) (fun q=>by have:=hF _ q;omega) (fun q=>by have:=hF _ q;omega) (fun q=>by have:=hF _ q;omega) hd _
   (fun x D e=>hans K hK x D e))
 refine M.mono ?_
 rintro e w' ⟨v1,v2,b,rfl,r1,_,t,y,hb,x1,v,x2,x3⟩
 exact⟨v1,v2,rfl,⟨x1,v,x2,x3.mono hb⟩,t⟩
def dG (f:Int→Int):Nat→Int→Int
 | 0,_=>0
 |m+1,a=>f a+dG f m (a+1)
theorem gZ (f:Int→Int):∀(m k:Nat) (a:Int),dG f (m+k) a=dG f m a+dG f k (a+m)
 | 0,k,a=>by simp[dG]
 |m+1,k,a=>by
  rw[show m+1+k=(m+k)+1 by omega]
  show f a+dG f (m+k) (a+1)=f a+dG f m (a+1)+dG f k (a+((m+1:Nat):Int))
  rw[gZ f m k (a+1),show a+1+(m:Int)=a+((m+1:Nat):Int) by omega]
  omega
theorem ms (f:Int→Int)(v:Int):∀(m:Nat) (a:Int),(∀d:Int,0≤d→d<m→f (a+d)=v)→dG f m a=v * m
 | 0,_,_=>by simp[dG]
 |m+1,a,h=>by
  show f a+dG f m (a+1)=v * ((m+1:Nat):Int)
  have h0:=h 0 (by omega) (by omega)
  rw[Int.add_zero] at h0
  rw[h0,ms f v m (a+1) (fun d d0 d1=>by have:=h (d+1) (by omega) (by omega);rwa [show a+(d+1)=a+1+d by omega] at this),show(((m+1:Nat):Int))=(m:Int)+1 by omega,Int.mul_add,Int.mul_one]
  omega
theorem ly (f:Int→Int)(m:Nat)(a:Int)(h:∀d:Int,0≤d→d<m→f (a+d)=0):dG f m a=0:=by
 rw[ms f 0 m a h,Int.zero_mul]
theorem nB (f:Int→Int){m:Nat}(a:Int)(hm:1≤m)(h:∀d:Int,0<d→d<m→f (a+d)=0):dG f m a=f a:=by
 obtain⟨k,rfl⟩:∃k,m=k+1:=⟨m-1,by omega⟩
 show f a+dG f k (a+1)=f a
 rw[ly f k (a+1) (fun d d0 d1=>by have:=h (d+1) (by omega) (by omega);rwa [show a+(d+1)=a+1+d by omega] at this)]
 omega
theorem ss (f:Int→Int)(j:Nat)(a:Int):dG f (j+1) a=dG f j a+f (a+j):=by
 rw[gZ];show _+(f (a+j)+0)=_;omega
def fL (c:Cfg)(ws:List Int)(a:Int):Int:=if(dV (aX c a) ws).2 then 1 else 0
def fV (c:Cfg)(ws:List Int)(a:Int):Int:=(dV (aX c a) ws).1
def ju:List KV→Int
 | []=>0
 |p::l=>p.2+ju l
theorem oC (p:KV):∀l:List KV,ju (l++ [p])=ju l+p.2
 | []=>by simp[ju]
 |q::l=>by show q.2+ju (l++ [p])=q.2+ju l+p.2;rw[oC p l];omega
theorem tW {la:Int}{ws:List Int}(h:(dV la ws).2=false):(dV la ws).1=0:=by
 unfold dV at h⊢
 split
 ·rfl
 ·rename_i q;rw[if_neg q] at h;cases h
theorem Gb (la:Int)(ws:List Int):0≤(dV la ws).1∧(dV la ws).1≤1048576:=by
 unfold dV
 split
 ·simp
 ·simp only;omega
theorem Al (c:Cfg)(ws:List Int):∀(m:Nat) (a:Int) (l:List KV),((tlAllN c ws m a l).length:Int)=l.length+dG (fL c ws) m a
 | 0,a,l=>by simp[tlAllN,dG]
 |m+1,a,l=>by
  show((tlAllN c ws m (a+1) (if(dV (aX c a) ws).2 then l++ [(a,(dV (aX c a) ws).1)] else l)).length:Int)=(l.length:Int)+((if(dV (aX c a) ws).2 then 1 else 0)+dG (fL c ws) m (a+1))
  rw[Al c ws m]
  cases (dV (aX c a) ws).2<;>simp<;>omega
theorem Am (c:Cfg)(ws:List Int):∀(m:Nat) (a:Int) (l:List KV),ju (tlAllN c ws m a l)=ju l+dG (fV c ws) m a
 | 0,a,l=>by simp[tlAllN,dG]
 |m+1,a,l=>by
  show ju (tlAllN c ws m (a+1) (if(dV (aX c a) ws).2 then l++ [(a,(dV (aX c a) ws).1)] else l))=ju l+((dV (aX c a) ws).1+dG (fV c ws) m (a+1))
  rw[Am c ws m]
  cases h:(dV (aX c a) ws).2 with
  |true=>rw[if_pos rfl,oC];simp only;omega
  |false=>rw[if_neg (by simp),tW h];omega
theorem II (c:Cfg)(ws:List Int):∀(m:Nat) (a:Int) (l:List KV),(∀p∈l,0≤p.2∧p.2≤1048576)→∀p∈tlAllN c ws m a l,0≤p.2∧p.2≤1048576
 | 0,a,l,h=>h
 |m+1,a,l,h=>by
  refine II c ws m (a+1) _ ?_
  cases (dV (aX c a) ws).2 with
  |false=>exact h
  |true =>
   intro p hp
   rw[if_pos rfl] at hp
   rcases List.mem_append.1 hp with q|q
   ·exact h p q
   ·obtain rfl:=List.mem_singleton.1 q
    exact Gb _ _
section
variable {c:Cfg}(R:c.Ok){n:Nat}(H:cB c.pg c.st n)(hw:(n:Int)=c.words)(hn:n≤1000){s:LSt}{ws:List Int}{r:Gh}{O:List (Int×Int)}{RL:List Int}(h:LdI c n s ws r O RL)
include R H hw hn h
theorem Ku {q i:Int}(hq:af c.pg q=true)(i0:0≤i)(i1:i<32):
 (fL c ws (c.us+32 * q+i)=0∧fV c ws (c.us+32 * q+i)=0)∨(fL c ws (c.us+32 * q+i)=1∧0≤fV c ws (c.us+32 * q+i)∧((∃(k:Int) (j:Nat),0≤k∧k≤4∧(j:Int)<ao k∧aj c.pg c.st ws q=k+1∧cK (bz c.pg c.st ws q) j=true∧i=j * szV k∧fV c ws (c.us+32 * q+i)≤szV k)∨(aj c.pg c.st ws q=6∧i=0∧fV c ws (c.us+32 * q+i)≤32 * aL c.pg c.st ws q))):=by
 obtain⟨C,hF⟩:=h.fri
 obtain⟨G,PW⟩:=hF.pgs
 have hp:=ag.1 hq
 have ew:c.words=c.us+32 * c.pg:=rfl
 have pg2:=R.pg2
 have hlv:=jV R
 obtain⟨a,ea⟩:∃a,c.us+32 * q+i=a:=⟨_,rfl⟩
 rw[ea]
 have a0:c.us≤a:=by omega
 have a1:a<c.words:=by omega
 have hl:=ns a0 a1
 have hv:wAt ws (aX c a)=r.z (aX c a):=hF.rest _ (by rw[h.top];omega)
 have hm:=h.mark a a0 a1
 rw[←hv] at hm
 rcases hm with z|⟨z1,z2⟩
 ·have e:dV (aX c a) ws=(0,false):=if_pos (.inr (.inl (by omega)))
  exact .inl ⟨by unfold fL;rw[e];rfl,by unfold fV;rw[e]⟩
 ·have key:wAt ws (aX c a)≤1048577→dV (aX c a) ws=(wAt ws (aX c a)-1,true):=fun q=>if_neg (by omega)
  refine .inr ?_
  rcases z2 with⟨k,hk,hz⟩|⟨p,hp',e',hz⟩
  ·have tk:=(hF.acc a k).2 (by simp[hk])
   obtain⟨q',j,hq',k0,k4,hj,ek,hb,e⟩:=(fg H PW).1 tk
   obtain⟨s1,s2,s3⟩:=szj k0 k4 hj
   have e2:q'=q:=by have:=ag.1 hq';omega
   subst e2
   have:=Jr k
   have e3:=key (by omega)
   have e4:fV c ws a=wAt ws (aX c a)-1:=by unfold fV;rw[e3]
   exact⟨by unfold fL;rw[e3];rfl,by omega,.inl ⟨k,j,k0,k4,hj,ek,hb,by omega,by omega⟩⟩
  ·obtain⟨hpg,hr⟩:=(h.run p).1 hp'
   have e2:p=q:=by have:=ag.1 hpg;omega
   subst e2
   have h6:aj c.pg c.st ws p=6:=Classical.byContradiction fun q=>hr ((hF.runs p hpg).2 q)
   have h7:=(hF.runs p hpg).1 h6
   have:=PW.f.wf.run p h6
   have e3:=key (by omega)
   have e4:fV c ws a=wAt ws (aX c a)-1:=by unfold fV;rw[e3]
   exact⟨by unfold fL;rw[e3];rfl,by omega,.inr ⟨h6,by omega,by omega⟩⟩
end
structure BlT (c:Cfg)(ws:List Int)(t:TS)(b:Int)(l:Nat):Prop where
 bl:t.bl=dG (fL c ws) l b
 ak:t.ak=dG (fV c ws) l b
 ge:0≤t.bl∧0≤t.ak∧0≤t.wo∧0≤t.ke∧0≤t.op
 le:t.ak≤t.wo∧t.bl≤t.wo
 sum:t.wo+t.ke+t.op=l
 z:t.ma=0∧t.us=0
theorem BlT.add {c:Cfg}{ws:List Int}{t u:TS}{b:Int}{l m:Nat}(h:BlT c ws t b l)(g:BlT c ws u (b+l) m):BlT c ws (du t u) b (l+m):=by
 obtain⟨a1,a2,a3,a4,a5,a6⟩:=h
 obtain⟨b1,b2,b3,b4,b5,b6⟩:=g
 refine⟨?_,?_,?_,?_,?_,?_⟩
 ·rw[gZ];show t.bl+u.bl=_;omega
 ·rw[gZ];show t.ak+u.ak=_;omega
 all_goals simp only[du]
 all_goals omega
theorem wM (c:Cfg)(ws:List Int)(b:Int):BlT c ws noT b 0:=⟨rfl,rfl,by simp[noT],by simp[noT],rfl,by simp[noT]⟩
theorem wN (c:Cfg)(a:Int)(ws:List Int)(x:Int)(zn N:Nat)(hz:1≤zn∧zn≤16)(hN:N≤32)(ha:0≤a∧a≤100000)
 (HB:∀j:Nat,j<N→(∀d:Int,0<d→d<zn→fL c ws (a+zn * j+d)=0∧fV c ws (a+zn * j+d)=0)∧(cK x j=false→fL c ws (a+zn * j)=0∧fV c ws (a+zn * j)=0)∧fV c ws (a+zn * j)≤zn):
 ∀(m j:Nat),j+m≤N→BlT c ws (qZ c a zn ws x m j) (a+zn * j) (zn * m)
 | 0,j,_=>wM c ws _
 |m+1,j,hj=>by
  have ih:=wN c a ws x zn N hz hN ha HB m (j+1) (by omega)
  obtain⟨h1,h2,h3⟩:=HB j (by omega)
  have nb:zn * j≤16 * 32:=Nat.mul_le_mul hz.2 (by omega)
  have nb2:(zn:Int) * (j:Int)≤512:=by have:((zn * j:Nat):Int)≤512:=by omega
                                      simpa using this
  have nb0:0≤(zn:Int) * (j:Int):=by have:0≤((zn * j:Nat):Int):=by omega
                                    simpa using this
  have sl:dG (fL c ws) zn (a+zn * j)=fL c ws (a+zn * j):=nB _ _ hz.1 (fun d d0 d1=>(h1 d d0 d1).1)
  have sv:dG (fV c ws) zn (a+zn * j)=fV c ws (a+zn * j):=nB _ _ hz.1 (fun d d0 d1=>(h1 d d0 d1).2)
  have P:BlT c ws (tR c a zn ws x (j:Int)) (a+zn * j) zn:=by
   unfold tR
   cases hb:cK x (j:Int) with
   |false =>
    obtain⟨g1,g2⟩:=h2 hb
    rw[if_neg (by simp)]
    exact⟨by rw[sl,g1];rfl,by rw[sv,g2];rfl,by simp only[opZ];omega,by simp only[opZ];omega,by simp only[opZ];omega,⟨rfl,rfl⟩⟩
   |true =>
    rw[if_pos rfl]
    have e:wrap64 (a+wrap64 ((zn:Int) * (j:Int)))=a+zn * j:=by
     generalize (zn:Int) * (j:Int)=y at nb2 nb0
     unfold wrap64;omega
    unfold tkI gk
    rw[e]
    have sb:=Gb (aX c (a+zn * j)) ws
    have e1:fV c ws (a+zn * j)=(dV (aX c (a+zn * j)) ws).1:=rfl
    unfold vX
    cases hy:(dV (aX c (a+zn * j)) ws).2 with
    |true =>
     have e2:fL c ws (a+zn * j)=1:=by unfold fL;rw[hy];rfl
     rw[if_pos rfl]
     exact⟨by rw[sl,e2],by rw[sv,e1],by simp only;omega,by simp only;omega,by simp only;omega,⟨rfl,rfl⟩⟩
    |false =>
     have e2:fL c ws (a+zn * j)=0:=by unfold fL;rw[hy];rfl
     have e3:=tW hy
     rw[if_neg (by simp)]
     exact⟨by rw[sl,e2],by rw[sv,e1,e3],by simp only;omega,by simp only;omega,by simp only;omega,⟨rfl,rfl⟩⟩
  have:=P.add (m:=zn * m) (u:=qZ c a zn ws x m (((j+1:Nat):Int))) (by
   rw[show a+(zn:Int) * (j:Int)+(zn:Int)=a+(zn:Int) * ((j+1:Nat):Int) by rw[show(((j+1:Nat):Int))=(j:Int)+1 by omega,Int.mul_add,Int.mul_one];omega]
   exact ih)
  rw[show zn * (m+1)=zn+zn * m by rw[Nat.mul_add,Nat.mul_one];omega]
  exact this
def wtI (c:Cfg)(ws:List Int)(q:Int):Int:=if aj c.pg c.st ws q=6 then aL c.pg c.st ws q else if 1≤aj c.pg c.st ws q∧aj c.pg c.st ws q≤5 then 1 else 0
def usI (c:Cfg)(ws:List Int)(q:Int):Int:=b2i (aj c.pg c.st ws q != 0)
theorem Ao (b:Bool):0≤b2i b∧b2i b≤1:=by cases b<;>decide
structure PgT (c:Cfg)(ws:List Int)(q:Int)(t:TS):Prop where
 bl:t.bl=dG (fL c ws) 32 (c.us+32 * q)
 ak:t.ak=dG (fV c ws) 32 (c.us+32 * q)
 ge:0≤t.bl∧0≤t.ak∧0≤t.wo∧0≤t.ke∧0≤t.op
 le:t.ak≤t.wo∧t.bl≤t.wo
 sum:t.wo+t.ke+t.op=32 * wtI c ws q
 us:t.us=usI c ws q
 ma:t.us≤t.ma∧t.ma≤1
theorem PgT.of {c:Cfg}{ws:List Int}{q:Int}{m u:Int}{t:TS}{l:Nat}(h:BlT c ws t (c.us+32 * q) l)(hl:(l:Int)=32 * wtI c ws q)(e1:dG (fL c ws) l (c.us+32 * q)=dG (fL c ws) 32 (c.us+32 * q))(e2:dG (fV c ws) l (c.us+32 * q)=dG (fV c ws) 32 (c.us+32 * q))(hu:u=usI c ws q)(hm:u≤m∧m≤1):PgT c ws q (du ⟨0,0,0,0,0,m,u⟩ t):=by
 obtain⟨a1,a2,a3,a4,a5,a6⟩:=h
 refine⟨?_,?_,?_,?_,?_,?_,?_⟩<;>simp only[du]<;>omega
theorem wO {t:TS}(h1:0≤t.bl∧t.bl≤1000000)(h2:0≤t.ak∧t.ak≤1000000)(h3:0≤t.wo∧t.wo≤1000000)(h4:0≤t.ke∧t.ke≤1000000)(h5:0≤t.op∧t.op≤1000000)(h6:0≤t.ma∧t.ma≤1000000)(h7:0≤t.us∧t.us≤1000000):wrT t=t:=by
 unfold wrT
 rw[eR (by omega) (by omega),eR (by omega) (by omega),eR (by omega) (by omega),eR (by omega) (by omega),eR (by omega) (by omega),eR (by omega) (by omega),eR (by omega) (by omega)]
theorem PgT.wr {c:Cfg}{ws:List Int}{q:Int}{t:TS}(h:PgT c ws q t)(hw:wtI c ws q≤1000):wrT t=t:=by
 have hu:=Ao (aj c.pg c.st ws q != 0)
 obtain⟨a1,a2,a3,a4,a5,a6,a7⟩:=h
 have a6':t.us=b2i (aj c.pg c.st ws q != 0):=a6
 exact wO (by omega) (by omega) (by omega) (by omega) (by omega) (by omega) (by omega)
theorem Gc {k:Int}(k0:0≤k)(k4:k≤4):∃zn N:Nat,szV k=(zn:Int)∧ao k=(N:Int)∧1≤zn∧zn≤16∧N≤32∧zn * N=32:=by
 have h:k=0∨k=1∨k=2∨k=3∨k=4:=by omega
 rcases h with rfl|rfl|rfl|rfl|rfl
 ·exact⟨1,32,rfl,rfl,by decide,by decide,by decide,rfl⟩
 ·exact⟨2,16,rfl,rfl,by decide,by decide,by decide,rfl⟩
 ·exact⟨4,8,rfl,rfl,by decide,by decide,by decide,rfl⟩
 ·exact⟨8,4,rfl,rfl,by decide,by decide,by decide,rfl⟩
 ·exact⟨16,2,rfl,rfl,by decide,by decide,by decide,rfl⟩
theorem wP {z i j d:Int}(hz:1≤z)(h0:0<d)(h1:d<z)(e:z * i+d=j * z):False:=by
 have e2:d=z * (j-i):=by rw[Int.mul_sub,Int.mul_comm z j];omega
 by_cases q:j-i≤0
 ·have:=Int.mul_le_mul_of_nonneg_left q (show 0≤z by omega)
  rw[Int.mul_zero] at this
  omega
 ·have:=Int.mul_le_mul_of_nonneg_left (show 1≤j-i by omega) (show 0≤z by omega)
  rw[Int.mul_one] at this
  omega
section
variable {c:Cfg}(R:c.Ok){n:Nat}(H:cB c.pg c.st n)(hw:(n:Int)=c.words)(hn:n≤1000){s:LSt}{ws:List Int}{r:Gh}{O:List (Int×Int)}{RL:List Int}(h:LdI c n s ws r O RL)
include R H hw hn h
theorem Kv (q:Int):0≤wtI c ws q∧wtI c ws q≤1000:=by
 obtain⟨C,hF⟩:=h.fri
 obtain⟨G,PW⟩:=hF.pgs
 have pg2:=R.pg2
 unfold wtI
 by_cases h6:aj c.pg c.st ws q=6
 ·rw[if_pos h6]
  have hp:af c.pg q=true:=by
   cases e:af c.pg q with
   |true=>rfl
   |false=>simp[aj,e] at h6
  have:=ag.1 hp
  have:=PW.f.wf.run q h6
  omega
 ·rw[if_neg h6];split<;>omega
theorem KH {q:Int}(hq:af c.pg q=true):PgT c ws q (rPg c q ws):=by
 have MK:=fun i (i0:0≤i) (i1:i<32)=>Ku R H hw hn h hq i0 i1
 have wb:=Kv R H hw hn h q
 obtain⟨C,hF⟩:=h.fri
 obtain⟨G,PW⟩:=hF.pgs
 have hp:=ag.1 hq
 have pg2:=R.pg2
 have usb:=eS R
 have eus:c.us=bH c.cp c.pg c.st c.ca c.bi:=rfl
 have kb:=PW.f.wf.b q hq
 have eo:ofV q=q / 4:=if_neg (by omega)
 have mb:=Ao (aG c.pg c.st ws (ofV q))
 have ub:=Ao (aj c.pg c.st ws q != 0)
 have um:b2i (aj c.pg c.st ws q != 0)≤b2i (aG c.pg c.st ws (ofV q)):=by
  by_cases k0:aj c.pg c.st ws q=0
  ·rw[k0];show(0:Int)≤_;omega
  ·rw[eo,PW.f.wf.map q hq k0];show _≤(1:Int);omega
 have run:=PW.f.wf.run q
 unfold rPg
 rw[if_neg (by omega)]
 generalize b2i (aG c.pg c.st ws (ofV q))=m at mb um
 obtain⟨u,hu⟩:∃u,b2i (aj c.pg c.st ws q != 0)=u:=⟨_,rfl⟩
 rw[hu] at ub um⊢
 have hu2:u=usI c ws q:=hu.symm
 clear hF PW C G run usb
 have usb:=eS R
 have s0:wrT (⟨0,0,0,0,0,m,u⟩:TS)=⟨0,0,0,0,0,m,u⟩:=wO (by simp only;omega) (by simp only;omega) (by simp only;omega) (by simp only;omega) (by simp only;omega) (by simp only;omega) (by simp only;omega)
 by_cases h6:aj c.pg c.st ws q=6
 ·unfold Hx
  rw[if_pos h6]
  have ew:wtI c ws q=aL c.pg c.st ws q:=if_pos h6
  have ec:wAt ws (cA c.pg c.st q)=aL c.pg c.st ws q:=rfl
  rw[ec,yB]
  have cb:1≤aL c.pg c.st ws q:=by
   obtain⟨C,hF⟩:=h.fri
   obtain⟨G,PW⟩:=hF.pgs
   exact(PW.f.wf.run q h6).1
  generalize aL c.pg c.st ws q=x at ew MK cb
  rw[eR (by omega) (by omega)]
  have zz:∀d:Int,0<d→d<(32:Nat)→fL c ws (c.us+32 * q+d)=0∧fV c ws (c.us+32 * q+d)=0:=fun d d0 d1=>by
   rcases MK d (by omega) (by omega) with z|⟨_,_,⟨k,j,k0,k4,_,ek,_⟩|⟨_,e,_⟩⟩
   ·exact z
   ·omega
   ·omega
  have sl:dG (fL c ws) 32 (c.us+32 * q)=fL c ws (c.us+32 * q):=nB _ _ (by decide) (fun d d0 d1=>(zz d d0 d1).1)
  have sv:dG (fV c ws) 32 (c.us+32 * q)=fV c ws (c.us+32 * q):=nB _ _ (by decide) (fun d d0 d1=>(zz d d0 d1).2)
  have m0:=MK 0 (by omega) (by omega)
  rw[Int.add_zero] at m0
  have P:PgT c ws q (du ⟨0,0,0,0,0,m,u⟩ (gk c (c.us+32 * q) (32 * x) ws)):=by
   have e1:fV c ws (c.us+32 * q)=(dV (aX c (c.us+32 * q)) ws).1:=rfl
   unfold gk vX
   cases hy:(dV (aX c (c.us+32 * q)) ws).2 with
   |true =>
    have e2:fL c ws (c.us+32 * q)=1:=by unfold fL;rw[hy];rfl
    have vb:0≤fV c ws (c.us+32 * q)∧fV c ws (c.us+32 * q)≤32 * x:=by
     rcases m0 with z|⟨_,b,⟨k,j,k0,k4,_,ek,_⟩|⟨_,_,e⟩⟩<;>omega
    rw[if_pos rfl]
    refine⟨?_,?_,?_,?_,?_,?_,?_⟩<;>simp only[du]<;>omega
   |false =>
    have e2:fL c ws (c.us+32 * q)=0:=by unfold fL;rw[hy];rfl
    have e3:=tW hy
    rw[if_neg (by simp)]
    refine⟨?_,?_,?_,?_,?_,?_,?_⟩<;>simp only[du]<;>omega
  rw[P.wr wb.2]
  exact P
 ·unfold Hx
  rw[if_neg h6,tS _ _ _ _ _ _ _ _ s0]
  have ex:wAt ws (bA c.pg c.st q)=bz c.pg c.st ws q:=rfl
  rw[ex]
  have fin:∀t,PgT c ws q (du ⟨0,0,0,0,0,m,u⟩ t)→PgT c ws q (wrT (du ⟨0,0,0,0,0,m,u⟩ t)):=fun t P=>by rw[P.wr wb.2];exact P
  refine fin _ ?_
  by_cases h15:1≤aj c.pg c.st ws q∧aj c.pg c.st ws q≤5
  ·have ew:wtI c ws q=1:=by unfold wtI;rw[if_neg h6,if_pos h15]
   obtain⟨zn,N,ez,eN,z1,z2,N2,zN⟩:=Gc (k:=aj c.pg c.st ws q-1) (by omega) (by omega)
   rw[ez,eN,show((N:Int)).toNat=N by simp]
   have B:=wN c (c.us+32 * q) ws (bz c.pg c.st ws q) zn N ⟨z1,z2⟩ N2 (by omega) (fun j hj=>by
    have hj1:zn * j+zn≤32:=by
     rw[←zN,show zn * j+zn=zn * (j+1) by rw[Nat.mul_add,Nat.mul_one]]
     exact Nat.mul_le_mul_left _ hj
    obtain⟨y,ey⟩:∃y:Nat,zn * j=y:=⟨_,rfl⟩
    have ey2:(zn:Int) * (j:Int)=(y:Int):=by rw[←ey];simp
    rw[ey] at hj1
    rw[ey2]
    refine⟨fun d d0 d1=>?_,fun hb=>?_,?_⟩
    ·rw[Int.add_assoc]
     rcases MK (y+d) (by omega) (by omega) with z|⟨_,_,⟨k,j',k0,k4,hj',ek,hb',e,_⟩|⟨e,_⟩⟩
     ·exact z
     ·have ek2:aj c.pg c.st ws q-1=k:=by omega
      rw[ek2] at ez
      rw[ez,←ey2] at e
      exact(wP (by omega) d0 d1 e).elim
     ·omega
    ·rcases MK y (by omega) (by omega) with z|⟨_,_,⟨k,j',k0,k4,hj',ek,hb',e,_⟩|⟨e,_⟩⟩
     ·exact z
     ·have ek2:aj c.pg c.st ws q-1=k:=by omega
      rw[ek2] at ez
      rw[ez,←ey2,Int.mul_comm] at e
      have ej:(j:Int)=j':=Int.eq_of_mul_eq_mul_right (by omega) e
      rw[ej] at hb
      rw[hb] at hb'
      cases hb'
     ·omega
    ·rcases MK y (by omega) (by omega) with z|⟨_,_,⟨k,j',k0,k4,hj',ek,hb',e,e'⟩|⟨e,_⟩⟩
     ·omega
     ·have ek2:aj c.pg c.st ws q-1=k:=by omega
      rw[ek2] at ez
      omega
     ·omega) N 0 (by omega)
   rw[zN,show c.us+32 * q+(zn:Int) * ((0:Nat):Int)=c.us+32 * q by simp] at B
   exact PgT.of B (by rw[ew];rfl) rfl rfl hu2 ⟨um,by omega⟩
  ·have ew:wtI c ws q=0:=by unfold wtI;rw[if_neg h6,if_neg h15]
   have e0:ao (aj c.pg c.st ws q-1)=0:=iX (by omega)
   rw[e0]
   have zz:∀d:Int,0≤d→d<(32:Nat)→fL c ws (c.us+32 * q+d)=0∧fV c ws (c.us+32 * q+d)=0:=fun d d0 d1=>by
    rcases MK d (by omega) (by omega) with z|⟨_,_,⟨k,j,k0,k4,_,ek,_⟩|⟨e,_⟩⟩
    ·exact z
    ·omega
    ·omega
   exact PgT.of (l:=0) (wM c ws _) (by rw[ew];rfl) (by rw[ly _ 32 _ (fun d d0 d1=>(zz d d0 d1).1)];rfl) (by rw[ly _ 32 _ (fun d d0 d1=>(zz d d0 d1).2)];rfl) hu2 ⟨um,by omega⟩
end
theorem wQ (c:Cfg)(ws:List Int):∀(m:Nat) (a:Int),dG (fL c ws) m a≤m
 | 0,a=>Int.le_refl _
 |m+1,a=>by
  have:=wQ c ws m (a+1)
  show fL c ws a+dG (fL c ws) m (a+1)≤_
  have:fL c ws a≤1:=by unfold fL;split<;>decide
  omega
theorem tX {c:Cfg}{ws:List Int}(W:Wf c.pg c.st ws):∀(N m:Nat) (p:Int),m≤N→0≤p→p+m=c.pg→aj c.pg c.st ws p≠7→dG (wtI c ws) m p=dG (usI c ws) m p
 | 0,m,p,hN,h0,hm,h7=>by
   obtain rfl:m=0:=by omega
   rfl
 |N+1,0,p,hN,h0,hm,h7=>rfl
 |N+1,m+1,p,hN,h0,hm,h7=>by
  have hq:af c.pg p=true:=ag.2 ⟨h0,by omega⟩
  have kb:=W.b p hq
  by_cases h6:aj c.pg c.st ws p=6
  ·obtain⟨r1,r2,r3,r4⟩:=W.run p h6
   have e6:wtI c ws p=aL c.pg c.st ws p:=if_pos h6
   obtain⟨t,ht⟩:∃t:Nat,aL c.pg c.st ws p=(t:Int)+1:=⟨(aL c.pg c.st ws p-1).toNat,by omega⟩
   rw[ht] at r2 r3 r4 e6
   obtain⟨l,hl⟩:∃l,m+1=(t+1)+l:=⟨m-t,by omega⟩
   rw[hl,gZ (wtI c ws) (t+1) l p,gZ (usI c ws) (t+1) l p,tX W N l _ (by omega) (by omega) (by omega) (by rw[show p+((t+1:Nat):Int)=p+((t:Int)+1) by omega];exact r4)]
   congr 1
   show wtI c ws p+dG (wtI c ws) t (p+1)=_
   rw[ly _ t (p+1) (fun d d0 d1=>by
    have:=r3 (p+1+d) (by omega) (by omega)
    unfold wtI;rw[if_neg (by omega),if_neg (by omega)]),ms _ 1 (t+1) p (fun d d0 d1=>by
    have k0:aj c.pg c.st ws (p+d)≠0:=by
     by_cases e:d=0
     ·rw[e,Int.add_zero];omega
     ·have:=r3 (p+d) (by omega) (by omega);omega
    unfold usI
    rw[show(aj c.pg c.st ws (p+d) != 0)=true by simp[k0]];rfl)]
   omega
  ·have e1:wtI c ws p=usI c ws p:=by
    unfold wtI usI
    rw[if_neg h6]
    by_cases k0:aj c.pg c.st ws p=0
    ·rw[k0,if_neg (by omega)];rfl
    ·rw[if_pos (by omega),show(aj c.pg c.st ws p != 0)=true by simp[k0]];rfl
   show wtI c ws p+dG (wtI c ws) m (p+1)=usI c ws p+dG (usI c ws) m (p+1)
   rw[e1,tX W N m (p+1) (by omega) (by omega) (by omega) (fun e=>by
    have:=W.rest (p+1) e
    rw[show p+1-1=p by omega] at this
    omega)]
structure FoT (c:Cfg)(ws:List Int)(j:Nat)(t:TS):Prop where
 bl:t.bl=dG (fL c ws) (32 * j) c.us
 ak:t.ak=dG (fV c ws) (32 * j) c.us
 ge:0≤t.bl∧0≤t.ak∧0≤t.wo∧0≤t.ke∧0≤t.op
 le:t.ak≤t.wo∧t.bl≤t.wo
 sum:t.wo+t.ke+t.op=32 * dG (wtI c ws) j 0
 us:t.us=dG (usI c ws) j 0
 ma:0≤t.us∧t.us≤t.ma∧t.ma≤j
 wb:dG (wtI c ws) j 0≤1000 * j
theorem FoT.add {c:Cfg}{ws:List Int}{j:Nat}{s t:TS}(h:FoT c ws j s)(g:PgT c ws j t)(wb:wtI c ws j≤1000)(hj:j≤1000):FoT c ws (j+1) (eF s t):=by
 obtain⟨a1,a2,a3,a4,a5,a6,a7,a8⟩:=h
 obtain⟨b1,b2,b3,b4,b5,b6,b7⟩:=g
 have ub:=Ao (aj c.pg c.st ws j != 0)
 have eu:usI c ws j=b2i (aj c.pg c.st ws j != 0):=rfl
 have S1:=ss (wtI c ws) j 0
 have S2:=ss (usI c ws) j 0
 have S3:=gZ (fL c ws) (32 * j) 32 c.us
 have S4:=gZ (fV c ws) (32 * j) 32 c.us
 rw[Int.zero_add] at S1 S2
 rw[show c.us+((32 * j:Nat):Int)=c.us+32 * (j:Int) by omega,show 32 * j+32=32 * (j+1) by omega] at S3 S4
 rw[Cz ((iq _ _).2 ⟨by omega,by omega,by omega,by omega,by omega,by omega,by omega⟩) ((iq _ _).2 ⟨by omega,by omega,by omega,by omega,by omega,by omega,by omega⟩) ((js _ _).2 ⟨by omega,by omega,by omega,by omega,by omega,by omega,by omega⟩) ((js _ _).2 ⟨by omega,by omega,by omega,by omega,by omega,by omega,by omega⟩)]
 refine⟨?_,?_,?_,?_,?_,?_,?_,?_⟩<;>(try simp only)<;>omega
section
variable {c:Cfg}(R:c.Ok){n:Nat}(H:cB c.pg c.st n)(hw:(n:Int)=c.words)(hn:n≤1000){s:LSt}{ws:List Int}{r:Gh}{O:List (Int×Int)}{RL:List Int}(h:LdI c n s ws r O RL)
include R H hw hn h
theorem Gd:∀(m j:Nat) (t:TS),(j:Int)+m=c.pg→FoT c ws j t→FoT c ws (j+m) (wF c ws m j t)
 | 0,j,t,_,g=>g
 |m+1,j,t,hj,g=>by
  have ew:c.words=c.us+32 * c.pg:=rfl
  have usb:=eS R
  have eus:c.us=bH c.cp c.pg c.st c.ca c.bi:=rfl
  have:=Gd m (j+1) (eF t (rPg c j ws)) (by omega) (g.add (KH R H hw hn h (ag.2 ⟨by omega,by omega⟩)) (Kv R H hw hn h _).2 (by omega))
  rw[show j+(m+1)=j+1+m by omega]
  exact this
theorem Ge:mr (tlV c ws)=true∧(tlV c ws).bl=(tlAll c ws).length∧(tlV c ws).ak=ju (tlAll c ws)∧(tlV c ws).us≤c.pg∧(tlAll c ws).length≤1000∧∀p∈tlAll c ws,0≤p.2∧p.2≤1048576:=by
 have ew:c.words=c.us+32 * c.pg:=rfl
 have usb:=eS R
 have eus:c.us=bH c.cp c.pg c.st c.ca c.bi:=rfl
 have pg1:=R.pg1
 obtain⟨m,hm⟩:∃m:Nat,c.pg=(m:Int):=⟨c.pg.toNat,by omega⟩
 have F:=Gd R H hw hn h m 0 noT (by omega) ⟨rfl,rfl,⟨Int.le_refl 0,Int.le_refl 0,Int.le_refl 0,Int.le_refl 0,Int.le_refl 0⟩,⟨Int.le_refl 0,Int.le_refl 0⟩,rfl,rfl,⟨Int.le_refl 0,Int.le_refl 0,Int.le_refl 0⟩,Int.le_refl 0⟩
 obtain⟨C,hF⟩:=h.fri
 obtain⟨G,PW⟩:=hF.pgs
 have e1:tlV c ws=wF c ws m 0 noT:=by
  rw[Jv c ws (fun q hq=>(PW.f.wf.b q hq).1)]
  unfold rTl
  rw[hm];simp
 have sc:=tX PW.f.wf m m 0 (Nat.le_refl _) (by omega) (by omega) (fun e=>by
  have:=PW.f.wf.rest 0 e
  simp[aj,af] at this)
 rw[Nat.zero_add] at F
 have L:=Al c ws (32 * m) c.us []
 have V:=Am c ws (32 * m) c.us []
 have B:=II c ws (32 * m) c.us [] (fun p hp=>by cases hp)
 have ea:tlAllN c ws (32 * m) c.us []=tlAll c ws:=by
  unfold tlAll
  rw[hm,show(32 * (m:Int)).toNat=32 * m by omega]
 rw[ea] at L V B
 rw[e1]
 have F':FoT c ws m (wF c ws m 0 noT):=F
 generalize wF c ws m 0 noT=t at F'
 obtain⟨a1,a2,a3,a4,a5,a6,a7,a8⟩:=F'
 simp only[List.length_nil,ju] at L V
 have hm2:m≤31:=by omega
 have hl:(tlAll c ws).length≤1000:=by
  have q:=wQ c ws (32 * m) c.us
  omega
 exact⟨(wI ((iq _ _).2 ⟨by omega,by omega,by omega,by omega,by omega,by omega,by omega⟩) ((js _ _).2 ⟨by omega,by omega,by omega,by omega,by omega,by omega,by omega⟩)).2 ⟨a4.1,a4.2,a7.2.1,by omega⟩,by omega,by omega,by omega,hl,B⟩
end
theorem Gf:∀l:List KV,(∀p∈l,0≤p.2∧p.2≤1048576)→0≤ju l∧ju l≤1048576 * (l.length:Int)
 | [],_=>by simp[ju]
 |p::l,h=>by
  have h1:=Gf l (fun q hq=>h q (List.mem_cons_of_mem _ hq))
  have h2:=h p (List.mem_cons_self ..)
  simp only[ju,List.length_cons]
  omega
theorem CJ {l:List KV}{j:Nat}{p:KV}(h:l[j]?=some p):ju (l.take (j+1))=ju (l.take j)+p.2:=by
 rw[List.take_add_one,h]
 exact oC p _
theorem CM (y0 y1 y2 y3 y4 y5 y6 y7 y8 y9 y10:Int)(a:Option Addr)(capl:Nat)(l:List nV)(w:World)(hS:uU w)(f0:(Lit.int .i64 y0).wf=true)(f1:(Lit.int .i64 y1).wf=true)(f2:(Lit.int .i64 y2).wf=true)(f3:(Lit.int .i64 y3).wf=true)(f4:(Lit.int .i64 y4).wf=true)(f5:(Lit.int .i64 y5).wf=true)(f6:(Lit.int .i64 y6).wf=true)(f7:(Lit.int .i64 y7).wf=true)(f8:(Lit.int .i64 y8).wf=true)(f9:(Lit.int .i64 y9).wf=true)(f10:(Lit.int .i64 y10).wf=true)(hl:iG w a l)(ho:G0 l)(hm:l.length≤9223372036854775807):
 Calls Tryz.prog 5 #[.agg #[.int .i64 y0,.int .i64 y1,.int .i64 y2,.int .i64 y3,.int .i64 y4,.int .i64 y5,.int .i64 y6,.int .i64 y7,.int .i64 y8,.int .i64 y9,.int .i64 y10],.slice a l.length capl] w (aF w (.bool true)):=by
 obtain⟨w2,e2,ha2,m2,hs2⟩:=df w (.cells #[.int .i64 y0,.int .i64 y1,.int .i64 y2,.int .i64 y3,.int .i64 y4,.int .i64 y5,.int .i64 y6,.int .i64 y7,.int .i64 y8,.int .i64 y9,.int .i64 y10] 23)
 obtain⟨bt,hsz⟩:=hS
 have HSZ:Hq (jf bt w):=hQQ hsz
 have sz0:=HSZ.o.lt0
 have szb:=HSZ.o.lt
 have HM:=hQQ m2
 have HA:=hQQ ha2
 clear ha2 hsz
 by_cases hbig:60<l.length
 ·have d0:decide ((60:Int)<(l.length:Int))=true:=by simp;omega
  clear m2 hs2 HA f0 f1 f2 f3 f4 f5 f6 f7 f8 f9 f10
  go_enter Tryz.func5,Tryz.ntmps5
  go_wp2_with fail
  refine(qE bt _ (HSZ.o.more HM.o)).mono ?_
  rintro e w8 ⟨rfl,h8⟩
  have HM8:=hQQ (HM.o.trans h8)
  clear h8
  go_wp2_with fail
  go_ret
  exact⟨rfl,HM8.o⟩
 ·have d0:decide ((60:Int)<(l.length:Int))=false:=by simp;omega
  obtain⟨d,n,s,zs,S,hn,⟨rr,OO,RL,INV⟩,LD⟩:=F5 y0 y1 y2 y3 y4 y5 y6 y7 y8 y9 y10 f0 f1 f2 f3 f4 f5 f6 f7 f8 f9 f10 l (by omega) ho
  have wds:=S.words
  have hnb:160≤n∧n≤800:=by omega
  obtain⟨C,FRI⟩:=INV.fri
  have hzl:zs.length=n:=FRI.len
  have hzo:OkW zs:=FRI.ok
  have H:cB d.pg d.st n:=by
   have h2:=eS S.ok;have h3:=S.ok.pg1
   have h5:aO d.st d.pg+62≤cF d.cp d.pg d.st d.ca d.bi:=by
    have:=j6 S.ok;have:=S.ok.bi1
    unfold cF dY cD;omega
   refine { S.tbl hn with top5:= ?_,top62:= ?_ }
   ·rw[hn]
    have ew:d.words=bH d.cp d.pg d.st d.ca d.bi+32 * d.pg:=rfl
    unfold aO at h5
    omega
   ·rw[hn]
    have ew:d.words=bH d.cp d.pg d.st d.ca d.bi+32 * d.pg:=rfl
    unfold aO at h5
    omega
  have TA:=Ge S.ok H hn (by omega) INV
  have LDA:=hQQ (LD.out a capl w2 (hl.more m2))
  have SS:=hQQ S
  have DOA:=hQQ (fun W g1 ga gb (a':Option Addr) (hY:TtY d g1 ga gb bt W) hd (hz:ig W a' zs)=>show Calls Tryz.prog 10 #[.slice a' n n,.func (.func 22) #[] #[.pointer (some ⟨g1,0,none⟩),.pointer (some ⟨ga,0,none⟩),.pointer (some ⟨gb,0,none⟩)]] W (fun e w'=>∃v1 v2,e=.returned (.tuple #[v1,v2,.int .i64 0])∧TtX ga gb W.heap.size (tlV d zs,tlAll d zs) w'∧Turned (fun b=>b=ga∨b=gb) W w') from by
   have:=Kt S.ok zs (by rw[hzl];exact H.toPgIn) (by rw[hzl];exact hn) (by omega) hzo W g1 ga gb a' n hY hd hz
   rw[hzl] at this;exact this)
  obtain⟨t1,t2,t3,t4,t5,t6⟩:=TA
  generalize tlV d zs=V at DOA t1 t2 t3 t4
  generalize tlAll d zs=LL at DOA t2 t3 t5 t6
  have TR:=hQQ (fun W=>show Calls Tryz.prog 18 #[.agg V.arr] W (aF W (.bool true)) from t1▸Af V W)
  obtain⟨zbl,zak,zwo,zke,zop,zma,zus⟩:=V
  simp only at t2 t3 t4
  subst t2
  subst t3
  have T6:=hQQ t6
  have dus:decide (zus≤d.pg)=true:=decide_eq_true t4
  clear m2 f0 f1 f2 f3 f4 f5 f6 f7 f8 f9 f10 hl ho hm LD S H hn wds INV FRI hzl hzo t1 t6 t4
  have R5:=hQQ SS.o.ok
  go_enter Tryz.func5,Tryz.ntmps5
  go_wp2_with (refine uh rfl rfl rfl HA.o (by kernel_rfl) ?_)
  clear e2
  refine LDA.o.mono ?_
  rintro e w3 ⟨gz,rfl,hgz,hxz,m3⟩
  obtain⟨w4,e4,hb4,m4,s4⟩:=df w3 (.cells #[.int .i64 0,.int .i64 0,.int .i64 0,.int .i64 0,.int .i64 0,.int .i64 0,.int .i64 0,.int .i64 0,.int .i64 0,.int .i64 0,.int .i64 0] 27)
  have B4:=hQQ hb4
  obtain⟨w5,e5⟩:∃w5,w4.setRow w3.heap.size d.cells=w5:=⟨_,rfl⟩
  have m5:ae w3 w5:=by rw[←e5];exact m4.setRow _ _ (Nat.le_refl _)
  have B5:Hq (w5.heap[w3.heap.size]?=some (.cells d.cells 27 (0,0))):=hQQ (by rw[←e5];exact setRow_heap _ _ _ _ _ _ hb4)
  have X5:=hQQ (hxz.more m5)
  have M5:=hQQ (HM.o.trans (m3.trans m5))
  have g3:w.heap.size<w3.heap.size:=Nat.lt_of_lt_of_le (ac HA.o) m3.size
  have gz3:gz<w3.heap.size:=hxz.lt
  clear hb4 m4 s4 m5 hxz m3 LDA
  go_wp2_with (first
   |(refine wpList_store_row rfl 27 _ _ rfl w3.heap.size _ rfl rfl 27 _ B4.o (by kernel_rfl) rfl (je d) ?_;rw[e5])
   |(refine wpList_load_row rfl 23 _ rfl w3.heap.size rfl 27 _ _ _ B5.o Tryz.underlying23 rfl (by kernel_rfl) ?_))
  refine(J6 R5.o _).mono ?_
  rintro e w6 ⟨rfl,m6⟩
  obtain⟨w7,e7,hb7,m7,s7⟩:=df w6 (.cells DQ 33)
  have B7:=hQQ hb7
  obtain⟨w8,e8⟩:∃w8,w7.setRow w6.heap.size d.arr=w8:=⟨_,rfl⟩
  have m8:ae w6 w8:=by rw[←e8];exact m7.setRow _ _ (Nat.le_refl _)
  have hb8:w8.heap[w6.heap.size]?=some (.cells d.arr 33 (0,0)):=by rw[←e8];exact setRow_heap _ _ _ _ _ _ hb7
  obtain⟨w9,e9,hb9,m9,s9⟩:=df w8 (.cells #[.int .i64 0,.int .i64 0,.int .i64 0,.int .i64 0,.int .i64 0,.int .i64 0,.int .i64 0] 38)
  obtain⟨w10,e10,hb10,m10,s10⟩:=df w9 (.cells #[.slice none 0 0] 39)
  have mm:=m6.trans (m8.trans (m9.trans m10))
  have M10:=hQQ (M5.o.trans mm)
  have L10:=hQQ (mm.block B5.o)
  have X10:=hQQ (X5.o.more mm)
  have g6:=m6.size
  have g8:=ac hb8
  have g5:=ac B5.o
  rw[s9] at hb10
  have DO:=hQQ (DOA.o w10 w6.heap.size w8.heap.size (w8.heap.size+1) (some ⟨gz,0,none⟩) ⟨m10.block (m9.block hb8),⟨noT,m10.block hb9⟩,⟨_,hb10⟩,HSZ.o.more M10.o⟩ ⟨⟨by omega,by omega⟩,by omega,⟨by omega,by omega⟩,by omega,by omega⟩ X10.o.words)
  have E10:=hQQ s9
  clear mm hb7 m7 s7 m8 hb8 hb9 m9 hb10 m10 s10 m6 B5 X5 M5 DOA
  go_wp2_with (refine wpList_store_row rfl 33 _ _ rfl w6.heap.size d.arr rfl rfl 33 _ B7.o (by kernel_rfl) rfl (zi d) ?_;rw[e8])
  refine DO.o.mono ?_
  rintro e w11 ⟨v1,v2,rfl,⟨hxa,v,hxb,hrow⟩,ht⟩
  obtain⟨av,cv,rfl,hps,_⟩:=hrow.reads
  have BA:=hQQ hxa
  have BB:=hQQ hxb
  have PS:=hQQ hps
  have M11:Hq (ae w w11):=hQQ (Turned.mono (aq (F:=fun _=>False) M10.o ht (fun k z=> .inr (by omega))) (fun _ _ z=>z))
  have L11:=hQQ ((ht.block _ (ac L10.o) (by omega)).trans L10.o)
  have CB:Hq (∀W,ae w11 W→W.cell? ⟨w8.heap.size+1,0,none⟩=some (.slice av LL.length cv)):=hQQ fun W hW=>(bd (hW.block BB.o)).1
  clear hxa hxb hrow hps ht DO e4 e5 e7 e8 e9 e10 s9 B4 B7 M10 L10 X10
  go_wp2_with fail
  go_loopw [14,15] (fun sv iv wr=>∃j:Nat,j≤LL.length∧sv=.int .i64 (ju (LL.take j))∧iv=.int .i64 j∧ae w11 wr) (fun _ iv _=>LL.length-(intOf iv).toNat)
  case atStart=>exact⟨0,Nat.zero_le _,rfl,rfl,ae.refl _⟩
  case round =>
   obtain⟨j,hj,rfl,rfl,hM⟩:=hrel
   have MR:=hQQ hM
   have c10:=CB.o _ hM
   clear hM
   by_cases hlt:j<LL.length
   ·have d1:decide ((j:Int)<(LL.length:Int))=true:=by simp;omega
    obtain⟨⟨x,y⟩,hp⟩:∃p,LL[j]?=some p:=⟨_,List.getElem?_eq_getElem hlt⟩
    have HV:=hQQ (CJ hp)
    have vb1:=Gf (LL.take j) (fun p q=>T6.o p (List.mem_of_mem_take q))
    have vb2:=T6.o _ (List.mem_of_getElem? hp)
    rw[List.length_take,Nat.min_eq_left hj] at vb1
    obtain⟨s1,o1,rfl,hs1,hc1⟩:=(PS.o.more MR.o).resolve_left (by intro q;rw[q] at hlt;simp at hlt)
    obtain⟨x1,y1⟩:=hc1 j _ hp
    simp only at x1 y1 vb2
    have HV2:=HV.o
    simp only at HV2
    generalize ju (LL.take j)=sj at vb1 HV2
    have q7:IntKind.i64.wrap (sj+y)=sj+y:=am (by omega) (by omega)
    have q8:IntKind.i64.wrap ((j:Int)+1)=(j:Int)+1:=am (by omega) (by omega)
    have HV3:=hQQ HV2
    clear hc1 hp vb1 vb2 HV HV2
    go_wp2_with fail
    go_roundw
    case rel=>exact⟨j+1,by omega,by rw[HV3.o],by go_num,MR.o⟩
    case measure=>simp[intOf];omega
   ·have d1:decide ((j:Int)<(LL.length:Int))=false:=by simp;omega
    have ej:j=LL.length:=by omega
    subst ej
    rw[List.take_length]
    have LX:=MR.o.block L11.o
    have C2:wr.cell? ⟨w3.heap.size,2,none⟩=some (.int .i64 d.pg):=by rw[cell_of_row wr _ _ _ _ _ LX];rfl
    have BA2:=MR.o.block BA.o
    obtain⟨c0,c1,c3,c4,c5,c6,c7⟩:=np _ BA2
    have M12:=hQQ (M11.o.trans MR.o)
    have K0:=hQQ c0
    have K1:=hQQ c1
    have K7:=hQQ c7
    have K10:=hQQ c10
    have K2:=hQQ C2
    clear BA2 LX C2
    go_wp2_with fail
    clear c0 c1 c3 c4 c5 c6 c7 c10
    refine(TR.o wr).mono ?_
    rintro e w12 ⟨rfl,h12⟩
    have c0:=h12.cell K0.o
    have c1:=h12.cell K1.o
    have c7:=h12.cell K7.o
    have c10:=h12.cell K10.o
    have c2:=h12.cell K2.o
    have M13:=hQQ (M12.o.trans h12)
    clear h12
    go_wp2_with fail
    clear c0 c1 c7 c10 c2
    refine(qE bt _ (HSZ.o.more M13.o)).mono ?_
    rintro e w13 ⟨rfl,h13⟩
    have M14:=hQQ (M13.o.trans h13)
    clear h13
    go_wp2_with fail
    go_ret
    exact⟨rfl,M14.o⟩
open Go.ChangeShapes Go.WideShapes Go.ChangeAt Go.Deep
section
variable {H:Type}{enc:TypeId×Value→H}{P:Program}{w:World}{base:Nat}{spare:Nat→Bool}{held:Bool}
theorem o7 {r:Reach}{b0:Nat}{t T:TypeId}{fs:Array Field}{v:Value}{d:DataW H}{p:List MemPlace}(hs:P.underlying t=some (.struct fs))(hone:oneCellFields P fs=true)(hC:P.cellsOf t=fs.size)
 (hT:(fs.all fun f=>f.type==T)=true) (u:P.underlying T=some (.int .i64)) (hv:Value.okWide P w r b0 t v) (h:DataW.Trod enc P w base spare held t v d p):
 ∃xs:List Int,xs.length=fs.size∧v=.agg (xs.map (Value.int .i64)).toArray∧∀x∈xs,(Lit.int .i64 x).wf=true:=by
 obtain⟨cs,rfl,hsz⟩:=okWide_struct hs hv
 obtain⟨fuel,hf⟩:=h
 obtain⟨ys,n,_,_,_,hlen,hg⟩:=DataW.trod_struct hs hf
 have key:∀j,j<cs.toList.length→∃x:Int,cs.toList[j]?=some (.int .i64 x)∧(Lit.int .i64 x).wf=true:=by
  intro j hj
  have hj':j<fs.size:=by simp at hj;omega
  have hfj:fs[j]?=some fs[j]:=by simp[hj']
  obtain⟨ho,hk⟩:=hone_of hone j _ hfj
  have ht:fs[j].type=T:=by
   have:=Array.all_eq_true.1 hT j hj'
   simpa using this
  have h1:=hg j _ hfj
  rw[ho,hk] at h1
  have hys:ys[j]?=some (ys[j]'(by omega)):=List.getElem?_eq_getElem (by omega)
  rw[hys] at h1
  obtain⟨x,e,_,wx⟩:=DataW.trod_int (by rw[ht];exact u) h1
  refine⟨x,?_,wx⟩
  have e':(cs.toList.drop j).take 1= [.int .i64 x]:=by simpa [Value.cells] using e
  rw[List.drop_eq_getElem_cons hj] at e'
  simp at e'
  rw[List.getElem?_eq_getElem hj]
  simp[e']
 have hall:∀l:List Value,(∀j,j<l.length→∃x:Int,l[j]?=some (.int .i64 x)∧(Lit.int .i64 x).wf=true)→∃xs:List Int,xs.length=l.length∧l=xs.map (Value.int .i64)∧∀x∈xs,(Lit.int .i64 x).wf=true:=by
  intro l
  induction l with
  |nil=>intro _;exact⟨[],rfl,rfl,by simp⟩
  |cons a l ih =>
   intro hl
   obtain⟨x,hx,wx⟩:=hl 0 (by simp)
   obtain⟨xs,h1,h2,h3⟩:=ih (fun j hj=>by have:=hl (j+1) (by simp;omega);simpa using this)
   simp at hx
   exact⟨x::xs,by simp[h1],by simp[hx,←h2],by intro z hz;rcases List.mem_cons.1 hz with q|q; (rw[q];exact wx);exact h3 z q⟩
 obtain⟨xs,h1,h2,h3⟩:=hall cs.toList key
 refine⟨xs,by simp at h1;omega,?_,h3⟩
 rw[←h2]
end
theorem JI {l:List Int}(h:l.length=11):∃x0 x1 x2 x3 x4 x5 x6 x7 x8 x9 x10,l= [x0,x1,x2,x3,x4,x5,x6,x7,x8,x9,x10]:=by
 match l,h with
 | [x0,x1,x2,x3,x4,x5,x6,x7,x8,x9,x10],_=>exact⟨x0,x1,x2,x3,x4,x5,x6,x7,x8,x9,x10,rfl⟩
end Go.Proofs.YtfddhogffpkhcaaGreatDoor
