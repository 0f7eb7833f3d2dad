/-
  Layer 14's statements begin so: a small layout, the words behind any steps, and what they leave.
-/
import Derived.Test.YtddmeghbmdfgeaaGreatDoorFlAw
import Derived.Test.YtddmeghbmdfgeaaGreatDoorFlAu
import Derived.Test.YtddmeghbmdfgeaaGreatDoorFlAs
import Derived.Test.YtddmeghbmdfgeaaGreatDoorFlAp
import Derived.Test.YtddmeghbmdfgeaaGreatDoorFlAr
import Derived.Test.YtddmeghbmdfgeaaGreatDoorFlAe
import Derived.Test.YtddmeghbmdfgeaaGreatDoorFlAv
set_option maxRecDepth 100000
set_option maxHeartbeats 8000000
set_option linter.unusedVariables false
set_option linter.unusedSimpArgs false
set_option linter.unusedSectionVars false
namespace Go.Proofs.YtddmeghbmdfgeaaGreatDoor
open Go.RowKit Go.Sort Go.Maps Go.Shelf
theorem BlR.off {base:Nat}{w w':World}{v:Value}{its:List Bl}(h:BlR base w v its){S:Nat→Prop}(t:Turned S w w')(n:∀q,v.ownBlock=some q→¬S q):BlR base w' v its:=by
 refine⟨h.1,?_⟩
 rcases h.2 with q|⟨g,cap,cur,rfl,h2,h3,h4⟩
 ·exact .inl q
 ·exact .inr ⟨g,cap,cur,rfl,h2,(t.block g (ac h3) (n g rfl)).trans h3,h4⟩
theorem MK (w:World)(x1 x2 y1 y2:Array Value)(t1 t2:TypeId):∃W,(((w.alloc (.cells x1 t1)).alloc (.cells x2 t2)).setRow w.heap.size y1).setRow (w.heap.size+1) y2=W ∧
 ((w.alloc (.cells x1 t1)).alloc (.cells x2 t2)).heap[w.heap.size]?=some (.cells x1 t1 (0,0))∧(((w.alloc (.cells x1 t1)).alloc (.cells x2 t2)).setRow w.heap.size y1).heap[w.heap.size+1]?=some (.cells x2 t2 (0,0)) ∧
 W.heap[w.heap.size]?=some (.cells y1 t1 (0,0))∧W.heap[w.heap.size+1]?=some (.cells y2 t2 (0,0))∧ae w W∧W.heap.size=w.heap.size+2:=by
 obtain⟨W,e,h1,h2,h3,h4,h5⟩:=Nw w x1 x2 y1 y2 t1 t2
 exact⟨W,e,h1,h2,h3,by rw[←e];exact setRow_heap _ _ _ _ _ _ h2,h4,by rw[←e];simp⟩
theorem Dw {c:Cfg}(S:c.Small){n:Nat}(hn:(n:Int)=c.words):cH c.pg c.st n:=by
 have h2:=oL S.ok;have h3:=S.ok.pg1
 have h5:bz c.st c.pg+62≤eK c.cp c.pg c.st c.ca c.bi:=by
  have:=pM S.ok;have:=S.ok.bi1
  unfold eK fH dt;omega
 have h6:bd c.st+aO c.pg+5 * c.pg+62≤n:=by
  rw[hn]
  show _≤eR c.cp c.pg c.st c.ca c.bi
  unfold eR
  unfold bz at h5
  omega
 exact { S.tbl hn with top5:=by omega,top62:=h6 }
theorem Fr {c:Cfg}(R:c.Ok){n bt:Nat}(T:uI c n bt)(zs:List Int)(hlz:zs.length=n)(hlen:zs.length≤1000)(hz:OkW zs)(w:World)(g1 g2 g3 g4:Nat)(a:Option Addr)(cap:Nat)(al:Option Addr)(capl:Nat)(l:List fY)(hll:l.length≤1000)(pre:List Value)(ok:Value)(hY:AgY c al capl l g1 g2 g3 g4 bt pre ok w)(ne:∀k,AgO al l g2 g3 g4 bt k→k≠g1)(hw:jx w a zs):
 Calls Tryz.prog 9 #[.slice a zs.length cap,.func (.func 37) #[] #[.pointer (some ⟨g1,0,none⟩),.pointer (some ⟨g2,0,none⟩),.pointer (some ⟨g3,0,none⟩),.pointer (some ⟨g4,0,none⟩)]] w (fun e w'=>∃v1 v2 b,e=.returned (.tuple #[v1,v2,.int .i64 0])∧Rw w.heap.size w' v1 (gI c l ⟨fun _=> [],fun _=> [],[]⟩ zs).2∧Turned (fun k=>k=g1) w w'∧AgK c al capl l g2 g3 g4 bt w'∧w.heap.size≤b∧AgX b g1 pre ok (gI c l ⟨fun _=> [],fun _=> [],[]⟩ zs).1 w'∧OkS c (gI c l ⟨fun _=> [],fun _=> [],[]⟩ zs).1):=by
 subst hlz
 have lo:∀k,AgO al l g2 g3 g4 bt k→k<w.heap.size:=fun k hk=>hY.1.lt hk
 have l1:g1<w.heap.size:=by obtain⟨fs,o,h⟩:=hY.2;exact h.lt
 have G:=mD T R l (OkS.nil R)
 obtain⟨D,hD,ha,hi⟩:=mE T R l (OkS.nil R) zs [] rfl hz (d7 _)
 have e0:cj zs []=zs:=rfl
 rw[e0] at hD ha
 have HO:=(G.ok (jy hz) (d7 _) hD).2.1
 obtain⟨K',hK',hd⟩:=wG (lh T l _) G hz hD (zs.length+1) [] (oQ _) (by simp)
 rw[ha] at hd
 generalize (gI c l ⟨fun _=> [],fun _=> [],[]⟩ zs).1=sF at hD HO⊢
 generalize (gI c l ⟨fun _=> [],fun _=> [],[]⟩ zs).2=xs at hd⊢
 have M:=IX a cap zs (fun K=>fo (dT T l ⟨fun _=> [],fun _=> [],[]⟩ (look K) [])) (some (xs,K')) zs.length w hw hlen hz (wH G hz (by omega)) (by omega) hd 37 #[.pointer (some ⟨g1,0,none⟩),.pointer (some ⟨g2,0,none⟩),.pointer (some ⟨g3,0,none⟩),.pointer (some ⟨g4,0,none⟩)] (fun k=>k=g1)
  (fun w'=>AgY c al capl l g1 g2 g3 g4 bt pre ok w') (fun b w'=>AgX b g1 pre ok sF w') (fun k q=>by subst q;exact l1)
  (fun w' w'' y t=>by obtain⟨y1,fs,o,y2⟩:=y;exact⟨y1.keep t (fun k hk q=>by have:=lo k hk;omega),fs,o,y2.keep t (by omega)⟩)
  (fun b w' w'' hb x t=>by
   obtain⟨fs,o,x1,x2,x3,x4,x5,x6⟩:=x
   exact⟨fs,o,x1.keep t (by omega),x2.off (fun c hc q e z=>by have:b≤q:=x5 c hc q e;omega) t,x3.off (fun c hc q e z=>by have:b≤q:=x6 c hc q e;omega) t,x4.off t (fun q e z=>by have:b≤q:=x4.own q e;omega),x5,x6⟩) hY (enters_of Tryz.func37 (by kernel_rfl) rfl)
  (fun K hK W F p t yy hv hF=>MH R T F p g1 g2 g3 g4 (look K) al capl l hll sF pre ok W hv (sr hK hz) yy (fun k hk q=>by have:=hF _ q;have:=lo k hk;omega) (fun q=>by have:=hF _ q;omega) ne
   (fun z D' e=>(ss (lh T l _) hK hD e).1))
 refine M.mono ?_
 rintro e w' ⟨v1,v2,b,rfl,r1,_,t,y,hb,x⟩
 exact⟨v1,v2,b,rfl,r1,t,y.1,hb,x,HO⟩
theorem Ck (pre:List Value)(hp:pre.all (·.oneCell')=true){fs:Nat→Nat→Value}{o ok:Value}(h0:(puA (fs 0)).all (·.oneCell')=true)(h1:(puA (fs 1)).all (·.oneCell')=true)(ho:o.oneCell'=true)(hk:ok.oneCell'=true):(stL pre fs o ok).toArray.all (·.oneCell')=true:=by
 rw[←Array.all_toList] at h0 h1⊢
 simp only[stL,List.all_append,hp,h0,h1,Bool.true_and,List.all_cons,List.all_nil,ho,hk,Bool.and_true]
namespace StB
variable {w w':World}{g:Nat}{pre:List Value}{fs:Nat→Nat→Value}{o ok:Value}
theorem put36 (h:StB w g pre fs o ok)(v:Value):StB (w.setCell ⟨g,36,none⟩ v) g pre fs o v:=by
 refine⟨h.1,?_⟩
 rw[heap_setCell_same w g 36 _ _ v h.2]
 have hl:=h.1
 congr 2
 simp[stL,puA,hl,List.set_append]
theorem end36 (h:StB w g pre fs o ok):w.cell? ⟨g,36,none⟩=some ok:=by
 rw[cell_of_row w g 36 _ _ _ h.2]
 simp[stL,puA,h.1,List.getElem?_append]
theorem put24 {p:List Value}(hp:p.length=24){v0:Value}(h:StB w g (p++ [v0]) fs o ok)(v:Value):StB (w.setCell ⟨g,24,none⟩ v) g (p++ [v]) fs o ok:=by
 refine⟨by simp[hp],?_⟩
 rw[heap_setCell_same w g 24 _ _ v h.2]
 congr 2
 simp[stL,puA,hp,List.set_append]
theorem at24 {p:List Value}(hp:p.length=24){v0:Value}(h:StB w g (p++ [v0]) fs o ok):w.cell? ⟨g,24,none⟩=some v0:=by
 rw[cell_of_row w g 24 _ _ _ h.2]
 simp[stL,puA,hp,List.getElem?_append]
end StB
def st0 (d:Cfg)(v:Value):Array Value:=(stL (d.arr.toList++ [v]) (fun _ _=> .slice none 0 0) (.slice none 0 0) (.bool false)).toArray
theorem I4 (d:Cfg)(g n m:Nat):Tryz.prog.built 37 [(0,.agg d.arr),(1,.slice (some ⟨g,0,none⟩) n m)]=some (st0 d (.slice (some ⟨g,0,none⟩) n m)):=by kernel_rfl
theorem Fs {ops:Array Oper}{rest:List Oper}{o:Oper}{a:Act}{w:World}{Q:Exit→Act→World→Prop}(hgd:o.guard=none)(x0 x1:Operand)(ho:o.op=.build 37 #[(0,x0),(1,x1)])(d:Cfg)(g n m:Nat)
 (h0:a.eval x0=.agg d.arr) (h1:a.eval x1=.slice (some ⟨g,0,none⟩) n m) (h:wpList Tryz.prog ops Q rest (a.put o.dst (.agg (st0 d (.slice (some ⟨g,0,none⟩) n m)))) w):wpList Tryz.prog ops Q (o::rest) a w:=by
 have e:Tryz.prog.built 37 ((#[(0,x0),(1,x1)]:Array (Nat×Operand)).map fun(i,x)=>(i,a.eval x)).toList=some (st0 d (.slice (some ⟨g,0,none⟩) n m)):=by
  simp only[List.map_toArray,List.map_cons,List.map_nil,h0,h1]
  exact I4 d g n m
 refine wpList_build hgd _ _ ho ?_ ?_
 ·rw[e];rfl
 ·rw[e];exact h
theorem ku (d:Cfg):d.arr.toList.length=24:=rfl
theorem xK (d:Cfg)(v:Value)(hv:v.oneCell'=true):(d.arr.toList++ [v]).all (·.oneCell')=true:=by
 have:=mR d
 rw[←Array.all_toList] at this
 rw[List.all_append,this]
 simp[hv]
def Dx (w:World)(d:Cfg)(n:Nat)(zs:List Int)(s:FSt)(e:Ending)(w':World):Prop :=
 ∃gz cz fs o,e=.returned (.agg (stL (d.arr.toList++ [.slice (some ⟨gz,0,none⟩) n cz]) fs o (.bool true)).toArray)∧Ws w' gz cz zs∧Pu w' (fs 0) s.P0∧Pu w' (fs 1) s.P1∧BlR w.heap.size w' o s.O∧w.heap.size≤gz∧ae w w'
abbrev mI:Array Value:= #[.int .i64 0,.int .i64 0,.int .i64 0,.int .i64 0,.int .i64 0,.int .i64 0,.int .i64 0,.int .i64 0,.int .i64 0,.int .i64 0,.int .i64 0,.int .i64 0,.int .i64 0,.int .i64 0,.int .i64 0,.int .i64 0,.int .i64 0,.int .i64 0,.int .i64 0,.int .i64 0,.int .i64 0,.int .i64 0,.int .i64 0,.int .i64 0,.slice none 0 0,.slice none 0 0,.slice none 0 0,.slice none 0 0,.slice none 0 0,.slice none 0 0,.slice none 0 0,.slice none 0 0,.slice none 0 0,.slice none 0 0,.slice none 0 0,.slice none 0 0,.bool false]
theorem KJ (TT:∀(d:Cfg)(n bt:Nat),d.Ok→cH d.pg d.st n→(n:Int)=d.words→n≤10000→uI d n bt)(y0 y1 y2 y3 y4 y5 y6 y7 y8 y9 y10:Int)(f0:(Lit.int .i64 y0).wf=true)(f1:(Lit.int .i64 y1).wf=true)(f2:(Lit.int .i64 y2).wf=true)(f3:(Lit.int .i64 y3).wf=true)(f4:(Lit.int .i64 y4).wf=true)(f5:(Lit.int .i64 y5).wf=true)(f6:(Lit.int .i64 y6).wf=true)(f7:(Lit.int .i64 y7).wf=true)(f8:(Lit.int .i64 y8).wf=true)(f9:(Lit.int .i64 y9).wf=true)(f10:(Lit.int .i64 y10).wf=true)(l:List fY)(hll:l.length≤1000):
 ∃(d:Cfg) (n:Nat) (zs:List Int) (s:FSt),d.Small∧(n:Int)=d.words∧zs.length=n∧OkW zs∧FrS d n s zs∧OkS d s∧Hq (∀(a:Option Addr) (capl:Nat) (w:World),pi w→fZ w a l→Calls Tryz.prog 8 #[.agg #[.int .i64 y0,.int .i64 y1,.int .i64 y2,.int .i64 y3,.int .i64 y4,.int .i64 y5,.int .i64 y6,.int .i64 y7,.int .i64 y8,.int .i64 y9,.int .i64 y10],.slice a l.length capl] w (Dx w d n zs s)):=by
 obtain⟨d,S,BEG⟩:=I3 y0 y1 y2 y3 y4 y5 y6 y7 y8 y9 y10 f0 f1 f2 f3 f4 f5 f6 f7 f8 f9 f10
 have wds:=S.words
 obtain⟨n,hn⟩:∃n:Nat,(n:Int)=d.words:=⟨d.words.toNat,by omega⟩
 have H:=Dw S hn
 have hz:=j1 n
 have P:=rk S.ok H hn (by omega) l (Fh S.ok H hn (by omega))
 have ok:=fun(w:World) (g1 g2 g3 g4 bt:Nat) (a:Option Addr) (cap:Nat) (al:Option Addr) (capl:Nat) (pre:List Value) (ok:Value)=>Fr (c:=d) S.ok (TT d n bt S.ok H hn (by omega)) (cO n) hz (by rw[hz];omega) (ge n) w g1 g2 g3 g4 a cap al capl l hll pre ok
 obtain⟨C,hC⟩:=P.fri
 obtain⟨D0,hD0,hD1,hD2⟩:=mE (TT d n 0 S.ok H hn (by omega)) S.ok l (OkS.nil S.ok) (cO n) [] hz (ge n) (d7 _)
 have OKS:=((mD (TT d n 0 S.ok H hn (by omega)) S.ok l (OkS.nil S.ok)).ok (jy (ge n)) (d7 _) hD0).2.1
 refine⟨d,n,_,_,S,hn,hC.len,hC.ok,P,OKS,hQQ fun a capl w hsz hli=>?_⟩
 have EL:=hQQ hC.len
 have OK:=hQQ ok
 have HZ:=hQQ hz
 obtain⟨bt,hs⟩:=hsz
 have HS:Hq (dg bt w):=hQQ hs
 have sz0:=HS.o.lt0
 have szb:=HS.o.lt
 clear f0 f1 f2 f3 f4 f5 f6 f7 f8 f9 f10 ok hD0 hD1 hD2 hz H hC P hs OKS
 generalize (gI d l ⟨fun _=> [],fun _=> [],[]⟩ (cO n)).1=sF at OK⊢
 generalize (gI d l ⟨fun _=> [],fun _=> [],[]⟩ (cO n)).2=xs at EL OK⊢
 obtain⟨w3,e3,ha,hb,hc,m3,s3⟩:=kG w (.cells #[.int .i64 y0,.int .i64 y1,.int .i64 y2,.int .i64 y3,.int .i64 y4,.int .i64 y5,.int .i64 y6,.int .i64 y7,.int .i64 y8,.int .i64 y9,.int .i64 y10] 23) (.cells #[.slice a l.length capl] 24) (.cells mI 37)
 have HA:=hQQ ha
 have HB:=hQQ hb
 have HC:=hQQ hc
 have M3:=hQQ m3
 have HL:=hQQ (hli.more m3)
 have LA:l≠ []→∀k,im a k→k<w.heap.size:=fun ne=>hli.lt ne
 clear ha hb hc m3 hli
 go_enter Tryz.func8,Tryz.ntmps8
 go_wp2_with (refine wpList_load_row rfl 23 _ rfl w.heap.size rfl 23 _ _ _ HA.o Tryz.underlying23 rfl (by kernel_rfl) ?_)
 clear e3
 refine(BEG.out _).mono ?_
 rintro e w5 ⟨g,n',hn',rfl,hrw,m5⟩
 obtain rfl:n'=n:=by omega
 obtain⟨w6,e6,b1,b2,b3,b4,m6,s6⟩:=MK w5 fV iC d.arr d.cells 28 73
 have wz:Ws w5 g n' (cO n'):=Ws.of_rw (base:=w3.heap.size) (by rw[HZ.o];exact hrw)
 have B1:=hQQ b1
 have B2:=hQQ b2
 have LC6:=hQQ b3
 have RC6:=hQQ b4
 have m36:=m5.trans m6
 obtain⟨v0,hv0⟩:∃v0,Value.slice (some ⟨g,0,none⟩) n' n'=v0:=⟨_,rfl⟩
 have V1:v0.oneCell'=true:=by rw[←hv0];rfl
 have AL0:=hQQ (show(st0 d v0).all (·.oneCell')=true from Ck _ (xK d v0 V1) (by simp[puA,Value.oneCell']) (by simp[puA,Value.oneCell']) rfl rfl)
 have hz6:=bh w6 (.cells mI 37)
 obtain⟨w9,e9⟩:∃w9,(w6.alloc (.cells mI 37)).setRow w6.heap.size (st0 d v0)=w9:=⟨_,rfl⟩
 have hb9:StB w9 w6.heap.size (d.arr.toList++ [v0]) (fun _ _=> .slice none 0 0) (.slice none 0 0) (.bool false):=⟨by rw[List.length_append,ku];rfl,by rw[←e9];exact setRow_heap _ _ _ _ _ _ hz6⟩
 have m69:ae w6 w9:=by rw[←e9];exact((ae.refl w6).alloc _).setRow _ _ (Nat.le_refl _)
 have Z6:=hQQ hz6
 have RC:=hQQ (m69.block (m36.block HC.o))
 have LC:=hQQ (m69.block b3)
 have WZ:=hQQ ((wz.more m6).more m69)
 have M9:=hQQ ((M3.o.trans m36).trans m69)
 have HL9:=hQQ ((HL.o.more m36).more m69)
 have h35:=m5.size
 have h6s:w5.heap.size+2≤w6.heap.size:=by omega
 have h3s:w.heap.size+3≤w3.heap.size:=by omega
 have h9s:=hb9.lt
 have DO:=OK.o w9 w6.heap.size (w.heap.size+1) (w5.heap.size+1) w5.heap.size bt (some ⟨g,0,none⟩) n' a capl _ _ ⟨⟨m69.block (m36.block HB.o),m69.block b4,LC.o,HL9.o,HS.o.more M9.o⟩,_,_,hb9⟩ (by
  rintro k (rfl|rfl|rfl|rfl|rfl|⟨ne,hk⟩)
  ·omega
  ·omega
  ·omega
  ·omega
  ·omega
  ·have:=LA ne k hk;omega) WZ.o.words
 rw[HZ.o] at DO
 have DO:=hQQ DO
 clear b1 b2 b3 b4 hrw wz m5 m6 m36 BEG OK HA HB HC HL m69 s6 s3 hz6 hb9
 have E9:=hQQ e9
 have V0:=hQQ hv0
 clear e9 hv0
 go_wp2_with (first
  |(refine wpList_store_row rfl 28 _ _ rfl w5.heap.size _ rfl rfl 28 fV B1.o (by kernel_rfl) rfl (mR d) ?_)
  |(refine wpList_store_row rfl 73 _ _ rfl (w5.heap.size+1) _ rfl rfl 73 iC B2.o (by kernel_rfl) rfl (gg d) ?_)
  |(refine wpList_load_row rfl 28 _ rfl _ rfl 28 _ _ _ LC6.o Tryz.underlying28 rfl (by kernel_rfl) ?_)
  |(refine Fs rfl _ _ rfl d g n' n' rfl rfl ?_;rw[V0.o])
  |(refine wpList_store_row rfl 37 _ _ rfl w6.heap.size _ rfl rfl 37 mI Z6.o (by kernel_rfl) rfl AL0.o ?_;rw[E9.o]))
 have hv0:=V0.o
 subst hv0
 clear e6
 refine DO.o.mono ?_
 rintro e w10 ⟨v1,v2,b,rfl,hr,t10,hC,hbb,⟨fs,o,hx1,hx2,hx3,hx4,hx5,hx6⟩,hOk⟩
 have t10s:=t10.size
 obtain⟨av,cv,rfl,hrd⟩:=hr.reads
 obtain⟨gz,rfl,hb1,hb2,_⟩:=hrd 0 (by rw[EL.o];omega)
 have NW:=hQQ (Ws.of_rw hr)
 rw[EL.o]
 have y24:=hx1.at24 (ku d)
 have f24:=hx1.froz 24
 obtain⟨w11,e11⟩:∃w11,w10.setCell ⟨w6.heap.size,24,none⟩ (.slice (some ⟨gz,0,none⟩) n' cv)=w11:=⟨_,rfl⟩
 have s11:StB w11 w6.heap.size (d.arr.toList++ [.slice (some ⟨gz,0,none⟩) n' cv]) fs o (.bool false):=by rw[←e11];exact hx1.put24 (ku d) _
 have y36:=s11.end36
 have f36:=s11.froz 36
 obtain⟨w12,e12⟩:∃w12,w11.setCell ⟨w6.heap.size,36,none⟩ (.bool true)=w12:=⟨_,rfl⟩
 have s12:StB w12 w6.heap.size (d.arr.toList++ [.slice (some ⟨gz,0,none⟩) n' cv]) fs o (.bool true):=by rw[←e12];exact s11.put36 _
 have t11:Turned (fun k=>k=w6.heap.size) w10 w11:=by rw[←e11];exact Turned.setCell (Turned.refl _ w10) _ _ (fun _=>rfl)
 have t12:Turned (fun k=>k=w6.heap.size) w10 w12:=by rw[←e12];exact Turned.setCell t11 _ _ (fun _=>rfl)
 have h9w:w.heap.size+3≤w9.heap.size:=by omega
 have ty:∀T:TypeId,T≠37→∀k,k=w6.heap.size→∃cs U fr,w10.heap[k]?=some (.cells cs U fr)∧U≠T:=fun T hT k q=>by subst q;exact⟨_,_,_,hx1.2,fun e=>hT e.symm⟩
 have RC12:w12.heap[w.heap.size+2]?=some (.cells mI 37 (0,0)):=(t12.block _ (by have:=ac RC.o;omega) (by omega)).trans ((t10.block _ (ac RC.o) (by omega)).trans RC.o)
 obtain⟨cur,hcur⟩:∃cur,(stL (d.arr.toList++ [.slice (some ⟨gz,0,none⟩) n' cv]) fs o (.bool true)).toArray=cur:=⟨_,rfl⟩
 have CUR:Hq (w12.heap[w6.heap.size]?=some (.cells cur 37 (0,0))):=hQQ (by rw[←hcur];exact s12.2)
 have SZ:Hq (cur.size=37):=hQQ (by rw[←hcur,List.size_toArray];exact ny s12.1 _ _ _)
 have AL:Hq (cur.all (·.oneCell')=true):=hQQ (by rw[←hcur];exact Ck _ (xK d _ rfl) (Pu.all1 hx2) (Pu.all1 hx3) hx4.one rfl)
 have tR:=Turned.setRow (S:=fun b=>b=w.heap.size+2) (Turned.refl _ w12) (w.heap.size+2) cur (fun _=>rfl)
 have M12:ae w w12:=Turned.mono (am (F:=fun _=>False) (am (F:=fun _=>False) M9.o t10 (fun b e=> .inr (by omega))) t12 (fun b e=> .inr (by omega))) (fun _ _ q=>q)
 have ty2:∀T:TypeId,T≠37→∀k,k=w.heap.size+2→∃cs U fr,w12.heap[k]?=some (.cells cs U fr)∧U≠T:=fun T hT k q=>by subst q;exact⟨_,_,_,RC12,fun e=>hT e.symm⟩
 have FIN:Hq (Dx w d n' xs sF (.returned (.agg cur)) (w12.setRow (w.heap.size+2) cur)):=hQQ ⟨gz,cv,fs,o,by rw[←hcur],(NW.o.keep t12 (by omega)).keep tR (by omega),(hx2.keep t12 (ty _ (by decide))).keep tR (ty2 _ (by decide)),(hx3.keep t12 (ty _ (by decide))).keep tR (ty2 _ (by decide)),((hx4.keep t12 (ty _ (by decide))).keep tR (ty2 _ (by decide))).low (by omega),by omega,Turned.mono (am (F:=fun _=>False) M12 tR (fun b e=> .inr (by omega))) (fun _ _ q=>q)⟩
 have RCX:=hQQ RC12
 clear hr hrd hb1 hb2 DO hx1 hx2 hx3 hx4 hx5 hx6 t10 hC hOk s11 s12 t11 t12 ty ty2 tR M12 RC12 hcur
 have e1:((n':Int)==(n':Int))=true:=by simp
 go_wp2_with (first
  |(refine wpList_load_row rfl 37 _ rfl w6.heap.size rfl 37 _ _ _ CUR.o Tryz.underlying37 rfl (by rw[SZ.o];kernel_rfl) ?_)
  |(refine wpList_store_row rfl 37 _ _ rfl _ cur rfl rfl 37 _ RCX.o (by rw[SZ.o];kernel_rfl) (by rw[SZ.o];rfl) AL.o ?_))
 refine bodyPost_ret (v:=.agg cur) (results_cell_row Tryz.results8 _ _ _ 37 _ (0,0) _ rfl (setRow_heap _ _ _ _ _ _ RCX.o) Tryz.underlying37 rfl (by rw[SZ.o];kernel_rfl)) rfl FIN.o
def ly:List (Int×Int)→List Int→Prg (List Int)
 | [],xs=>aA xs
 |s::t,xs=>ar (oG s.1 s.2) fun ys=>ly t (xs++ys)
def lz:List (Int×Int)→List Int→List Int
 | [],_=> []
 |s::t,ws=>uk s.1 s.2 ws++lz t ws
theorem uq:∀(t:List (Int×Int)) (xs:List Int),bH (ly t xs)
 | [],_=>ai _
 |s::t,xs=>aq (zV _ _) fun ys=>uq t _
theorem qB {n:Nat}(hn:n≤10000):∀(t:List (Int×Int)) (xs:List Int),(∀s∈t,d8 s.1 s.2 n)→bV n (fun ys:List Int=>ys.length≤xs.length+t.length * 10000) (ly t xs)
 | [],xs,_=>aj n (by simp)
 |s::t,xs,h=>au (uj (h s (by simp))) fun ys hy=>dw (qB hn t (xs++ys) fun z hz=>h z (by simp[hz])) fun zs q=>by
  have h1:=h s (by simp)
  have:=h1.hi;have:=h1.b1
  simp only[List.length_append,List.length_cons] at q⊢
  omega
theorem vW {n:Nat} :∀(t:List (Int×Int)) (xs:List Int),(∀s∈t,d8 s.1 s.2 n)→bR n (ly t xs) (fun ws=>(xs++lz t ws,ws))
 | [],xs,_=>a6 (ax n xs) fun ws _=>by simp[lz]
 |s::t,xs,h=>a6 (aD (Cb (h s (by simp))) fun ys=>vW t (xs++ys) fun z hz=>h z (by simp[hz])) fun ws _=>by simp[lz]
theorem ur {ops:Array Oper}{rest:List Oper}{o:Oper}{a:Act}{Q:Exit→Act→World→Prop}{base:Nat}{w:World}{v u:Value}{xs ys:List Int}(hgd:o.guard=none)(s x:Operand)
 (ho:o.op=.call { callee:= .builtin .append,args:= #[s,x],argTypes:= #[29,29] })
 (hs:a.eval s=v) (hn:Rw base w v xs) (hb:base≤w.heap.size) (hl:xs.length+ys.length≤1000000)
 (hx:a.eval x=u) (hu:Rd w u ys)
 (h:∀v' w',Rw base w' v' (xs++ys)→Turned (fun k=>v.ownBlock=some k) w w'→(∀k,v'.ownBlock=some k→v.ownBlock=some k∨k=w.heap.size)→wpList Tryz.prog ops Q rest (a.put o.dst v') w'):wpList Tryz.prog ops Q (o::rest) a w:=by
 obtain⟨i,i1,i2,i3,i4⟩:=jc
 obtain⟨ad,cap,rfl,hnews⟩:=hu.news
 cases ad with
 |none =>
  have:ys= []∧cap=0:=by
   obtain⟨a0,c0,q1,q2,q3,q4⟩:=hu
   cases q1
   rcases q4 with⟨_,q⟩|⟨g,cur,q,_⟩
   ·exact⟨List.length_eq_zero_iff.1 (by omega),q⟩
   ·cases q
  obtain⟨rfl,rfl⟩:=this
  refine wpList_append_own_none hgd s x 29 ho base 3 i 1 Tryz.underlying29 i1 v xs.length _ hs hn hx ?_
  have:=h v w (by simpa using hn) (Turned.refl _ _) (fun k q=> .inl q)
  exact this
 |some p =>
  refine wpList_append_own_at (P:=Tryz.prog) w hgd s x 29 ho base 3 i _ 1 8 Tryz.underlying29 i1 i2 i3 i4 rfl (by omega) v xs.length _ hs hn p ys.length cap (ys.map (Value.int .i64)) hx (by simp)
   (hnews p rfl) (by intro u hu;obtain⟨y,_,rfl⟩:=List.mem_map.1 hu;rfl) (by simp only[maxLen];omega) (by omega) hb ?_
  intro v' w1 hown hgrow _ h5
  refine h v' w1 ?_ ⟨hgrow.os,hgrow.tape,hgrow.output,hgrow.size,fun k hk hne=>hgrow.block k hk (fun e=>hne e.symm)⟩ (fun k q=>?_)
  ·unfold Rw
   rw[List.length_append,List.map_append]
   exact hown
  ·rcases h5 with h5|h5
   ·exact .inl (by rw[←h5];exact q)
   ·rw[h5] at q;cases q;exact .inr rfl
theorem ML {d:Cfg}(R:d.Ok){n:Nat}(H:cH d.pg d.st n)(hw:(n:Int)=d.words)(hn:n≤10000)(F:Nat→Prop)(p:Nat)(kn:Int→Option Int)(D:List KV)(w:World)(hv:aK w F p kn D)(hk:OkK kn)(hD:cF n D):
 Calls Tryz.prog 13 #[.pointer (some ⟨p,0,none⟩),.agg d.arr] w (fj w F p kn (eJ w.heap.size) (ly (famL (famC d) (famC d).m) [] kn D)):=by
 obtain⟨Rr,hRr⟩:∃Rr,ly (famL (famC d) (famC d).m) [] kn D=Rr:=⟨_,rfl⟩
 rw[hRr]
 obtain⟨w1,e1,b0,m1,s1⟩:=bg w (.cells d.arr 28)
 have MM:=hQQ m1
 have L0:=hQQ b0
 have HR:=hQQ R
 have HH:=hQQ H
 have HK:=hQQ hk
 have HRr:=hQQ hRr
 have hlen:=kt (famC d) (famC d).m
 have hm45:(famC d).m≤45:=by
  have e:(famC d).m=5 * d.cp.toNat+5:=rfl
  have:=R.cp2
  omega
 have HIN:=hQQ (oD R H hw hn)
 have HSH:=hQQ (vV HR.o w1)
 generalize famL (famC d) (famC d).m=sh at hlen HIN HRr hRr HSH
 generalize (famC d).m=mm at hlen hm45 HSH
 clear b0 m1 R H hk hRr
 go_enter Tryz.func13,Tryz.ntmps13
 go_wp2_with (refine wpList_load_row rfl 28 _ rfl _ rfl 28 _ _ _ L0.o Tryz.underlying28 rfl (by kernel_rfl) ?_)
 refine HSH.o.mono ?_
 rintro e w2 ⟨sb,cap,cur,rfl,hcb,hcu,⟨hsb,hcap⟩,h2⟩
 have m02:ae w w2:=MM.o.trans h2
 have M2:Hq (MidV w2 w2 F (fun _=>False) p kn n D F):=hQQ (MidV.begin (hv.more m02) hD)
 have nsb:¬F sb:=fun q=>by have:=hv.lt _ q;omega
 have KS:Hq (∀wr D' F',MidV w2 wr F (fun _=>False) p kn n D' F'→wr.heap[sb]?=some (.cells cur 96 (0,0))):=hQQ fun wr D' F' h=>cI h hcb nsb (fun q=>q)
 have HCU:=hQQ hcu
 have MM2:=hQQ m02
 have hw2:w.heap.size≤w2.heap.size:=m02.size
 have NEED:Hq (∀a wz,Rr=.need a→aQ wz p a→Turned (fun b=>F b∨False) w2 wz→fj w F p kn (eJ w.heap.size) Rr (.panicked (aY p)) wz):=hQQ fun a wz e hd ht=>j5 MM2.o (fun _ q=>q.elim) e hd ht
 have DONE:Hq (∀x v wz D' F',Rr=.ok x D'→MidV w2 wz F (fun _=>False) p kn n D' F'→(eJ w.heap.size) x v wz F'→fj w F p kn (eJ w.heap.size) Rr (.returned v) wz):=hQQ fun x v wz D' F' e h hp=>j6 MM2.o (fun _ q=>q.elim) h e hp
 clear hcb hcu h2 m02 HSH e1 s1 nsb hv hD
 go_wp2_with fail
 go_loopw [5,11] (fun v i wr=>∃(k:Nat) (xs:List Int) (D':List KV) (F':Nat→Prop),i=.int .i64 (k:Int)∧k≤mm∧MidV w2 wr F (fun _=>False) p kn n D' F'∧gp w2.heap.size F' wr v xs∧xs.length≤k * 10000∧ly (sh.drop k) xs kn D'=Rr) (fun _ i _=>mm-(intOf i).toNat)
 case atStart=>exact⟨0,[],D,F,rfl,Nat.zero_le _,M2.o,gp.nil _ _ _,Nat.le_refl _,HRr.o⟩
 case round =>
  obtain⟨k,xs,D',F',rfl,hk,mi,ri,hl,hs⟩:=hrel
  by_cases hlt:k<mm
  ·have d1:decide ((k:Int)<(mm:Int))=true:=by simp;omega
   have d2:decide (k<mm)=true:=by simp[hlt]
   have q3:IntKind.i64.wrap ((k:Int)+1)=(k:Int)+1:=aB (by omega) (by omega)
   obtain⟨b,ll,hbl⟩:∃b ll,sh[k]?=some (b,ll):=⟨_,_,List.getElem?_eq_getElem (by omega)⟩
   have hst:d8 b ll n:=HIN.o (b,ll) (List.mem_of_getElem? hbl)
   rw[pH hbl] at hs
   have RI:=hQQ (show ar (oG b ll) (fun ys=>ly (sh.drop (k+1)) (xs++ys)) kn D'=Rr from hs)
   obtain⟨u1,u2⟩:=HCU.o k b ll hbl
   have hsb2:=KS.o _ _ _ mi
   have c1:wr.cell? ⟨sb,k * 2,none⟩=some (.int .i64 b):=by simp[World.cell?,hsb2];exact u1
   have c2:wr.cell? ⟨sb,k * 2+1,none⟩=some (.int .i64 ll):=by simp[World.cell?,hsb2];exact u2
   obtain⟨w3,e3,g3,m3,s3⟩:=bg wr (.cells #[.int .i64 b,.int .i64 ll] 96)
   obtain⟨c3,c4⟩:=k7 g3
   have MI:=hQQ (mi.more m3)
   have RWI:=hQQ (ri.more m3)
   have HL:=hQQ hl
   have HST:=hQQ hst
   clear mi ri hl hs hbl hst u1 u2 hsb2 g3 m3 s3
   go_wp2_with fail
   refine(Mv HST.o hn F' p kn D' w3 MI.o.view HK.o MI.o.inv).mono ?_
   intro e w4 he
   rcases MI.o.stepR (ae.refl _) HK.o (uj HST.o) he with⟨a',hE,rfl,hd',ht',_⟩|⟨ys,D4,F4,v4,hE,rfl,hp4,M4',hq4,hk4,hn4⟩
   ·exact⟨rfl,NEED.o a' w4 (RI.o.symm.trans (ah hE)) hd' ht'⟩
   have R4:=hQQ ((ak hE).symm.trans RI.o)
   have M4:=hQQ M4'
   have RW4:=hQQ (RWI.o.went hk4 hn4)
   have U4:=hQQ (Rd.of_rw hp4.1)
   have HX:Hq (w2.heap.size≤w4.heap.size):=hQQ M4'.size
   have HY:Hq (ys.length≤10000):=hQQ (by have:=HST.o.hi;have:=HST.o.b1;omega)
   have HL5:Hq (xs.length+ys.length≤1000000):=hQQ (by have:=HL.o;have:=HY.o;omega)
   clear he hE M4' hk4 hn4 hp4 hq4 c1 c2 c3 c4 e3
   go_wp2_with (at_builtin;refine ur rfl _ _ rfl rfl RW4.o.1 HX.o HL5.o rfl U4.o ?_;intro v6 w6 h6 t6 k6;obtain⟨g1,g2⟩:=M4.o.grew RW4.o (Nat.le_refl _) t6 h6 k6;have M6:=hQQ g1;have R6:=hQQ g2;clear h6 t6 k6 g1 g2)
   go_roundw
   case rel=>exact⟨k+1,xs++ys,D4,F4,by go_num,by omega,M6.o,R6.o,by rw[List.length_append];have:=HL.o;have:=HY.o;omega,R4.o⟩
   case measure=>simp[intOf];omega
  ·obtain rfl:k=mm:=by omega
   have d1:decide ((k:Int)<(k:Int))=false:=by simp
   rw[List.drop_eq_nil_of_le (by omega)] at hs
   have FIN:=hQQ (DONE.o xs u5 wr D' F' hs.symm mi (ri.mono hw2))
   clear mi ri hl hs
   go_wp2_with fail
   go_ret
   exact FIN.o
def ut (P:Nat→List Int)(c:Int):List Int:=if iL c then P c.toNat else []
theorem I5 (f:Nat→Value)(P:Nat→List Int)(c:Int)(w:World)(h:Pu w f P)(hL:∀k,k<5→(P k).length≤1000000):
 Calls Tryz.prog 34 #[.agg (puA f),.int .i64 c] w (Gp w (ut P c)):=by
 obtain⟨w1,e1,hl1,m1,s1⟩:=en1 w (.cells (puA f) 32)
 have L0:=hQQ hl1
 have M1:=hQQ m1
 have HP:=hQQ (h.more m1)
 clear m1 h s1
 cases hc:iL c with
 |false =>
  have C:=hQQ (fun W=>np c W)
  rw[hc] at C
  have FIN:ut P c= []:=by simp[ut,hc]
  rw[FIN]
  clear hc FIN hl1 HP
  go_enter Tryz.func34,Tryz.ntmps34
  go_wp2_with fail
  refine(C.o w1).mono ?_
  rintro e w2 ⟨rfl,h2⟩
  have M2:=hQQ (M1.o.trans h2)
  clear h2
  go_wp2_with fail
  go_ret
  exact⟨_,rfl,Rw.nil _ _,M2.o⟩
 |true =>
  obtain⟨k,rfl,hk⟩:=ms hc
  have C:=hQQ (fun W=>np k W)
  rw[hc] at C
  have FIN:ut P k=P k:=by simp[ut,hc]
  rw[FIN]
  have hm:=hQQ hk
  have hl:=hL k hk
  obtain⟨a,cap,hf,_,_⟩:=HP.o k hk
  have X:Hq (∀W,ae w1 W→W.cell? ⟨w.heap.size,k,none⟩=some (.slice a (P k).length cap)∧Rd W (.slice a (P k).length cap) (P k)):=hQQ fun W hW=>⟨(km (hW.block L0.o) hk).trans (by rw[hf]),by rw[←hf];exact(HP.o.more hW) k hk⟩
  have HL:=hQQ hl
  generalize (P k).length=n at X
  clear hc FIN hl1 HP hf hl hL
  go_enter Tryz.func34,Tryz.ntmps34
  go_wp2_with fail
  refine(C.o w1).mono ?_
  rintro e w2 ⟨rfl,h2⟩
  have M2:=hQQ (M1.o.trans h2)
  obtain⟨x1,x2⟩:=X.o w2 h2
  have X2:=hQQ x2
  clear h2 x2
  go_wp2_with (at_builtin
               refine uE (wa:=w) (xs:=[]) rfl _ _ rfl rfl (Rw.nil _ _) M2.o (by have:=HL.o;simp;omega) rfl X2.o ?_
               intro v' w3 r3 m3
               have R3:=hQQ r3
               have M3:=hQQ m3
               clear r3 m3)
  go_ret
  exact⟨_,rfl,by simpa using R3.o,M3.o⟩
section
variable {d:Cfg}(R:d.Ok){n:Nat}(H:cH d.pg d.st n)(hw:(n:Int)=d.words)(hn:n≤10000)
include R H hw hn
theorem I6 {ws:List Int}{C:Nat→List Int}{O:List Bl}(h:FrI d.us d.pg d.st n (famC d) ws C O):((gH C (famC d).m).length:Int)≤5 * (d.cp * d.ca+d.bi):=by
 have hS:=ow R hw
 have hcp:=R.cp1
 have hC':∀i,i<(famC d).m→((C i).length:Int)≤if i<5 * d.cp.toNat then d.ca else d.bi:=fun i hi=>by rw[←Bu];exact Dr H hS hn h hi
 have hm:(famC d).m=5 * d.cp.toNat+5:=rfl
 have:=vM (C:=fun i=>if i<(famC d).m then C i else []) (x:=d.ca) (y:=d.bi) (p:=5 * d.cp.toNat) (fun j hj=>by
  have q:=hC' j (by omega)
  rw[if_pos (by omega)] at q⊢
  exact q) (fun j hj=>by
  by_cases z:j<(famC d).m
  ·have q:=hC' j z
   rw[if_neg (by omega)] at q
   rw[if_pos z];exact q
  ·rw[if_neg z];have:=R.bi1;simp;omega) 5
 have e:∀m,m≤(famC d).m→gH (fun i=>if i<(famC d).m then C i else []) m=gH C m:=by
  intro m
  induction m with
  |zero=>intro _;rfl
  |succ m ih=>intro hm;rw[gH,gH,ih (by omega),if_pos (by omega)]
 rw[←hm,e _ (Nat.le_refl _)] at this
 have e5:(((5 * d.cp.toNat:Nat):Int)) * d.ca+((5:Nat):Int) * d.bi=5 * (d.cp * d.ca+d.bi):=by
  rw[show(((5 * d.cp.toNat:Nat):Int))=5 * d.cp by omega,Int.mul_assoc,Int.mul_add];rfl
 rw[←e5]
 exact this
end
theorem zY {ws:List Int}{b l:Int}{xs:List Int}(h:gF ws b l xs):uk b l ws=xs:=by
 unfold uk
 rw[h.kept,Int.toNat_natCast]
 apply List.ext_getElem
 ·simp
 ·intro i h1 h2
  simp only[List.getElem_map,List.getElem_range]
  rw[h.at' i h2]
  simp[List.getD_eq_getElem?_getD,h2]
theorem vX (t:List (Int×Int))(ws:List Int):∀s:List (Int×Int),lz (s++t) ws=lz s ws++lz t ws
 | []=>rfl
 |x::s=>by rw[List.cons_append,lz,lz,vX t ws s,List.append_assoc]
theorem vY {S:Fam}{ws:List Int}{C:Nat→List Int}(h:∀i,i<S.m→gF ws (S.b i) (S.l i) (C i)):∀m,m≤S.m→lz (famL S m) ws=gH C m
 | 0,_=>rfl
 |m+1,hm=>by
  rw[famL,vX,vY h m (by omega),gH]
  simp only[lz,List.append_nil]
  rw[zY (h m (by omega))]
theorem StB.lay {w:World}{g:Nat}{d:Cfg}{v:Value}{fs:Nat→Nat→Value}{o ok:Value}(h:StB w g (d.arr.toList++ [v]) fs o ok):w.rangeAt g 0 d.arr.toList:=fun j x hj=>by
 have hl:j<24:=(List.getElem?_eq_some_iff.1 hj).1
 rw[cell_of_row w g _ _ _ _ h.2]
 simp only[List.getElem?_toArray,Nat.zero_add]
 unfold stL
 rw[List.append_assoc,List.getElem?_append_left (by rw[ku];exact hl)]
 exact hj
theorem MidV.setI {W wr:World}{F S F':Nat→Prop}{p n:Nat}{kn:Int→Option Int}{D:List KV}(h:MidV W wr F S p kn n D F'){b:Nat}(hS:b<W.heap.size→S b)(nF:¬F' b){x:Value}{t:TypeId}(hb:wr.heap[b]?=some (.cells #[x] t (0,0)))(v:Value):MidV W (wr.setCell ⟨b,0,none⟩ v) F S p kn n D F':=by
 rw[setCell_eq_setRow wr b 0 _ _ (0,0) v hb]
 exact h.setR hS nF _ hb
section
variable {c:Cfg}{v:Value}{fs:Nat→Nat→Value}{o ok:Value}
def LmY (c:Cfg)(v:Value)(fs:Nat→Nat→Value)(o ok:Value)(g1 g2:Nat)(w:World):Prop:=StB w g1 (c.arr.toList++ [v]) fs o ok∧∃x,c7 w g2 x
theorem MN (R:c.Ok){n:Nat}(H:cH c.pg c.st n)(hw:(n:Int)=c.words)(hn:n≤10000)(F:Nat→Prop)(p g1 g2:Nat)(kn:Int→Option Int)(W0:World)(hv:aK W0 F p kn [])(hk:OkK kn)(hY:LmY c v fs o ok g1 g2 W0)(n1:¬F g1)(n2:¬F g2)(ne:g1≠g2)(xs:List Int)
 (ht:∀z D,ly (famL (famC c) (famC c).m) [] kn []=.ok z D→z=xs):
 Calls Tryz.prog 22 #[.pointer (some ⟨p,0,none⟩),.pointer (some ⟨g1,0,none⟩),.pointer (some ⟨g2,0,none⟩)] W0 (gO W0 F (fun b=>b=g2) (fun w'=>LmY c v fs o ok g1 g2 w') (fun w'=>c7 w' g2 xs.length) p kn (fo (ly (famL (famC c) (famC c).m) [] kn []))):=by
 obtain⟨Rr,hR⟩:∃Rr,ly (famL (famC c) (famC c).m) [] kn []=Rr:=⟨_,rfl⟩
 rw[hR] at ht⊢
 obtain⟨h1,x0,h2⟩:=hY
 have l2:=ac h2
 have rg:=h1.lay
 have GK:=qB (n:=n) hn (famL (famC c) (famC c).m) [] (oD R H hw hn)
 have KP:=ML R H hw hn F p kn [] W0 hv hk (d7 n)
 have M0:MidV W0 W0 F (fun b=>b=g2) p kn n [] F:=MidV.begin hv (d7 n)
 have TY:∀wr,Turned (fun b=>F b∨b=g2) W0 wr→StB wr g1 (c.arr.toList++ [v]) fs o ok:=fun wr t=>h1.keep t (by rintro(z|z);exact n1 z;exact ne z)
 have NEED:Hq (∀x w2 y,Rr=.need x→aQ w2 p x→Turned (fun b=>F b∨b=g2) W0 w2→c7 w2 g2 y→gO W0 F (fun b=>b=g2) (fun w'=>LmY c v fs o ok g1 g2 w') (fun w'=>c7 w' g2 xs.length) p kn (fo Rr) (.panicked (aY p)) w2):=hQQ fun x w2 y e hd' ht' q =>
  wI (nY e) hd' ht' ⟨TY _ ht',_,q⟩
 have DONE:Hq (∀z w2 D F',Rr=.ok z D→MidV W0 w2 F (fun b=>b=g2) p kn n D F'→c7 w2 g2 x0→¬F' g2→gO W0 F (fun b=>b=g2) (fun w'=>LmY c v fs o ok g1 g2 w') (fun w'=>c7 w' g2 xs.length) p kn (fo Rr) (.returned (.tuple #[])) (w2.setCell ⟨g2,0,none⟩ (.int .i64 z.length))):=hQQ fun z w2 D F' e h b nf=>by
  have:=ht z D e
  subst this
  have hm:=h.setI (fun _=>rfl) nf b (.int .i64 z.length)
  have hb:c7 (w2.setCell ⟨g2,0,none⟩ (.int .i64 z.length)) g2 z.length:=jz b _
  exact wJ hm (su e) ⟨TY _ hm.turn,_,hb⟩ hb
 rw[hR] at KP
 have RG:=hQQ rg
 have KP:=hQQ KP
 have HR:=hQQ hR
 have HT:=hQQ ht
 clear hv hR ht h1 rg TY
 go_enter Tryz.func22,Tryz.ntmps22
 go_wp2_with (refine wpList_load_mid rfl 28 _ rfl g1 0 rfl c.arr.toList _ RG.o Tryz.underlying28 rfl (by kernel_rfl) ?_)
 refine KP.o.mono ?_
 intro e w4 he
 rw[←HR.o] at he
 rcases M0.stepR (ae.refl _) hk GK he with⟨a',hE,rfl,hd',ht',hk4⟩|⟨ys,D4,F4,v4,hE,rfl,hp4,M4,hq4,hk4,hn4⟩
 ·exact⟨rfl,NEED.o a' w4 _ (HR.o.symm.trans hE) hd' ht' (hk4 _ _ n2 h2)⟩
 have hb4:c7 w4 g2 x0:=hk4 _ _ n2 h2
 have nf4:¬F4 g2:=fun q=>by rcases hn4 _ q with r|r;exact n2 r;omega
 obtain⟨a4,c4,rfl,_⟩:=hp4.1.reads
 have FIN:=hQQ (DONE.o ys w4 D4 F4 (HR.o.symm.trans hE) M4 hb4 nf4)
 obtain⟨y1,y2,_⟩:=aE hb4
 clear he hE hk4 hn4 hp4 hq4 M4
 go_wp2_with fail
 go_end0
 exact FIN.o
theorem NS (R:c.Ok)(zs:List Int){n:Nat}(hlz:zs.length=n)(H:cH c.pg c.st n)(hw:(n:Int)=c.words)(hlen:n≤1000)(hz:OkW zs){C:Nat→List Int}{O:List Bl}(hf:FrI c.us c.pg c.st n (famC c) zs C O)(w:World)(g1 g2:Nat)(a:Option Addr)(cap:Nat)(hY:LmY c v fs o ok g1 g2 w)(ne:g1≠g2)(ha:jx w a zs):
 Calls Tryz.prog 9 #[.slice a zs.length cap,.func (.func 22) #[] #[.pointer (some ⟨g1,0,none⟩),.pointer (some ⟨g2,0,none⟩)]] w (fun e w'=>∃v1 v2,e=.returned (.tuple #[v1,v2,.int .i64 0])∧c7 w' g2 ((gH C (famC c).m).length:Nat)∧Turned (fun b=>b=g2) w w'):=by
 subst hlz
 have l1:g1<w.heap.size:=hY.1.lt
 have l2:g2<w.heap.size:=by obtain⟨x,h⟩:=hY.2;exact ac h
 have G:=qB (n:=zs.length) (by omega) (famL (famC c) (famC c).m) [] (oD R H hw (by omega))
 obtain⟨K',hK',_,hans⟩:=Cz (uq (famL (famC c) (famC c).m) []) G hz (vW (famL (famC c) (famC c).m) [] (oD R H hw (by omega)))
 have e:lz (famL (famC c) (famC c).m) zs=gH C (famC c).m:=vY hf.keeps _ (Nat.le_refl _)
 simp only[List.nil_append] at hans hK'
 rw[e] at hans
 have M:=Lp a cap zs (fun K=>fo (ly (famL (famC c) (famC c).m) [] (look K) [])) (some (zs,K')) zs.length w ha (by omega) hz (wH G hz (by omega)) (by omega) hK' 22 #[.pointer (some ⟨g1,0,none⟩),.pointer (some ⟨g2,0,none⟩)] (fun b=>b=g2)
  (fun w'=>LmY c v fs o ok g1 g2 w') (fun w'=>c7 w' g2 ((gH C (famC c).m).length:Nat))
  (fun b q=>by subst q;exact l2)
  (fun w' w'' y t=>⟨y.1.keep t (by omega),by obtain⟨x,y2⟩:=y.2;exact⟨x,(t.block g2 (ac y2) (by omega)).trans y2⟩⟩)
  (fun w' w'' y t=>(t.block g2 (ac y) (by omega)).trans y) hY (enters_of Tryz.func22 (by kernel_rfl) rfl)
  (fun K hK W F p t yy hv hF=>MN R H hw (by omega) F p g1 g2 (look K) W hv (sr hK hz) yy (fun q=>by have:=hF _ q;omega) (fun q=>by have:=hF _ q;omega) ne _
   (fun z D e=>hans K hK z D e))
 refine M.mono ?_
 rintro e w' ⟨v1,v2,rfl,r1,_,t,_,x⟩
 exact⟨v1,v2,rfl,x,t⟩
end
def dC:Cfg:=⟨2,2,2,2,0,0,1,2,0,0,3⟩
theorem ia:dC.Ok:=by constructor<;>decide
theorem pK:dC.words=(320:Nat):=by decide
theorem Ft:dC.us=256:=by decide
theorem Fu:cH dC.pg dC.st 320:= { st1:=by decide,st2:=by decide,pg1:=by decide,pg2:=by decide,top:=by decide,top5:=by decide,top62:=by decide }
theorem Cl:(tkW dC 0 (fun _=> []) 0 (cO 320)).1.1=(256,true):=by kernel_rfl
theorem Fv:(tkW dC 0 (fun _=> []) 0 (cO 320)).1.2 0= [257,258]:=by kernel_rfl
structure Cm (g1 g2 g3 bt:Nat)(w:World):Prop where
 h1:w.heap[g1]?=some (.cells dC.arr 28 (0,0))
 h2:∃x,c7 w g2 x
 h3:∃f,w.heap[g3]?=some (.cells (puA f) 32 (0,0))
 sz:dg bt w
def I7 (g2 g3 b:Nat)(w:World):Prop:=c7 w g2 256∧∃f P,w.heap[g3]?=some (.cells (puA f) 32 (0,0))∧Pu w f P∧PuN (fun q=>b≤q) f∧P 0= [257,258]∧∀k,k<5→(P k).length≤1000000
def rM {n bt:Nat}(T:uI dC n bt):Prg ((Int×Bool)×(Nat→List Int)):=T.tkP 0 (fun _=> []) 0
theorem Cn {bt:Nat}(T:uI dC 320 bt)(F:Nat→Prop)(p g1 g2 g3:Nat)(kn:Int→Option Int)(W:World)(hv:aK W F p kn [])(hk:OkK kn)(hY:Cm g1 g2 g3 bt W)(n1:¬F g1)(n2:¬F g2)(n3:¬F g3)(n0:¬F 0)(nb:¬F bt)(hd:g1≠g2∧g1≠g3∧g2≠g3∧0≠g2∧0≠g3∧bt≠g2∧bt≠g3)
 (ht:∀x D,rM T kn []=.ok x D→x.1=(256,true)∧x.2 0= [257,258]):
 Calls Tryz.prog 33 #[.pointer (some ⟨p,0,none⟩),.pointer (some ⟨g1,0,none⟩),.pointer (some ⟨g2,0,none⟩),.pointer (some ⟨g3,0,none⟩)] W (gO W F (fun b=>b=g2∨b=g3) (fun w'=>Cm g1 g2 g3 bt w') (fun w'=>I7 g2 g3 W.heap.size w') p kn (fo (rM T kn []))):=by
 obtain⟨Rr,hR⟩:∃Rr,rM T kn []=Rr:=⟨_,rfl⟩
 rw[hR] at ht⊢
 obtain⟨d12,d13,d23,d02,d03,db2,db3⟩:=hd
 obtain⟨x0,h2⟩:=hY.h2
 obtain⟨f0,h3⟩:=hY.h3
 have L1:=hQQ hY.h1
 have l2:=ac h2
 have l3:=ac h3
 have KT:∀wr,Turned (fun b=>F b∨(b=g2∨b=g3)) W wr→(∃x,c7 wr g2 x)→(∃f,wr.heap[g3]?=some (.cells (puA f) 32 (0,0)))→Cm g1 g2 g3 bt wr:=fun wr t a b =>
  ⟨(t.block g1 (ac hY.h1) (by rintro(q|q|q);exact n1 q;exact d12 q;exact d13 q)).trans hY.h1,a,b,hY.sz.keep t (by rintro(q|q|q);exact n0 q;exact d02 q;exact d03 q) (by rintro(q|q|q);exact nb q;exact db2 q;exact db3 q)⟩
 have M0:MidV W W F (fun b=>b=g2∨b=g3) p kn 320 [] F:=MidV.begin hv (d7 _)
 have TK:=T.tkC F (fun q=>q<W.heap.size) p kn [] W 0 0 (fun _=> .slice none 0 0) (fun _=> []) hv hk (d7 _) hY.sz n0 nb (fun q z=>z) (cR.nil _ _) (dr.nil ia)
 have TG:=T.tkG 0 (fun _=> []) 0 (dr.nil ia)
 have NEED:Hq (∀x w2,Rr=.need x→aQ w2 p x→Turned (fun b=>F b∨(b=g2∨b=g3)) W w2→(∃x,c7 w2 g2 x)→(∃f,w2.heap[g3]?=some (.cells (puA f) 32 (0,0)))→gO W F (fun b=>b=g2∨b=g3) (fun w'=>Cm g1 g2 g3 bt w') (fun w'=>I7 g2 g3 W.heap.size w') p kn (fo Rr) (.panicked (aY p)) w2):=hQQ fun x w2 e hd' ht' a b =>
  wI (nY e) hd' ht' (KT _ ht' a b)
 have DONE:Hq (∀x w2 D F' f,Rr=.ok x D→MidV W w2 F (fun b=>b=g2∨b=g3) p kn 320 D F'→c7 w2 g2 x0→w2.heap[g3]?=some (.cells (puA f0) 32 (0,0))→¬F' g2→¬F' g3→cR (fun q=>q<W.heap.size∨F' q) w2 f x.2→(∀k,k<5→(x.2 k).length≤1000000)→gO W F (fun b=>b=g2∨b=g3) (fun w'=>Cm g1 g2 g3 bt w') (fun w'=>I7 g2 g3 W.heap.size w') p kn (fo Rr) (.returned (.tuple #[])) ((w2.setCell ⟨g2,0,none⟩ (.int .i64 x.1.1)).setRow g3 (puA f))):=hQQ fun x w2 D F' f e h b2 b3 nf2 nf3 hp hll=>by
  obtain⟨x1,x2⟩:=ht x D e
  have hm:=h.setI (b:=g2) (fun _=> .inl rfl) nf2 b2 (.int .i64 x.1.1)
  have c2:c7 (w2.setCell ⟨g2,0,none⟩ (.int .i64 x.1.1)) g2 x.1.1:=jz b2 _
  have t2:Turned (fun k=>k=g2) w2 (w2.setCell ⟨g2,0,none⟩ (.int .i64 x.1.1)):=Turned.setCell (Turned.refl _ w2) _ _ (fun _=>rfl)
  have c3:=(t2.block g3 (ac b3) (fun q=>d23 q.symm)).trans b3
  have pu2:Pu (w2.setCell ⟨g2,0,none⟩ (.int .i64 x.1.1)) f x.2:=hp.1.off (fun c hc q e z=>by have:=hp.2 c hc q e;exact this (.inl (by show q<_;have:q=g2:=z;omega))) t2
  generalize w2.setCell ⟨g2,0,none⟩ (.int .i64 x.1.1)=w3 at hm c2 c3 pu2
  have hm3:=hm.setR (b:=g3) (fun _=> .inr rfl) nf3 (puA f) c3
  have e3:=setRow_heap w3 g3 _ (puA f) _ _ c3
  have t3:Turned (fun k=>k=g3) w3 (w3.setRow g3 (puA f)):=Turned.setRow (Turned.refl _ w3) _ _ (fun _=>rfl)
  have e2:c7 (w3.setRow g3 (puA f)) g2 x.1.1:=(t3.block g2 (ac c2) d23).trans c2
  have pu3:Pu (w3.setRow g3 (puA f)) f x.2:=pu2.off (fun c hc q e z=>by have:=hp.2 c hc q e;exact this (.inl (by show q<_;have:q=g3:=z;omega))) t3
  refine wJ hm3 (su e) (KT _ hm3.turn ⟨_,e2⟩ ⟨_,e3⟩) ⟨by rw[←show x.1.1=256 by rw[x1]];exact e2,f,x.2,e3,pu3,fun c hc q e=>Nat.le_of_not_lt fun z=>hp.2 c hc q e (.inl z),x2,hll⟩
 have HR:=hQQ hR
 clear ht KT hR
 go_enter Tryz.func33,Tryz.ntmps33
 go_wp2_with (refine wpList_load_row rfl 28 _ rfl g1 rfl 28 _ _ _ L1.o Tryz.underlying28 rfl (by kernel_rfl) ?_)
 refine TK.mono ?_
 intro e w4 he
 rcases M0.stepP (ae.refl _) hk TG he with⟨a',hE,rfl,hd',ht',hk4⟩|⟨x4,f4,D4,F4,hE,rfl,M4,hp4,hq4,hk4,hn4⟩
 ·exact⟨rfl,NEED.o a' w4 (HR.o.symm.trans hE) hd' ht' ⟨_,hk4 _ _ n2 h2⟩ ⟨_,hk4 _ _ n3 h3⟩⟩
 have b2:c7 w4 g2 x0:=hk4 _ _ n2 h2
 have b3:=hk4 _ _ n3 h3
 have nf2:¬F4 g2:=fun q=>by rcases hn4 _ q with r|r;exact n2 r;omega
 have nf3:¬F4 g3:=fun q=>by rcases hn4 _ q with r|r;exact n3 r;omega
 have FIN:=hQQ (DONE.o x4 w4 D4 F4 f4 (HR.o.symm.trans hE) M4 b2 b3 nf2 nf3 hp4 (hq4.2.len ia))
 obtain⟨y1,y2,_⟩:=aE b2
 have t2:Turned (fun k=>k=g2) w4 (w4.setCell ⟨g2,0,none⟩ (.int .i64 x4.1.1)):=Turned.setCell (Turned.refl _ w4) _ _ (fun _=>rfl)
 have B3:=hQQ ((t2.block g3 (ac b3) (fun q=>d23 q.symm)).trans b3)
 have AL:=hQQ (Pu.all1 hp4.1)
 clear he hE hk4 hn4 hp4 hq4 M4 b3 t2
 go_wp2_with (refine wpList_store_row rfl 32 _ _ rfl g3 (puA f4) rfl rfl 32 _ B3.o (by kernel_rfl) rfl AL.o ?_)
 go_end0
 exact FIN.o
theorem Fw {bt:Nat}(T:uI dC 320 bt)(w:World)(g1 g2 g3:Nat)(a:Option Addr)(cap:Nat)(hY:Cm g1 g2 g3 bt w)(hd:g1≠g2∧g1≠g3∧g2≠g3∧0≠g2∧0≠g3∧bt≠g2∧bt≠g3)(hz:jx w a (cO 320)):
 Calls Tryz.prog 9 #[.slice a 320 cap,.func (.func 33) #[] #[.pointer (some ⟨g1,0,none⟩),.pointer (some ⟨g2,0,none⟩),.pointer (some ⟨g3,0,none⟩)]] w (fun e w'=>∃v1 v2,e=.returned (.tuple #[v1,v2,.int .i64 0])∧w'.heap[g1]?=some (.cells dC.arr 28 (0,0))∧I7 g2 g3 w.heap.size w'∧Turned (fun b=>b=g2∨b=g3) w w'):=by
 have hl:(cO 320).length=320:=j1 320
 have l1:=ac hY.h1
 have l2:g2<w.heap.size:=by obtain⟨x,h⟩:=hY.h2;exact ac h
 have l3:g3<w.heap.size:=by obtain⟨x,h⟩:=hY.h3;exact ac h
 have l0:=hY.sz.lt0
 have lb:=hY.sz.lt
 have G:=T.tkG 0 (fun _=> []) 0 (dr.nil ia)
 have FL:=T.tkF 0 (fun _=> []) 0 (dr.nil ia)
 obtain⟨K',hK',_,hans⟩:=Cz (zs:=cO 320) (T.tkS 0 (fun _=> []) 0) (by rw[hl];exact G) (ge 320) (by rw[hl];exact FL)
 have M:=IX a cap (cO 320) (fun K=>fo (rM T (look K) [])) (some (_,K')) (cO 320).length w hz (by omega) (ge _) (wH (by rw[hl];exact G) (ge _) (by omega)) (by omega) hK' 33 #[.pointer (some ⟨g1,0,none⟩),.pointer (some ⟨g2,0,none⟩),.pointer (some ⟨g3,0,none⟩)] (fun k=>k=g2∨k=g3)
  (fun w'=>Cm g1 g2 g3 bt w') (fun b w'=>I7 g2 g3 b w')
  (fun k q=>by rcases q with rfl|rfl<;>assumption)
  (fun w' w'' y t=>⟨(t.block g1 (ac y.h1) (by omega)).trans y.h1,by obtain⟨z,q⟩:=y.h2;exact⟨z,(t.block g2 (ac q) (by omega)).trans q⟩,by obtain⟨z,q⟩:=y.h3;exact⟨z,(t.block g3 (ac q) (by omega)).trans q⟩,y.sz.keep t (by omega) (by omega)⟩)
  (fun b w' w'' hb x t=>by
   obtain⟨x1,f,P,x2,x3,x4,x5⟩:=x
   exact⟨(t.block g2 (ac x1) (by omega)).trans x1,f,P,(t.block g3 (ac x2) (by omega)).trans x2,x3.off (fun c hc q e z=>by have:b≤q:=x4 c hc q e;omega) t,x4,x5⟩) hY (enters_of Tryz.func33 (by kernel_rfl) rfl)
  (fun K hK W F p t y hv hF=>Cn T F p g1 g2 g3 (look K) W hv (sr hK (ge _)) y (fun q=>by have:=hF _ q;omega) (fun q=>by have:=hF _ q;omega) (fun q=>by have:=hF _ q;omega) (fun q=>by have:=hF _ q;omega) (fun q=>by have:=hF _ q;omega) hd
   (fun x D e=>by rw[hans K hK x D e];exact⟨Cl,Fv⟩))
 rw[hl] at M
 refine M.mono ?_
 rintro e w' ⟨v1,v2,b,rfl,r1,_,t,y,hb,x1,f,P,x2,x3,x4,x5⟩
 exact⟨v1,v2,rfl,y.h1,⟨x1,f,P,x2,x3,fun c hc q e=>Nat.le_trans hb (x4 c hc q e),x5⟩,t⟩
theorem zZ {w:World}{g:Nat}{v:Value}{t:TypeId}{fr:Nat×Nat}(h:w.heap[g]?=some (.cells #[v] t fr)):w.setCell ⟨g,0,none⟩ v=w:=by
 unfold World.setCell
 have e:(w.heap.modify g fun x=>match x with| .cells c elem frozen=> .cells (if((none:Option Nat)).isSome then c else c.setIfInBounds 0 v) elem frozen|o=>o)=w.heap:=by
  apply Array.ext
  ·simp
  ·intro i h1 h2
   rw[Array.getElem_modify]
   split
   ·rename_i q
    subst q
    have:w.heap[g]=.cells #[v] t fr:=by rw[Array.getElem?_eq_getElem h2] at h;simpa using h
    rw[this]
    simp
   ·rfl
 show World.mk _ _ _ _ _=_
 exact congrArg (fun h=>World.mk h w.tape w.drawn w.os w.output) e
theorem I8 (w:World)(p q:Int):∃w1,w.alloc (.cells #[.int .i64 p,.int .i64 q] 3)=w1∧Rw w.heap.size w1 (.slice (some ⟨w.heap.size,0,none⟩) 2 2) [p,q]∧ae w w1∧w1.heap.size=w.heap.size+1:=by
 refine⟨_,rfl,⟨rfl,.inr ⟨_,2,_,rfl,Nat.le_refl _,bh w _,Nat.le_refl _,by simp[maxLen],rfl,rfl⟩⟩,(ae.refl w).alloc _,by simp⟩
theorem vZ {o:Oper}{a:Act}{w:World}{K:Act→World→Prop}{Q:Exit→Act→World→Prop}{x y:Operand}(ho:o.op=.buildSlice 29 2 #[(0,x),(1,y)]){p q:Int}(hx:a.eval x=.int .i64 p)(hy:a.eval y=.int .i64 q)(h:K (a.put o.dst (.slice (some ⟨w.heap.size,0,none⟩) 2 2)) (w.alloc (.cells #[.int .i64 p,.int .i64 q] 3))):Oper.wp Tryz.prog o a w K Q:=by
 unfold Oper.wp Oper.upon execOp
 simp only[ho]
 generalize a.eval=ρ at hx hy⊢
 go_simp
 exact h
def rN:Cfg:=⟨aW 0 1 64,aW 0 1 8,aW 0 1 256,aW 0 1 64,aW 0 0 16,aW 0 0 64,aW 0 1 1099511627776,aW 0 1 8,aW 0 0 8,aW 0 0 16,aW 0 1 8⟩
theorem Co:rN.Ok:=CG 0 0 0 0 0 0 0 0 0 0 0
def KN:Cfg:=⟨2,2,2,2,0,0,1,2,0,0,2⟩
theorem Cp:kH rN=KN:=by rfl
def TkT:Type:=∀(d:Cfg) (n bt:Nat),d.Ok→cH d.pg d.st n→(n:Int)=d.words→n≤10000→uI d n bt
theorem Cq (TT:TkT)(bt:Nat)(w:World)(hs:dg bt w):Calls Tryz.prog 7 #[] w (aU w (.bool true)):=by
 have SM:=hQQ (vg Co 0 0 0 0 0 0 0 0 0 0 0 _ w (fun W=>yq 0 0 0 0 0 0 0 0 0 0 0 W (by omega) (by omega) (by omega) (by omega) (by omega) (by omega) (by omega) (by omega) (by omega) (by omega) (by omega)) rfl)
 have D0:Hq ((kH rN).cells.setIfInBounds 10 (.int .i64 3)=dC.cells):=hQQ (by rw[Cp];rfl)
 have D9:Hq (dC.cells.setIfInBounds 7 (.int .i64 2)=dC.cells):=hQQ (by rfl)
 generalize kH rN=d at SM D0
 have R5:=hQQ ia
 have hc4:=gg d
 have HS:=hQQ hs
 have l0:=hs.lt0
 have lb:=hs.lt
 have DOA:=hQQ (Fw (TT dC 320 bt ia Fu (by rw[pK]) (by omega)))
 clear hs TT
 go_enter Tryz.func7,Tryz.ntmps7
 go_wp2_with fail
 refine(SM.o).mono ?_
 rintro e w1 ⟨rfl,m1⟩
 have MA:=hQQ m1
 have hs1:=m1.size
 have C2:=a7 w1 #[.int .i64 0,.int .i64 0,.int .i64 0,.int .i64 0,.int .i64 0,.int .i64 0,.int .i64 0,.int .i64 0,.int .i64 0,.int .i64 0,.int .i64 0] 23
 have C3:=setRow_heap _ _ _ d.cells _ _ C2
 have M5:=MA.o.trans (((ae.refl w1).alloc (.cells #[.int .i64 0,.int .i64 0,.int .i64 0,.int .i64 0,.int .i64 0,.int .i64 0,.int .i64 0,.int .i64 0,.int .i64 0,.int .i64 0,.int .i64 0] 23)).setRow w1.heap.size d.cells (Nat.le_refl _))
 obtain⟨w5,e5⟩:∃w5,(w1.alloc (.cells #[.int .i64 0,.int .i64 0,.int .i64 0,.int .i64 0,.int .i64 0,.int .i64 0,.int .i64 0,.int .i64 0,.int .i64 0,.int .i64 0,.int .i64 0] 23)).setRow w1.heap.size d.cells=w5:=⟨_,rfl⟩
 rw[e5] at C3 M5
 have C2:=hQQ C2
 have C3:=hQQ C3
 have M5:=hQQ M5
 have E5:=hQQ e5
 clear m1 SM e5
 go_wp2_with (first
  |(refine wpList_store_row rfl 23 _ _ rfl w1.heap.size d.cells rfl rfl 23 _ C2.o (by kernel_rfl) rfl hc4 ?_;rw[E5.o])
  |(refine gT rfl 3 _ _ rfl rfl w1.heap.size 10 rfl 3 rfl _ _ C3.o (by simp[Cfg.cells]) (by kernel_rfl) ?_;rw[D0.o];intro w6 hb6 ht6;have HB6:=hQQ hb6;have HM6:Hq (ae w w6):=hQQ (Turned.mono (am (F:=fun _=>False) M5.o ht6 (fun k q=> .inr (by omega))) (fun _ _ q=>q));clear hb6 ht6)
  |(refine gT rfl 3 _ _ rfl rfl w1.heap.size 7 rfl 2 rfl _ _ HB6.o (by simp[Cfg.cells]) (by kernel_rfl) ?_;rw[D9.o];intro w66 hb6 ht6;have HB:=hQQ hb6;have HM:Hq (ae w w66):=hQQ (Turned.mono (am (F:=fun _=>False) HM6.o ht6 (fun k q=> .inr (by omega))) (fun _ _ q=>q));clear hb6 ht6)
  |(refine wpList_load_row rfl 23 _ rfl w1.heap.size rfl 23 _ _ _ HB.o Tryz.underlying23 rfl (by kernel_rfl) ?_))
 refine(Nv R5.o _).mono ?_
 rintro e w7 ⟨rfl,m7⟩
 have D1:=a7 w7 fV 28
 have D2:=setRow_heap (w7.alloc (.cells fV 28)) w7.heap.size _ dC.arr _ _ D1
 have M7:=HM.o.trans m7
 have M8:ae w ((w7.alloc (.cells fV 28)).setRow w7.heap.size dC.arr):=(M7.alloc _).setRow _ _ M7.size
 have s8:((w7.alloc (.cells fV 28)).setRow w7.heap.size dC.arr).heap.size=w7.heap.size+1:=by simp
 have hs7:=M7.size
 have D1:=hQQ D1
 obtain⟨w8,e8⟩:∃w8,(w7.alloc (.cells fV 28)).setRow w7.heap.size dC.arr=w8:=⟨_,rfl⟩
 rw[e8] at D2 M8 s8
 obtain⟨w9,e9,ha,m9,s9⟩:=bg w8 (.cells #[.int .i64 0] 3)
 have n9:w9.setCell ⟨w8.heap.size,0,none⟩ (.int .i64 0)=w9:=zZ ha
 obtain⟨c9,f9,k9⟩:=aE ha
 obtain⟨w10,e10,hp,m10,s10⟩:=bg w9 (.cells #[.slice none 0 0,.slice none 0 0,.slice none 0 0,.slice none 0 0,.slice none 0 0] 32)
 have M13:=hQQ ((M8.trans m9).trans m10)
 have HD:=hQQ (m10.block (m9.block D2))
 have HA:=hQQ (m10.block ha)
 rw[s9] at hp
 have HP:=hQQ hp
 have l7:w7.heap.size<w8.heap.size:=by omega
 have l9:w8.heap.size<w9.heap.size:=by omega
 clear m7 HM HB C3 M5 M7 M8 ha m9 hc4 D2 s8 hp m10 HB6 HM6
 go_wp2_with (first
  |(refine wpList_store_row rfl 28 _ _ rfl w7.heap.size dC.arr rfl rfl 28 _ D1.o (by kernel_rfl) rfl (mR dC) ?_)
  |(refine wpList_load_row rfl 28 _ rfl w7.heap.size rfl 28 _ _ _ HD.o Tryz.underlying28 rfl (by kernel_rfl) ?_))
 refine(Jv R5.o _).mono ?_
 rw[pK]
 rintro e w14 ⟨rfl,m14⟩
 obtain⟨w15,hmk,N1,m15,s15⟩:∃w15,(Instr.makeSlice 29 (.int .i64 320) (.int .i64 320)).run Tryz.prog w14=.ok (.slice (some ⟨w14.heap.size,0,none⟩) 320 320) w15∧w15.heap[w14.heap.size]?=some (.cells (oJ (cO 320)) 3 (0,0))∧ae w14 w15∧w15.heap.size=w14.heap.size+1 :=
  ⟨_,sD 320 (by omega) w14,a7 w14 _ _,(ae.refl _).alloc _,by simp⟩
 have mm:=m14.trans m15
 have M15:=hQQ (M13.o.trans mm)
 have DO:=hQQ (DOA.o w15 w7.heap.size w8.heap.size (w8.heap.size+1) (some ⟨w14.heap.size,0,none⟩) 320 ⟨mm.block HD.o,⟨_,mm.block HA.o⟩,⟨fun _=> .slice none 0 0,mm.block HP.o⟩,HS.o.more M15.o⟩ ⟨by omega,by omega,by omega,by omega,by omega,by omega,by omega⟩ (Ef _ _ _ N1))
 have hw8:w.heap.size≤w8.heap.size:=by omega
 clear m14 m15 mm N1 s15 HD HA HP M13 e8 e9 e10 n9 c9 f9 D1 s9 s10 DOA
 go_wp2_with fail
 refine DO.o.mono ?_
 rintro e w16 ⟨v1,v2,rfl,h1,⟨hx1,f,P,hx2,hx3,hx4,hx5,hx6⟩,ht⟩
 have LB:=hQQ h1
 have IB:=hQQ hx1
 have PB:=hQQ hx2
 have PU:=hQQ hx3
 have PQ:Hq (ut P 0= [257,258]):=hQQ (by rw[←hx5];unfold ut;rw[if_pos (by decide)];rfl)
 have PL:=hQQ hx6
 have FIN:=hQQ (Turned.mono (am (F:=fun _=>False) M15.o ht (fun k q=> .inr (by omega))) (fun _ _ q=>q))
 have US:Hq (∀W,Calls Tryz.prog 14 #[.agg dC.arr] W (aU W (.int .i64 256))):=hQQ fun W=>by rw[←Ft];exact Nm R5.o W
 clear h1 hx1 hx2 hx3 hx4 hx5 hx6 ht DO M15
 go_wp2_with fail
 refine aR (ae w16) (by kernel_rfl) ?_
 change dq _ _ _ _ _ _ _ _ (w16.drewN 1)
 have MR:Hq (ae w16 (w16.drewN 1)):=hQQ ((ae.refl w16).drewN 1)
 generalize w16.drewN 1=wq at MR⊢
 generalize hA:Act.mk _ _=A
 have HF:AG 49 A [(2,.pointer (some ⟨w7.heap.size,0,none⟩)),(3,.int .i64 0),(4,.pointer (some ⟨w8.heap.size,0,none⟩)),(5,.pointer (some ⟨w8.heap.size+1,0,none⟩)),(8,.int .i64 0)]:=by
  rw[←hA];try simp only[pts,List.foldl]
  refine⟨⟨Nat.le_of_ble_eq_true rfl,rfl⟩,?_⟩
  intro z hz;simp only[List.mem_cons,List.not_mem_nil,or_false] at hz;rcases hz with rfl|rfl|rfl|rfl|rfl<;>rfl
 refine bK (fun aa W=>∃(u27 u28 u29 u30 u31 u32 u33 u34 u35 u36 u37 u38 u39 u40 u42 u43 u44 u45 u41 u46 u47 u48:Value),(aa=(pts A [(27,u27),(28,u28),(29,u29),(30,u30),(31,u31),(32,u32),(33,u33),(34,u34),(35,u35),(36,u36),(37,u37),(38,u38),(39,u39),(40,u40),(42,u42),(43,u43),(44,u44),(45,u45),(41,u41),(46,u46),(47,u47),(48,u48),(0,.bool true)])∨aa=(pts A [(27,u27),(28,u28),(29,u29),(30,u30),(31,u31),(32,u32),(33,u33),(34,u34),(35,u35),(36,u36),(37,u37),(38,u38),(39,u39),(40,u40),(42,u42),(43,u43),(44,u44),(45,u45),(46,u46),(41,u41),(47,u47),(48,u48),(0,.bool true)]))∧ae w16 W) (fun _=>False) [] (fun a W hd h=>h.elim) (fun _ _ _ _ _ h=>h) ?_ ?_
 ·skip
  rintro a9 wz ⟨u27,u28,u29,u30,u31,u32,u33,u34,u35,u36,u37,u38,u39,u40,u42,u43,u44,u45,u41,u46,u47,u48,hn,mz⟩
  have E:(pts A [(27,u27),(28,u28),(29,u29),(30,u30),(31,u31),(32,u32),(33,u33),(34,u34),(35,u35),(36,u36),(37,u37),(38,u38),(39,u39),(40,u40),(42,u42),(43,u43),(44,u44),(45,u45),(46,u46),(41,u41),(47,u47),(48,u48),(0,.bool true)])=(pts A [(27,u27),(28,u28),(29,u29),(30,u30),(31,u31),(32,u32),(33,u33),(34,u34),(35,u35),(36,u36),(37,u37),(38,u38),(39,u39),(40,u40),(42,u42),(43,u43),(44,u44),(45,u45),(41,u41),(46,u46),(47,u47),(48,u48),(0,.bool true)]):=by rw[←hA];kernel_rfl
  have hn:a9=(pts A [(27,u27),(28,u28),(29,u29),(30,u30),(31,u31),(32,u32),(33,u33),(34,u34),(35,u35),(36,u36),(37,u37),(38,u38),(39,u39),(40,u40),(42,u42),(43,u43),(44,u44),(45,u45),(41,u41),(46,u46),(47,u47),(48,u48),(0,.bool true)]):=by
   rcases hn with q|q
   ·exact q
   ·exact q.trans E
  subst hn
  rw[←hA];try simp only[pts,List.foldl]
  have F17:=hQQ (FIN.o.trans mz)
  clear HF hA MR E hn mz
  go_simp
  go_wp2_with fail
  go_ret
  exact⟨rfl,F17.o⟩
 intro QQ FINE FIND FINQ
 clear hA
 refine tqM 0 27 1 rfl (.inl rfl) rfl (by kernel_rfl) FINQ MR.o HF fun A hB1_27 HF=>?_
 refine tqC 1 28 (.bool true) (by kernel_rfl) FINQ MR.o HF (by exact(Or.inl ⟨(ab rfl),fun W hW=>by have h5:=(HF.getD 0 rfl);go_simp⟩)) fun A hB2_28 HF=>?_
 refine tqM 2 29 0 rfl (.inl rfl) rfl (by kernel_rfl) FINQ MR.o HF fun A hB3_29 HF=>?_
 refine tqC 3 30 (.int .i64 0) (by kernel_rfl) FINQ MR.o HF (by exact aH (cL 2 true 29 rfl rfl (HF.at (by decide) 0 rfl)) _ rfl (HF.get 7 rfl)) fun A hB4_30 HF=>?_
 refine tqC 4 31 (.bool true) (by kernel_rfl) FINQ MR.o HF (by exact(Or.inl ⟨(cL 2 true 29 rfl rfl (HF.at (by decide) 1 rfl)),fun W hW=>by have h5:=(HF.getD 0 rfl);go_simp⟩)) fun A hB5_31 HF=>?_
 refine tqC 5 32 (.bool true) (by kernel_rfl) FINQ MR.o HF (by exact ig (ab rfl) rfl (HF.get 2 rfl) (HF.get 0 rfl)) fun A hB6_32 HF=>?_
 refine tqM 6 33 0 rfl (.inl rfl) rfl (by kernel_rfl) FINQ MR.o HF fun A hB7_33 HF=>?_
 refine tqC 7 34 (.int .i64 256) (by kernel_rfl) FINQ MR.o HF (by exact jC (cL 6 true 33 rfl rfl (HF.at (by decide) 0 rfl)) _ rfl (w8.heap.size) (HF.get 9 rfl) _ (fun W hW=>hW.block IB.o)) fun A hB8_34 HF=>?_
 refine tqC 8 35 (.agg dC.arr) (by kernel_rfl) FINQ MR.o HF (by exact aF (cL 6 true 33 rfl rfl (HF.at (by decide) 1 rfl)) 28 _ rfl (w7.heap.size) (HF.get 8 rfl) 28 _ _ _ (fun W hW=>hW.block LB.o) Tryz.underlying28 rfl (by kernel_rfl)) fun A hB9_35 HF=>?_
 refine az (i:=9) (some 36) (by kernel_rfl) rfl (cL 6 true 33 rfl rfl (HF.at (by decide) 2 rfl)) rfl (fun K hK=>?_)
 refine mP (v0:=.agg dC.arr) rfl (HF.get 0 rfl) (enters_of Tryz.func14 (by kernel_rfl) rfl) ?_
 refine(US.o wq).mono ?_
 rintro e wa ⟨rfl,hl⟩
 have Na:=hQQ hl
 have Ma:=hQQ (MR.o.trans hl)
 clear hl
 refine hK _ _ Ma.o ?_
 clear hK K
 replace HF:=HF.put 36 (.int .i64 256) (by decide) rfl
 generalize hB10_36:Act.put _ _ _=A at HF⊢
 refine tqC 10 37 (.bool true) (by kernel_rfl) FINQ Ma.o HF (by exact yt (cL 6 true 33 rfl rfl (HF.at (by decide) 3 rfl)) rfl (HF.get 2 rfl) (HF.get 0 rfl) true (by simp)) fun A hB11_37 HF=>?_
 refine tqC 11 38 (.bool true) (by kernel_rfl) FINQ Ma.o HF (by exact ig (ab rfl) rfl (HF.get 4 rfl) (HF.get 0 rfl)) fun A hB12_38 HF=>?_
 refine tqM 12 39 0 rfl (.inl rfl) rfl (by kernel_rfl) FINQ Ma.o HF fun A hB13_39 HF=>?_
 refine tqC 13 40 (.agg (puA f)) (by kernel_rfl) FINQ Ma.o HF (by exact aF (cL 12 true 39 rfl rfl (HF.at (by decide) 0 rfl)) 32 _ rfl (w8.heap.size+1) (HF.get 16 rfl) 32 _ _ _ (fun W hW=>hW.block PB.o) Tryz.underlying32 rfl (by kernel_rfl)) fun A hB14_40 HF=>?_
 refine tqC 15 42 (.int .i64 256) (by kernel_rfl) FINQ Ma.o HF (by exact jC (cL 12 true 39 rfl rfl (HF.at (by decide) 1 rfl)) _ rfl (w8.heap.size) (HF.get 16 rfl) _ (fun W hW=>hW.block IB.o)) fun A hB15_42 HF=>?_
 refine tqC 16 43 (.int .i64 257) (by kernel_rfl) FINQ Ma.o HF (by exact gw (cL 12 true 39 rfl rfl (HF.at (by decide) 2 rfl)) rfl (HF.get 0 rfl) rfl _ (by decide)) fun A hB16_43 HF=>?_
 refine tqC 17 44 (.int .i64 256) (by kernel_rfl) FINQ Ma.o HF (by exact jC (cL 12 true 39 rfl rfl (HF.at (by decide) 3 rfl)) _ rfl (w8.heap.size) (HF.get 18 rfl) _ (fun W hW=>hW.block IB.o)) fun A hB17_44 HF=>?_
 refine tqC 18 45 (.int .i64 258) (by kernel_rfl) FINQ Ma.o HF (by exact gw (cL 12 true 39 rfl rfl (HF.at (by decide) 4 rfl)) rfl (HF.get 0 rfl) rfl _ (by decide)) fun A hB18_45 HF=>?_
 -- the list,and the row
 refine j3 (i:=14) (j:=19) (some 41) (some 46) (by kernel_rfl) rfl rfl (cL 12 true 39 rfl rfl (HF.at (by decide) 5 rfl)) (cL 12 true 39 rfl rfl (HF.at (by decide) 5 rfl)) rfl rfl (fun K hK=>?_) (fun K hK=>?_)
 ·refine bI (v0:=.agg (puA f)) (v1:=(.int .i64 0)) rfl (HF.get 4 rfl) rfl (enters_of Tryz.func34 (by kernel_rfl) rfl) ?_
  refine(I5 f P 0 wa (PU.o.more Ma.o) PL.o).mono ?_
  rintro e wb ⟨vl,rfl,rl,hl⟩
  rw[PQ.o] at rl
  obtain⟨al,cl,rfl,_⟩:=rl.reads
  have RL:=hQQ rl
  have Nb:=hQQ hl
  have Mb:=hQQ (Ma.o.trans hl)
  clear rl hl
  refine hK _ _ Mb.o ?_
  clear hK K
  replace HF:=HF.put 41 (.slice al 2 cl) (by decide) rfl
  generalize hB19_41:Act.put _ _ _=A at HF⊢
  refine az (i:=19) (some 46) (by kernel_rfl) rfl (cL 12 true 39 rfl rfl (HF.at (by decide) 6 rfl)) rfl (fun K hK=>?_)
  refine vZ rfl (HF.get 3 rfl) (HF.get 1 rfl) ?_
  obtain⟨wc,ewc,rwwc,mwc,swc⟩:=I8 wb 257 258
  rw[ewc]
  have RB:=hQQ rwwc
  have Nc:=hQQ mwc
  have Mc:=hQQ (Mb.o.trans mwc)
  clear rwwc mwc ewc swc
  refine hK _ _ Mc.o ?_
  clear hK K
  replace HF:=HF.put 46 (.slice (some ⟨wb.heap.size,0,none⟩) 2 2) (by decide) rfl
  generalize hB20_46:Act.put _ _ _=A at HF⊢
  refine az (i:=20) (some 47) (by kernel_rfl) rfl (cL 12 true 39 rfl rfl (HF.at (by decide) 7 rfl)) rfl (fun K hK=>?_)
  refine bI (v0:=.slice al 2 cl) (v1:=.slice (some ⟨wb.heap.size,0,none⟩) 2 2) rfl (HF.get 1 rfl) (HF.get 0 rfl) (enters_of Tryz.func35 (by kernel_rfl) rfl) ?_
  refine(uZ [257,258] _ _ _ _ wc (by simp) (RL.o.more Nc.o) (RB.o)).mono ?_
  rintro e wz ⟨rfl,hl⟩
  have Nz:=hQQ hl
  have Mz:=hQQ (Mc.o.trans hl)
  clear hl
  refine hK _ _ Mz.o ?_
  clear hK K
  replace HF:=HF.put 47 (.bool true) (by decide) rfl
  generalize hB21_47:Act.put _ _ _=A at HF⊢
  refine tqC 21 48 (.bool true) (by kernel_rfl) FINQ Mz.o HF (by exact ig (ab rfl) rfl (HF.get 8 rfl) (HF.get 0 rfl)) fun A hB22_48 HF=>?_
  refine tqM 22 0 0 rfl (.inr rfl) rfl (by kernel_rfl) FINQ Mz.o HF fun A hB23_0 HF=>?_
  exact bQ (by kernel_rfl) (FINE _ _ ⟨(.int .i64 0),(.bool true),(.bool true),(.int .i64 0),(.bool true),(.bool true),(.bool true),(.int .i64 256),(.agg dC.arr),(.int .i64 256),(.bool true),(.bool true),(.bool true),(.agg (puA f)),(.int .i64 256),(.int .i64 257),(.int .i64 256),(.int .i64 258),(.slice al 2 cl),(.slice (some ⟨wb.heap.size,0,none⟩) 2 2),(.bool true),(.bool true),Or.inl (by rw[←hB23_0,←hB22_48,←hB21_47,←hB20_46,←hB19_41,←hB18_45,←hB17_44,←hB16_43,←hB15_42,←hB14_40,←hB13_39,←hB12_38,←hB11_37,←hB10_36,←hB9_35,←hB8_34,←hB7_33,←hB6_32,←hB5_31,←hB4_30,←hB3_29,←hB2_28,←hB1_27]<;>rfl),Mz.o⟩)
 ·refine vZ rfl (HF.get 2 rfl) (HF.get 0 rfl) ?_
  obtain⟨wb,ewb,rwwb,mwb,swb⟩:=I8 wa 257 258
  rw[ewb]
  have RB:=hQQ rwwb
  have Nb:=hQQ mwb
  have Mb:=hQQ (Ma.o.trans mwb)
  clear rwwb mwb ewb swb
  refine hK _ _ Mb.o ?_
  clear hK K
  replace HF:=HF.put 46 (.slice (some ⟨wa.heap.size,0,none⟩) 2 2) (by decide) rfl
  generalize hB19_46:Act.put _ _ _=A at HF⊢
  refine az (i:=14) (some 41) (by kernel_rfl) rfl (cL 12 true 39 rfl rfl (HF.at (by decide) 6 rfl)) rfl (fun K hK=>?_)
  refine bI (v0:=.agg (puA f)) (v1:=(.int .i64 0)) rfl (HF.get 5 rfl) rfl (enters_of Tryz.func34 (by kernel_rfl) rfl) ?_
  refine(I5 f P 0 wb (PU.o.more Mb.o) PL.o).mono ?_
  rintro e wc ⟨vl,rfl,rl,hl⟩
  rw[PQ.o] at rl
  obtain⟨al,cl,rfl,_⟩:=rl.reads
  have RL:=hQQ rl
  have Nc:=hQQ hl
  have Mc:=hQQ (Mb.o.trans hl)
  clear rl hl
  refine hK _ _ Mc.o ?_
  clear hK K
  replace HF:=HF.put 41 (.slice al 2 cl) (by decide) rfl
  generalize hB20_41:Act.put _ _ _=A at HF⊢
  refine az (i:=20) (some 47) (by kernel_rfl) rfl (cL 12 true 39 rfl rfl (HF.at (by decide) 7 rfl)) rfl (fun K hK=>?_)
  refine bI (v0:=.slice al 2 cl) (v1:=.slice (some ⟨wa.heap.size,0,none⟩) 2 2) rfl (HF.get 0 rfl) (HF.get 1 rfl) (enters_of Tryz.func35 (by kernel_rfl) rfl) ?_
  refine(uZ [257,258] _ _ _ _ wc (by simp) (RL.o) (RB.o.more Nc.o)).mono ?_
  rintro e wz ⟨rfl,hl⟩
  have Nz:=hQQ hl
  have Mz:=hQQ (Mc.o.trans hl)
  clear hl
  refine hK _ _ Mz.o ?_
  clear hK K
  replace HF:=HF.put 47 (.bool true) (by decide) rfl
  generalize hB21_47:Act.put _ _ _=A at HF⊢
  refine tqC 21 48 (.bool true) (by kernel_rfl) FINQ Mz.o HF (by exact ig (ab rfl) rfl (HF.get 8 rfl) (HF.get 0 rfl)) fun A hB22_48 HF=>?_
  refine tqM 22 0 0 rfl (.inr rfl) rfl (by kernel_rfl) FINQ Mz.o HF fun A hB23_0 HF=>?_
  exact bQ (by kernel_rfl) (FINE _ _ ⟨(.int .i64 0),(.bool true),(.bool true),(.int .i64 0),(.bool true),(.bool true),(.bool true),(.int .i64 256),(.agg dC.arr),(.int .i64 256),(.bool true),(.bool true),(.bool true),(.agg (puA f)),(.int .i64 256),(.int .i64 257),(.int .i64 256),(.int .i64 258),(.slice al 2 cl),(.slice (some ⟨wa.heap.size,0,none⟩) 2 2),(.bool true),(.bool true),Or.inr (by rw[←hB23_0,←hB22_48,←hB21_47,←hB20_41,←hB19_46,←hB18_45,←hB17_44,←hB16_43,←hB15_42,←hB14_40,←hB13_39,←hB12_38,←hB11_37,←hB10_36,←hB9_35,←hB8_34,←hB7_33,←hB6_32,←hB5_31,←hB4_30,←hB3_29,←hB2_28,←hB1_27]<;>rfl),Mz.o⟩)
def tkT:TkT:=fun d n bt R H hw hn=>Oh R H hw hn
end Go.Proofs.YtddmeghbmdfgeaaGreatDoor
