/-
  The landed package front: Drain.
-/
import Derived.Test.YtddmeghbmdfgeaaGreatDoorFlAu
import Derived.Test.YtddmeghbmdfgeaaGreatDoorFlAq
import Derived.Deep.MidRow
import Derived.Test.YtddmeghbmdfgeaaGreatDoorFlAe
set_option maxRecDepth 100000
set_option maxHeartbeats 8000000
set_option linter.unusedVariables false
set_option linter.unusedSimpArgs false
set_option linter.unusedSectionVars false
namespace Go.Proofs.YtddmeghbmdfgeaaGreatDoor
open Go.RowKit Go.Sort Go.Maps Go.Shelf
theorem KE {d:Cfg}(R:d.Ok){n:Nat}(H:cH d.pg d.st n)(hw:(n:Int)=d.words)(hn:n≤10000){bt:Nat}(F:Nat→Prop)(p:Nat)(kn:Int→Option Int)(D:List KV)(w:World)
 (hv:aK w F p kn D) (hk:OkK kn) (hD:cF n D) (hs:dg bt w) (nF0:¬F 0) (nFb:¬F bt):
 Calls Tryz.prog 18 #[.pointer (some ⟨p,0,none⟩),.agg d.arr] w (aC w F p kn (fun _:Unit=> .tuple #[]) (drP d kn D)):=by
 obtain⟨Rr,hRr⟩:∃Rr,drP d kn D=Rr:=⟨_,rfl⟩
 rw[hRr]
 obtain⟨w1,e1,b0,m1,s1⟩:=bg w (.cells d.arr 28)
 have MM:=hQQ m1
 have KC:Hq (∀W,ae w1 W→W.heap[w.heap.size]?=some (.cells d.arr 28 (0,0))):=hQQ fun W hW=>hW.block b0
 have HR:=hQQ R
 have HH:=hQQ H
 have HK:=hQQ hk
 have HRR:=hQQ hRr
 clear b0 m1 R H hk hRr
 go_enter Tryz.func18,Tryz.ntmps18
 go_wp2_with fail
 refine aR (fun W=>W.heap[w.heap.size]?=some (.cells d.arr 28 (0,0))) (by kernel_rfl) ?_
 change dq _ _ _ _ _ _ _ _ (w1.drewN 1)
 have MR:Hq (ae w1 (w1.drewN 1)):=hQQ ((ae.refl w1).drewN 1)
 generalize w1.drewN 1=wq at MR⊢
 generalize hA:Act.mk _ _=A
 have HF:AG 13 A [(0,.pointer (some ⟨p,0,none⟩)),(3,.pointer (some ⟨w.heap.size,0,none⟩))]:=by
  rw[←hA];try simp only[pts,List.foldl]
  refine⟨⟨Nat.le_of_ble_eq_true rfl,rfl⟩,?_⟩
  intro z hz;simp only[List.mem_cons,List.not_mem_nil,or_false] at hz;rcases hz with rfl|rfl<;>rfl
 refine bK (fun aa W=>∃(u4 u5 u8 u9 u6 u7 u10 u11 u12:Value),aa=(pts A [(4,u4),(5,u5),(8,u8),(9,u9),(6,u6),(7,u7),(10,u10),(11,u11),(12,u12)])∧aC w F p kn (fun _:Unit=> .tuple #[]) Rr (.returned (.tuple #[])) W) (fun W=>aC w F p kn (fun _:Unit=> .tuple #[]) Rr (.panicked (aY p)) W) (aY p) (fun a W hd h=>⟨hd,h⟩) (fun _ _ _ _ _ h=>h) ?_ ?_
 ·skip
  rintro a9 wa ⟨u4,u5,u8,u9,u6,u7,u10,u11,u12,rfl,hfin⟩
  rw[←hA];try simp only[pts,List.foldl]
  have FN:=hQQ hfin
  clear HF hA MR hfin
  go_simp
  go_wp2_with fail
  go_end0
  exact FN.o
 intro QQ FINE FIND FINQ
 clear hA
 refine tqM 0 4 0 rfl (.inl rfl) rfl (by kernel_rfl) FINQ (KC.o _ MR.o) HF fun A hB1_4 HF=>?_
 refine tqC 1 5 (.agg d.arr) (by kernel_rfl) FINQ (KC.o _ MR.o) HF (by exact aF (ab rfl) 28 _ rfl w.heap.size (HF.get 2 rfl) 28 _ _ _ (fun W hW=>hW) Tryz.underlying28 rfl (by kernel_rfl)) fun A hB2_5 HF=>?_
 refine tqM 4 8 2 rfl (.inl rfl) rfl (by kernel_rfl) FINQ (KC.o _ MR.o) HF fun A hB3_8 HF=>?_
 refine tqC 5 9 (.agg d.arr) (by kernel_rfl) FINQ (KC.o _ MR.o) HF (by exact aF (ab rfl) 28 _ rfl w.heap.size (HF.get 4 rfl) 28 _ _ _ (fun W hW=>hW) Tryz.underlying28 rfl (by kernel_rfl)) fun A hB4_9 HF=>?_
 refine az (i:=2) (some 6) (by kernel_rfl) rfl (ab rfl) rfl (fun K hK=>?_)
 refine mP (v0:=.agg d.arr) rfl (HF.get 2 rfl) (enters_of Tryz.func45 (by kernel_rfl) rfl) ?_
 refine(vV HR.o wq).mono ?_
 rintro e w7 ⟨sb,cap,cur,rfl,hcb,hcu,⟨hsb,hcap⟩,h7⟩
 have CB:=hQQ hcb
 have CU:=hQQ hcu
 have M7:=hQQ (MR.o.trans h7)
 clear h7 hcb hcu
 refine hK _ _ (KC.o _ M7.o) ?_
 clear hK K
 replace HF:=HF.put 6 (.slice (some ⟨sb,0,none⟩) (famC d).m cap) (by decide) rfl
 generalize hB5_6:Act.put _ _ _=A at HF⊢
 refine az (i:=3) (some 7) (by kernel_rfl) rfl (ab rfl) rfl (fun K hK=>?_)
 refine bI (v0:=.pointer (some ⟨p,0,none⟩)) (v1:=.slice (some ⟨sb,0,none⟩) (famC d).m cap) rfl (HF.get 4 rfl) (HF.get 0 rfl) (enters_of Tryz.func50 (by kernel_rfl) rfl) ?_
 refine(tV p (some ⟨sb,0,none⟩) (famC d).m cap w7).mono ?_
 rintro e w8 ⟨rfl,rfl⟩
 obtain⟨w8,e8,b80,b81,h8,s8⟩:=gS w7 (.cells #[.pointer (some ⟨p,0,none⟩)] 43) (.cells #[.slice (some ⟨sb,0,none⟩) (famC d).m cap] 93)
 rw[e8]
 have B80:=hQQ b80
 have B81:=hQQ b81
 have N8:=hQQ h8
 have M8:=hQQ (M7.o.trans h8)
 clear h8 b80 b81 e8 s8
 refine hK _ _ (KC.o _ M8.o) ?_
 clear hK K
 replace HF:=HF.put 7 (.func (.func 88) #[] #[.pointer (some ⟨w7.heap.size+1,0,none⟩),.pointer (some ⟨w7.heap.size,0,none⟩)]) (by decide) rfl
 generalize hB6_7:Act.put _ _ _=A at HF⊢
 refine az (i:=6) (some 10) (by kernel_rfl) rfl (ab rfl) rfl (fun K hK=>?_)
 refine bI (v0:=.pointer (some ⟨p,0,none⟩)) (v1:=.agg d.arr) rfl (HF.get 3 rfl) (HF.get 2 rfl) (enters_of Tryz.func49 (by kernel_rfl) rfl) ?_
 refine(BF p d w8).mono ?_
 rintro e w9 ⟨rfl,rfl⟩
 obtain⟨w9,e1,b0,b1,h1,s1⟩:=gS w8 (.cells #[.pointer (some ⟨p,0,none⟩)] 43) (.cells d.arr 28)
 rw[e1]
 have V9:=hQQ b0
 have S9:=hQQ b1
 have N9:=hQQ h1
 have M9:=hQQ (M8.o.trans h1)
 clear h1 b0 b1 e1 s1
 refine hK _ _ (KC.o _ M9.o) ?_
 clear hK K
 replace HF:=HF.put 10 (.func (.func 86) #[] #[.pointer (some ⟨w8.heap.size,0,none⟩),.pointer (some ⟨w8.heap.size+1,0,none⟩)]) (by decide) rfl
 generalize hB7_10:Act.put _ _ _=A at HF⊢
 refine az (i:=7) (some 11) (by kernel_rfl) rfl (ab rfl) rfl (fun K hK=>?_)
 refine uo rfl (HF.get 0 rfl) ?_
 obtain⟨w10,e1,b10,h10,s10⟩:=bg w9 (.cells #[.func (.func 86) #[] #[.pointer (some ⟨w8.heap.size,0,none⟩),.pointer (some ⟨w8.heap.size+1,0,none⟩)]] 103)
 rw[e1]
 have B10:=hQQ b10
 have N10:=hQQ h10
 have M10:=hQQ (M9.o.trans h10)
 clear h10 b10 e1 s10
 refine hK _ _ (KC.o _ M10.o) ?_
 clear hK K
 replace HF:=HF.put 11 (.slice (some ⟨w9.heap.size,0,none⟩) 1 1) (by decide) rfl
 generalize hB8_11:Act.put _ _ _=A at HF⊢
 refine az (i:=8) (some 12) (by kernel_rfl) rfl (ab rfl) rfl (fun K hK=>?_)
 refine bI (v0:=.func (.func 88) #[] #[.pointer (some ⟨w7.heap.size+1,0,none⟩),.pointer (some ⟨w7.heap.size,0,none⟩)]) (v1:=.slice (some ⟨w9.heap.size,0,none⟩) 1 1) rfl (HF.get 2 rfl) (HF.get 0 rfl) (enters_of Tryz.func47 (by kernel_rfl) rfl) ?_
 have Fq9:∀q,F q→q<w.heap.size:=hv.lt
 have z1:w.heap.size+1≤w1.heap.size:=by omega
 have zq:w1.heap.size≤wq.heap.size:=MR.o.size
 have z7:wq.heap.size≤w7.heap.size:=by have:=ac CB.o;omega
 have z8:w7.heap.size+2≤w8.heap.size:=by have:=ac B81.o;omega
 have z9:w8.heap.size+2≤w9.heap.size:=by have:=ac S9.o;omega
 have z10:w9.heap.size≤w10.heap.size:=N10.o.size
 have n8:ae w8 w10:=N9.o.trans N10.o
 have n7:ae w7 w10:=N8.o.trans n8
 have M0:ae w w10:=MM.o.trans M10.o
 have hlen:=kt (famC d) (famC d).m
 have hm45:(famC d).m≤1000:=by
  have e:(famC d).m=5 * d.cp.toNat+5:=rfl
  have:=HR.o.cp2
  omega
 have LV:=xJ HR.o HH.o hn F p kn D HK.o w10 w7.heap.size (w7.heap.size+1) sb cap cur (famL (famC d) (famC d).m) (0,0) (hv.more M0) hD (hs.more M0) nF0 nFb (by omega) (by omega) (oD HR.o HH.o hw hn)
  (fun s h=>by obtain⟨i,hi,rfl⟩:=zD _ h;exact((ow HR.o hw).lo i hi).1) CU.o (n8.block B80.o) (by rw[hlen];exact n8.block B81.o) (n7.block CB.o)
  ⟨fun q=>by have:=Fq9 _ q;omega,fun q=>by have:=Fq9 _ q;omega,fun q=>by have:=Fq9 _ q;omega⟩ w9.heap.size 1 ⟨ac B10.o,fun q=>by have:=Fq9 _ q;omega⟩
  ⟨_,by simp[World.cell?,B10.o],_,_,rfl,N10.o.block V9.o,N10.o.block S9.o,fun q=>by rcases q with q|q;have:=Fq9 _ q;omega;exact q,fun q=>by rcases q with q|q;have:=Fq9 _ q;omega;exact q⟩
 refine LV.mono ?_
 intro e w15 he
 have FN:=hQQ (show aC w F p kn (fun _:Unit=> .tuple #[]) Rr e w15 by rw[←HRR.o];exact he.after M0)
 rcases hE:eW d.us d.pg d.st [.home] (famL (famC d) (famC d).m) kn D with a'|⟨x15,D15⟩
 ·rw[hE] at he
  obtain⟨rfl,hd,ht⟩:=he
  exact FIND _ _ HF.1.2 FN.o
 rw[hE] at he
 obtain⟨rfl,F15,hv15,ht15,hf15⟩:=he
 have L15:Hq (w15.heap[w.heap.size]?=some (.cells d.arr 28 (0,0))):=hQQ ((ht15.block w.heap.size (by omega) (fun q=>by have:=Fq9 _ q;omega)).trans (KC.o _ M10.o))
 clear LV hE hv15 ht15 hf15 Fq9 M0 z1 zq z7 z8 z9 z10 n8 n7 hlen hm45
 refine hK _ _ L15.o ?_
 clear hK K
 replace HF:=HF.put 12 (.tuple #[]) (by decide) rfl
 generalize hB9_12:Act.put _ _ _=A at HF⊢
 exact bQ (by kernel_rfl) (FINE _ _ ⟨(.pointer (some ⟨p,0,none⟩)),(.agg d.arr),(.pointer (some ⟨p,0,none⟩)),(.agg d.arr),(.slice (some ⟨sb,0,none⟩) (famC d).m cap),(.func (.func 88) #[] #[.pointer (some ⟨w7.heap.size+1,0,none⟩),.pointer (some ⟨w7.heap.size,0,none⟩)]),(.func (.func 86) #[] #[.pointer (some ⟨w8.heap.size,0,none⟩),.pointer (some ⟨w8.heap.size+1,0,none⟩)]),(.slice (some ⟨w9.heap.size,0,none⟩) 1 1),(.tuple #[]),by rw[←hB9_12,←hB8_11,←hB7_10,←hB6_7,←hB5_6,←hB4_9,←hB3_8,←hB2_5,←hB1_4]<;>rfl,FN.o⟩)
def Oh {d:Cfg}{n bt:Nat}(R:d.Ok)(H:cH d.pg d.st n)(hw:(n:Int)=d.words)(hn:n≤10000):uI d n bt where
 tkP:=tkP d
 gvP:=gvP d
 flP:=flP d
 drP:=drP d
 tkS:=IK R H hw hn
 gvS:=IE R H hw hn
 flS:=IG R H hw hn
 drS:=II R H hw hn
 tkG:=Ks R H hw hn
 gvG:=Kl R H hw hn
 flG:=Kn R H hw hn
 drG:=Kq R H hw hn
 tkF:=Kt R H hw hn
 gvF:=Km R H hw hn
 flF:=Kp R H hw hn
 drF:=Kr R H hw hn
 tkC F N p kn D w u c f P hv hk hD hs nF0 nFb hN pu hP:=ME R H hw hn F N p kn D w u c f P hv hk hD hs nF0 nFb hN pu hP
 gvC F N p kn D w u c a f P hv hk hD hs nF0 nFb hN pu hP ha:=MD R H hw hn F N p kn D w u c a f P hv hk hD hs nF0 nFb hN pu hP ha
 flC F N p kn D w f P hv hk hD hs nF0 nFb hN pu hP:=KA R H hw hn F N p kn D w f P hv hk hD hs nF0 nFb hN pu hP
 drC F p kn D w hv hk hD hs nF0 nFb:=KE R H hw hn F p kn D w hv hk hD hs nF0 nFb
section
variable {P:Program}
theorem pJ (w:World)(g o:Nat)(t ty:TypeId)(cur cells:Array Value)(hg:w.heap[g]?=some (.cells cur t (0,0)))(hs:o+cells.size≤cur.size)(hi:(P.info? ty).map (·.size)=some cells.size)(h1:cells.all (·.oneCell')=true):
 (storeVar ty ⟨g,o,none⟩ (.agg cells)).run P w=.ok () (w.setRow g (cur.toList.take o++cells.toList++cur.toList.drop (o+cells.size)).toArray):=by
 have:=run_storeCells_at (P:=P) g o t cells.toList 0 cur w hg (by simpa using hs) (fun v hv=>(Array.all_eq_true_iff_forall_mem.1 h1) v (by simpa using hv))
 cases hq:P.info? ty with
 |none=>simp[hq] at hi
 |some i =>
  have hs:cells.size=i.size:=by simp[hq] at hi;omega
  simp only[Nat.add_zero,Array.length_toList] at this
  simp[storeVar,sizeOf,typeInfo,hq,Value.cells,hs]
  simpa [hs] using this
theorem jW {o:Oper}{a:Act}{w:World}{K:Act→World→Prop}{Q:Exit→Act→World→Prop}(ty:TypeId)(x y:Operand)(ho:o.op=.store ty x y)
 (g off:Nat) (cells:Array Value) (hx:a.eval x=.pointer (some ⟨g,off,none⟩)) (hy:a.eval y=.agg cells)
 (t:TypeId) (cur:Array Value) (hg:w.heap[g]?=some (.cells cur t (0,0))) (hs:off+cells.size≤cur.size) (hi:(P.info? ty).map (·.size)=some cells.size) (h1:cells.all (·.oneCell')=true)
 (h:K (a.put o.dst undef) (w.setRow g (cur.toList.take off++cells.toList++cur.toList.drop (off+cells.size)).toArray)):o.wp P a w K Q:=by
 unfold Oper.wp execOp
 simp only[ho,hx,hy,Instr.storeAt,Instr.sureAddr,Sem.run_bind,Sem.run_pure,Result.andThen_ok,pJ w g off t ty cur cells hg hs hi h1]
 exact h
theorem gL {ops:Array Oper}{rest:List Oper}{o:Oper}{a:Act}{w:World}{Q:Exit→Act→World→Prop}(hgd:o.guard=none)(ty:TypeId)(x y:Operand)(ho:o.op=.store ty x y)
 (g off:Nat) (cells:Array Value) (hx:a.eval x=.pointer (some ⟨g,off,none⟩)) (hy:a.eval y=.agg cells)
 (t:TypeId) (cur:Array Value) (hg:w.heap[g]?=some (.cells cur t (0,0))) (hs:off+cells.size≤cur.size) (hi:(P.info? ty).map (·.size)=some cells.size) (h1:cells.all (·.oneCell')=true)
 (h:wpList P ops Q rest (a.put o.dst undef) (w.setRow g (cur.toList.take off++cells.toList++cur.toList.drop (off+cells.size)).toArray)):wpList P ops Q (o::rest) a w :=
 wpList_plain hgd fun _ hK=>jW ty x y ho g off cells hx hy t cur hg hs hi h1 (hK _ _ h)
end
def stL (pre:List Value)(fs:Nat→Nat→Value)(o ok:Value):List Value:=pre++((puA (fs 0)).toList++((puA (fs 1)).toList++ [o,ok]))
def StB (w:World)(g:Nat)(pre:List Value)(fs:Nat→Nat→Value)(o ok:Value):Prop:=pre.length=25∧w.heap[g]?=some (.cells (stL pre fs o ok).toArray 37 (0,0))
def nE (fs:Nat→Nat→Value)(n:Nat)(f:Nat→Value):Nat→Nat→Value:=fun k=>if k=n then f else fs k
theorem ns (f:Nat→Value):(puA f).toList.length=5:=rfl
theorem ny {pre:List Value}(h:pre.length=25)(fs:Nat→Nat→Value)(o ok:Value):(stL pre fs o ok).length=37:=by simp[stL,h,puA]
namespace StB
variable {w w':World}{g:Nat}{pre:List Value}{fs:Nat→Nat→Value}{o ok:Value}
theorem keep {S:Nat→Prop}(h:StB w g pre fs o ok)(t:Turned S w w')(n:¬S g):StB w' g pre fs o ok:=⟨h.1,(t.block g (ac h.2) n).trans h.2⟩
theorem more (h:StB w g pre fs o ok)(m:ae w w'):StB w' g pre fs o ok:=h.keep m (fun q=>q)
theorem lt (h:StB w g pre fs o ok):g<w.heap.size:=ac h.2
theorem row (h:StB w g pre fs o ok):w.cell? ⟨g,35,none⟩=some o:=by
 rw[cell_of_row w g 35 _ _ _ h.2]
 simp[stL,puA,h.1,List.getElem?_append]
theorem froz (h:StB w g pre fs o ok)(i:Nat):w.frozen? ⟨g,i,none⟩=false:=frozen_of_row w g i _ _ h.2
theorem range (h:StB w g pre fs o ok){n:Nat}(hn:n<2):w.rangeAt g (25+n * 5) (puA (fs n)).toList:=fun j v hv=>by
 have hj:j<5:=(List.getElem?_eq_some_iff.1 hv).1
 have hl:=h.1
 rw[cell_of_row w g _ _ _ _ h.2]
 simp only[List.getElem?_toArray]
 unfold stL
 rw[List.getElem?_append_right (by omega),h.1]
 match n,hn with
 | 0,_ =>
   rw[show 25+0 * 5+j-25=j by omega,List.getElem?_append_left (by rw[ns];omega)]
   exact hv
 | 1,_ =>
   rw[List.getElem?_append_right (by rw[ns];omega),ns,show 25+1 * 5+j-25-5=j by omega,List.getElem?_append_left (by rw[ns];omega)]
   exact hv
theorem put (h:StB w g pre fs o ok){n:Nat}(hn:n<2)(f:Nat→Value)(cur:Array Value)(hc:cur=(stL pre fs o ok).toArray):StB (w.setRow g (cur.toList.take (25+n * 5)++(puA f).toList++cur.toList.drop (25+n * 5+(puA f).size)).toArray) g pre (nE fs n f) o ok:=by
 refine⟨h.1,?_⟩
 rw[setRow_heap _ _ _ _ _ _ h.2]
 subst hc
 have hl:=h.1
 have e:(stL pre fs o ok).take (25+n * 5)++(puA f).toList++(stL pre fs o ok).drop (25+n * 5+5)=stL pre (nE fs n f) o ok:=by
  unfold stL
  match n,hn with
  | 0,_ =>
    rw[show 25+0 * 5=pre.length by omega,List.take_left' rfl,List.drop_append,List.drop_eq_nil_of_le (by omega),show pre.length+5-pre.length=(puA (fs 0)).toList.length by rw[ns];omega,List.drop_left' rfl]
    simp[nE]
  | 1,_ =>
    rw[show pre++((puA (fs 0)).toList++((puA (fs 1)).toList++ [o,ok]))=(pre++(puA (fs 0)).toList)++((puA (fs 1)).toList++ [o,ok]) by simp,show 25+1 * 5=(pre++(puA (fs 0)).toList).length by simp[puA,hl],List.take_left' rfl,List.drop_append,List.drop_eq_nil_of_le (by omega),show(pre++(puA (fs 0)).toList).length+5-(pre++(puA (fs 0)).toList).length=(puA (fs 1)).toList.length by rw[ns];omega,List.drop_left' rfl]
    simp[nE]
 have e5:(puA f).size=5:=rfl
 rw[e5]
 simp only[e]
theorem zero (h:StB w g pre fs o ok)(cur:Array Value)(hc:cur=(stL pre fs o ok).toArray)(z:Array Value)(hz:z= #[.slice none 0 0,.slice none 0 0,.slice none 0 0,.slice none 0 0,.slice none 0 0,.slice none 0 0,.slice none 0 0,.slice none 0 0,.slice none 0 0,.slice none 0 0]):StB (w.setRow g (cur.toList.take 25++z.toList++cur.toList.drop (25+z.size)).toArray) g pre (fun _ _=> .slice none 0 0) o ok:=by
 refine⟨h.1,?_⟩
 rw[setRow_heap _ _ _ _ _ _ h.2]
 subst hc
 have e5:z.size=10:=by rw[hz];rfl
 have hl:=h.1
 have e:(stL pre fs o ok).take 25++z.toList++(stL pre fs o ok).drop (25+10)=stL pre (fun _ _=> .slice none 0 0) o ok:=by
  subst hz
  unfold stL
  rw[show 25=pre.length by omega,List.take_left' rfl,List.drop_append,List.drop_eq_nil_of_le (by omega),show pre.length+10-pre.length=10 by omega]
  simp[puA]
 rw[e5]
 simp only[e]
theorem put35 (h:StB w g pre fs o ok)(v:Value):StB (w.setCell ⟨g,35,none⟩ v) g pre fs v ok:=by
 refine⟨h.1,?_⟩
 rw[heap_setCell_same w g 35 _ _ v h.2]
 have hl:=h.1
 congr 2
 simp[stL,puA,hl,List.set_append]
end StB
def NR (w:World)(S:Nat→Prop)(Y:World→Prop)(X:Nat→World→Prop)(R:Ran)(e:Ending)(w':World):Prop :=
 match R with
 | .need a=>e=.returned (.tuple #[.int .i64 a,.slice none 0 0])∧Turned S w w'∧Y w'
 | .done D=>∃v p b,e=.returned (.tuple #[.int .i64 (-1),v])∧PRw w.heap.size w' v D∧Turned S w w'∧Y w'∧(w.heap.size≤b∧X b w')∧aQ w' p (-1)
theorem KF (kn:Int→Option Int)(R:Ran)(M n:Nat)(w:World)(hk:KnownAt w M n kn)(f:Nat)(cap:Array Value)(S:Nat→Prop)(Y:World→Prop)(X:Nat→World→Prop)
 (henter:∀args w,Sem.run Tryz.prog (callFunc f args) w=.ok (.enter f args) w) (hS:∀k,S k→k<w.heap.size) (hY:∀w' w'',Y w'→Turned (fun k=>w.heap.size≤k) w' w''→Y w'') (hX:∀b w' w'',w.heap.size≤b→X b w'→Turned (fun k=>w.heap.size≤k∧k<b) w' w''→X b w'') (hY0:Y w)
 (hprog:∀(W:World) (F:Nat→Prop) (p:Nat),ae w W→Y W→aK W F p kn []→(∀k,F k→w.heap.size≤k)→Calls Tryz.prog f (#[.pointer (some ⟨p,0,none⟩)]++cap) W (gO W F S Y (X W.heap.size) p kn R)):
 Calls Tryz.prog 42 #[.map (some M),.func (.func f) #[] cap] w (NR w S Y X R):=by
 have hq:∀w,Sem.run Tryz.prog (binOp BinOp.eql 52 (Value.func (.func f) #[] cap) Value.nilFunc) w=.ok (.bool false) w:=fun w=>kE w _ Tryz.underlying52 _ _ _
 have hmf:∀(fn:Fn) (first cap:Array Value) (w:World),(Instr.makeFunc fn first cap).run Tryz.prog w=.ok (.func fn first cap) w:=fun _ _ _ _=>rfl
 have HK:=hQQ hk
 have HS:=hQQ hS
 have HX:=hQQ hX
 have HY:=hQQ hY
 have HY0:=hQQ hY0
 have HP:=hQQ hprog
 clear hk hS hX hY hY0 hprog
 go_enter_defers Tryz.func42,Tryz.ntmps42
 go_wp2_with fail
 refine(Ge _).mono ?_
 rintro e w1 ⟨F0,q,rfl,m1,M1,n1⟩
 obtain⟨F,hbeg⟩:=yd HK.o m1 M1 n1
 have HB:=hQQ hbeg
 have hws:w.heap.size<w1.heap.size:=by have:=M1.size;simp at this;omega
 clear hbeg m1 M1 n1
 go_wp2_with fail
 change Calls _ _ _ ((w1.alloc (.cells (cD (some ⟨w1.heap.size,0,none⟩) M q (-1)) 110)).alloc (.cells #[.pointer (some ⟨w1.heap.size,0,none⟩)] 43)) _
 generalize (w1.alloc (.cells (cD (some ⟨w1.heap.size,0,none⟩) M q (-1)) 110)).alloc (.cells #[.pointer (some ⟨w1.heap.size,0,none⟩)] 43)=W at HB⊢
 generalize w1.heap.size+1=bv at HB⊢
 generalize w1.heap.size=p at HB⊢
 have hlw:Hq (∀k,k<w.heap.size→k≠bv∧k≠p):=hQQ fun k hk=>by have:=HB.o.lv;have:=HB.o.lp;omega
 have HPW:Hq (p<W.heap.size):=hQQ (by obtain⟨_,_,_,_,_,_,_,fp,_,_⟩:=HB.o.view.ex;exact HB.o.view.lt p fp)
 clear hws
 refine(HP.o W F p HB.o.more (HY.o _ _ HY0.o (Turned.mono HB.o.more (fun _ _ q=>q.elim))) HB.o.view HB.o.new).mono ?_
 intro e w2 he
 cases R with
 |need a =>
  obtain⟨rfl,hd,ht,hy⟩:=he
  obtain⟨hv2,hn2,ne1,ne2⟩:=rB HB.o HS.o ht
  change bodyPostD _ _ _ (Exit.panic (aY p)) _ _
  refine leaves_cons (f:=77) (args:=#[.pointer (some ⟨bv,0,none⟩),.pointer (some ⟨w.heap.size,0,none⟩)]) (by simp) (by simp[go_sem]) ?_
  refine(uW p bv w.heap.size a 0 w2 hd hv2 hn2 ne1 ne2 HB.o.vn).mono ?_
  rintro e u' w3 ⟨rfl,rfl,hc⟩
  obtain⟨b0,_,_⟩:=aE hc.2.1
  have FIN:Turned S w w3∧Y w3:=⟨oP HB.o ht hc.2.2,HY.o _ _ hy (hc.2.2.mono (fun k _ q=>by have:=HB.o.lp;rcases q with q|q<;>omega))⟩
  simp[Leaves,settle,results,Tryz.results42,go_sem,b0]
  exact⟨rfl,FIN⟩
 |done D =>
  obtain⟨rfl,⟨F',hv⟩,ht,hy,hx⟩:=he
  obtain⟨hv2,hn2,ne1,ne2⟩:=rB HB.o HS.o ht
  obtain⟨M',q',n',F0',hp2,hk2,hm2,fp2,f02,fM2⟩:=hv.ex
  obtain⟨c0,c1,c2,c3,cf,cl⟩:=cT hp2
  obtain⟨v0,vf,vl⟩:=aE hv2
  have TOLD:=hQQ (Cx F0' p q' D w2 c2 hm2)
  have HT:=hQQ ht
  have HX2:=hQQ hx
  have HY2:=hQQ hy
  have HP2:=hQQ hp2
  have HV2:=hQQ hv2
  have HN2:=hQQ hn2
  clear hv hk2 hm2 fp2 f02 fM2 hp2 hv2 hn2 ht hx hy
  go_wp2_with fail
  refine TOLD.o.mono ?_
  rintro e w3 ⟨v,rfl,hr,hm3⟩
  obtain⟨n0,nf,nl⟩:=aE (hm3.block HN2.o)
  have HR:=hQQ hr
  have HM3:=hQQ hm3
  clear hr hm3
  go_wp2_with fail
  have t4:Turned (fun k=>k=p∨k=w.heap.size) w3 (w3.setCell ⟨w.heap.size,0,none⟩ (.int .i64 (-1))):=bF (Turned.refl _ w3) (fun _=> .inr rfl) _
  have hp4:(w3.setCell ⟨w.heap.size,0,none⟩ (.int .i64 (-1))).heap[p]?=_:=(Below.heap_setCell _ _ _ _ (Ne.symm ne2)).trans (HM3.o.block HP2.o)
  have hv4:(w3.setCell ⟨w.heap.size,0,none⟩ (.int .i64 (-1))).heap[bv]?=_:=(Below.heap_setCell _ _ _ _ HB.o.vn).trans (HM3.o.block HV2.o)
  have hn4:=kF (.int .i64 (-1)) (HM3.o.block HN2.o)
  have hm3:=HM3.o
  have hr:=HR.o
  have hlp2:=cl
  have hln2:w.heap.size<w2.heap.size:=ac HN2.o
  generalize w3.setCell ⟨w.heap.size,0,none⟩ (.int .i64 (-1))=w4 at t4 hp4 hv4 hn4⊢
  refine leaves_cons (f:=77) (args:=#[.pointer (some ⟨bv,0,none⟩),.pointer (some ⟨w.heap.size,0,none⟩)]) (by simp) (by simp[go_sem]) ?_
  refine(sj p bv w.heap.size M' q' (-1) w4 hp4 hv4 hn4 ne1 ne2 HB.o.vn).mono ?_
  rintro e u' w5 ⟨rfl,rfl,hc⟩
  obtain⟨b0,_,_⟩:=aE hc.2.1
  have t35:Turned (fun k=>k=p∨k=w.heap.size) w3 w5:=t4.trans hc.2.2
  have FIN:NR w S Y X (.done D) (.returned (.tuple #[.int .i64 (-1),v])) w5:=by
   refine⟨v,p,W.heap.size,rfl,(hr.keep t35 (fun k hk q=>by rcases q with q|q<;>omega)).mono (by omega),?_,?_,?_,hc.1⟩
   ·exact oP HB.o HT.o ((Turned.mono hm3 (fun _ _ q=>q.elim)).trans t35)
   ·have hlp:=HB.o.lp
    exact HY.o w2 w5 HY2.o ((Turned.mono hm3 (fun _ _ q=>q.elim)).trans (t35.mono (fun k _ q=>by rcases q with q|q<;>omega)))
   ·have hlp:=HB.o.lp
    have hpW:=HPW.o
    exact⟨by omega,HX.o W.heap.size w2 w5 (by omega) HX2.o ((Turned.mono hm3 (fun _ _ q=>q.elim)).trans (t35.mono (fun k _ q=>by rcases q with q|q<;>omega)))⟩
  simp[Leaves,settle,results,Tryz.results42,go_sem,b0]
  exact FIN
def KG (w:World)(S:Nat→Prop)(Y:World→Prop)(X:Nat→World→Prop)(R:Option (List Int×List KV))(e:Ending)(w':World):Prop :=
 match R with
 |none=>e=.returned (.tuple #[.slice none 0 0,.slice none 0 0,.int .i64 3])∧Turned S w w'∧Y w'
 |some (ws,K)=>∃v1 v2 b,e=.returned (.tuple #[v1,v2,.int .i64 0])∧Rw w.heap.size w' v1 ws∧PRw w.heap.size w' v2 K∧Turned S w w'∧Y w'∧w.heap.size≤b∧X b w'
theorem KH {w wb wr w2 w3:World}{S:Nat→Prop}{Y:World→Prop}{X:Nat→World→Prop}{M:Nat}{zs:List Int}{sem:List KV→Ran}{R:Option (List Int×List KV)}{K D:List KV}{a' an:Option Addr}{cap' cn:Nat}{e:Ending}(h:OnY w wb wr S Y M zs sem R K (.slice an K.length cn))(hs:sem K=.done D)(mb:ae w wb)(hM:w.heap.size≤M)
 (hl:∀k,c6 a' k→w.heap.size≤k∧k<wb.heap.size) (hS:∀k,S k→k<w.heap.size) (m2:Turned S wr w2) (hf:jd w2 zs D a' cap' (.slice an K.length cn) e w3)
 (hY:∀w' w'',Y w'→Turned (fun k=>w.heap.size≤k) w' w''→Y w'') (hX:∀b w' w'',w.heap.size≤b→X b w'→Turned (fun k=>w.heap.size≤k∧k<b) w' w''→X b w'') (y2:Y w2) {b:Nat} (hb:wb.heap.size≤b) (x2:X b w2):KG w S Y X R e w3:=by
 have hR:=yh h.okn hs h.res
 have mbS:Turned S w wb:=Turned.mono mb (fun _ _ q=>q.elim)
 have t3:Turned S w w3:=by
  have t1:Turned S w wr:=am mbS h.turn (fun k q=>by rcases q with q|q;exact .inr (by omega);exact .inl q)
  exact am (am t1 m2 (fun k q=> .inl q)) hf.1 (fun k q=> .inr (hl k q).1)
 have t23:Turned (fun k=>w.heap.size≤k) w2 w3:=hf.1.mono (fun k _ q=>(hl k q).1)
 rcases hf.2 with⟨h1,h2,h3⟩|⟨h1,h2⟩
 ·rw[hR,if_pos h1]
  have hlen:(cj zs D).length=zs.length:=d6 D zs
  have hwb:=mb.size
  refine⟨_,_,b,h2,?_,?_,t3,hY _ _ y2 t23,by omega,hX b _ _ (by omega) x2 (hf.1.mono (fun k _ q=>by have:=hl k q;omega))⟩
  ·have:=h3.own (base:=w.heap.size) (fun k q=>(hl k q).1)
   unfold Rw
   rw[List.length_map,hlen] at this
   rw[hlen];exact this
  ·have hb:=mb.size
   exact((h.row.keep m2 (fun k hk q=>by have:=hS k q;omega)).keep hf.1 (fun k hk q=>by have:=(hl k q).2;omega)).mono mb.size
 ·rw[hR,h1]
  exact⟨h2,t3,hY _ _ y2 t23⟩
theorem IX (a:Option Addr)(cap:Nat)(zs:List Int)(sem:List KV→Ran)(R:Option (List Int×List KV))(b:Nat)(w:World)(hz:jx w a zs)(hlen:zs.length≤1000)(hok:OkW zs)(hfine:wF zs b sem)(hb:b≤100000)(hR:doP sem zs (zs.length+1) []=R)(f:Nat)(clo:Array Value)(S:Nat→Prop)(Y:World→Prop)(X:Nat→World→Prop)(hS:∀k,S k→k<w.heap.size)
 (hY:∀w' w'',Y w'→Turned (fun k=>w.heap.size≤k) w' w''→Y w'') (hX:∀b w' w'',w.heap.size≤b→X b w'→Turned (fun k=>w.heap.size≤k∧k<b) w' w''→X b w'') (hY0:Y w)
 (henter:∀args w,Sem.run Tryz.prog (callFunc f args) w=.ok (.enter f args) w)
 (hprog:∀(K:List KV),jQ zs K→∀(W:World) (F:Nat→Prop) (p:Nat),Turned S w W→Y W→aK W F p (look K) []→(∀k,F k→w.heap.size≤k)→Calls Tryz.prog f (#[.pointer (some ⟨p,0,none⟩)]++clo) W (gO W F S Y (X W.heap.size) p (look K) (sem K))):
 Calls Tryz.prog 9 #[.slice a zs.length cap,.func (.func f) #[] clo] w (KG w S Y X R):=by
 have hmm:= @run_makeMap Tryz.prog
 have CL:=hQQ (qF a cap zs w hz (by omega))
 have HOK:=hQQ hok
 have HF:=hQQ hfine
 have HR0:=hQQ hR
 have HE:=hQQ henter
 have HP:=hQQ hprog
 have HSS:=hQQ hS
 have HY:=hQQ hY
 have HX:=hQQ hX
 have HY0:=hQQ hY0
 clear hz hok hfine hR henter hprog hS hY hX hY0
 go_enter Tryz.func9,Tryz.ntmps9
 go_wp2_with fail
 refine CL.o.mono ?_
 rintro e w1 ⟨a',cap',rfl,hr1,hn1,hm1⟩
 have DO0:Hq (OnY w (w1.alloc (.map #[] 0)) (w1.alloc (.map #[] 0)) S Y w1.heap.size zs sem R [] (.slice none 0 0)):=hQQ
  ⟨oQ zs,HR0.o,PRw.nil _ _,KnownAt.made w1,Turned.refl _ _,HY.o _ _ HY0.o (Turned.mono (hm1.alloc _) (fun _ _ q=>q.elim))⟩
 have MB:Hq (ae w (w1.alloc (.map #[] 0))):=hQQ (hm1.alloc _)
 have RB:=hQQ (hr1.keep ((ae.refl w1).alloc (.map #[] 0)) (fun _ _ q=>q))
 have HL:Hq (∀k,c6 a' k→w.heap.size≤k∧k<(w1.alloc (.map #[] 0)).heap.size∧k≠w1.heap.size):=hQQ fun k q=>⟨hn1 k q,by have:=hr1.lt k q;simp;omega,by have:=hr1.lt k q;omega⟩
 have hwM:w.heap.size≤w1.heap.size:=hm1.size
 have hMb:w1.heap.size<(w1.alloc (.map #[] 0)).heap.size:=by simp
 clear hr1 hn1 hm1 CL
 go_wp2_with fail
 generalize w1.alloc (.map #[] 0)=wb at DO0 MB RB HL hMb⊢
 generalize w1.heap.size=M at DO0 HL hwM hMb⊢
 go_loopw [8] (fun u8 wr=>∃K,OnY w wb wr S Y M zs sem R K u8∧qG u8=K.length) (fun u8 _=>zs.length+1-qG u8)
 case atStart=>exact⟨[],DO0.o,rfl⟩
 case round =>
  obtain⟨K,hdo,hln⟩:=hrel
  obtain⟨an,cn,rfl,hpn,_⟩:=hdo.row.reads
  have DO:=hQQ hdo
  have hKl:=hdo.okn.len
  have hsz:w.heap.size≤wr.heap.size:=Nat.le_trans MB.o.size hdo.turn.size
  have hmr:Turned S w wr:=am (Turned.mono MB.o (fun _ _ q=>q.elim)) hdo.turn (fun k q=>by rcases q with q|q;exact .inr (by omega);exact .inl q)
  have LS:=hQQ (fun k (q:S k)=>HSS.o k q)
  have RUN:=hQQ (KF (look K) (sem K) M K.length wr hdo.known f clo S Y X HE.o (fun k q=>Nat.lt_of_lt_of_le (HSS.o k q) hsz) (fun w' w'' h t=>HY.o w' w'' h (t.mono (fun k _ q=>Nat.le_trans hsz q))) (fun b w' w'' hb h t=>HX.o b w' w'' (by omega) h (t.mono (fun k _ q=>by omega))) hdo.y
   (fun W F p m y v n=>HP.o K hdo.okn W F p (am (F':=fun _=>False) hmr m (fun _ q=>q.elim)) y v (fun k hk=>Nat.le_trans hsz (n k hk))))
  have HFK:=hQQ (HF.o K hdo.okn)
  have RW:Hq (RowAt wr 3 (zs.map (Value.int .i64)) a' cap'):=hQQ (RB.o.keep hdo.turn (fun k q e=>by rcases e with e|e;exact(HL.o k q).2.2 e;have:=HSS.o k e;have:=(HL.o k q).1;omega))
  clear hdo hpn hmr hsz DO0 hln
  go_wp2_with fail
  refine RUN.o.mono ?_
  intro e w2 he
  cases hs:sem K with
  |need x =>
   rw[hs] at he
   obtain⟨rfl,hm2,hy2⟩:=he
   have HS:=hQQ hs
   have hx0:0≤x:=by have:=HFK.o;rw[hs] at this;exact this.1
   clear hs RUN
   obtain⟨j,rfl⟩:∃j:Nat,x=j:=⟨x.toNat,by omega⟩
   have HM2:Hq (Turned S wr w2):=hQQ hm2
   have Y2:=hQQ hy2
   have nSM:¬S M:=fun q=>by have:=HSS.o M q;omega
   have nSa:∀k,c6 a' k→¬S k:=fun k q r=>by have:=HSS.o k r;have:=(HL.o k q).1;omega
   have bW:w.heap.size≤wb.heap.size:=MB.o.size
   clear hm2 hy2
   have HFJ:=HFK.o
   rw[HS.o] at HFJ
   by_cases hj:j<zs.length
   ·obtain⟨q1,q2,q3,q4⟩:=yg DO.o.okn HFK.o HS.o (by omega) DO.o.res
    have d1:decide ((zs.length:Int)≤(j:Int))=false:=by simp;omega
    have d3:decide (zs.length≤j)=false:=by simp;omega
    have d2:decide ((j:Int)<0)=false:=by simp
    have hrow:=RW.o.keep HM2.o nSa
    obtain⟨g,rfl,hg,hcell,_⟩:=hrow.reads (by simp;omega)
    have hgM:g≠M:=(HL.o g rfl).2.2
    have cw:w2.cell? ⟨g,j,none⟩=some (.int .i64 (wAt zs j)):=by
     refine hcell j _ ?_
     unfold wAt
     rw[List.getElem?_map,List.getElem?_eq_getElem hj]
     simp[List.getD,hj]
    obtain⟨w3,hst,hk3,ht3⟩:=(DO.o.known.keep HM2.o nSM).store HFJ.2.1 (Aq HOK.o j) (by unfold maxLen;omega)
    rw[uY q4] at hk3
    have T23:=hQQ ht3
    have K3:=hQQ hk3
    have cw3:=eh ht3 hgM cw
    have hg3:g<w3.heap.size:=Nat.lt_of_lt_of_le hg ht3.size
    have TB3:Hq (Turned (fun k=>k=M∨S k) wb w3):=hQQ ((am DO.o.turn HM2.o (fun _ q=> .inl (.inr q))).trans (ht3.mono (fun _ _ q=> .inl q)))
    have YW3:Hq (Y w3):=hQQ (HY.o _ _ Y2.o (ht3.mono (fun k _ q=>by subst q;exact hwM)))
    have R3:Hq (PRw wb.heap.size w3 (.slice an K.length cn) K):=hQQ ((DO.o.row.keep HM2.o (fun k hk q=>by have:=HSS.o k q;omega)).keep ht3 (fun k hk e=>by omega))
    have NX:Hq (∀w4 v,PRw wb.heap.size w4 v (K++ [((j:Int),wAt zs j)])→Turned (fun k=>k=M∨S k) wb w4→(∀k ob,w3.heap[k]?=some ob→(Value.slice an K.length cn).ownBlock≠some k→w4.heap[k]?=some ob)→Y w4→OnY w wb w4 S Y M zs sem R (K++ [((j:Int),wAt zs j)]) v):=hQQ fun w4 v h1 h2 h3 h5 =>
     ⟨q1,q2,h1,by rw[List.length_append];exact K3.o.of_block (fun ob ho=>h3 M ob ho (fun e=>by have:=(DO.o.row.lt M e).1;omega)),h2,h5⟩
    clear hrow hcell hk3 ht3 q1 q2 q3 q4 HFJ
    generalize wAt zs j=z at cw hst cw3 NX
    go_wp2_with (at_builtin;refine oU (S:=fun k=>k=M∨S k) (wa:=wb) (ps:=K) (j:Int) z rfl _ _ rfl rfl R3.o TB3.o (by omega) rfl ?_;intro g4 c4 w4 h4 t4 k4 u4;have N4:=hQQ (NX.o _ _ h4 t4 k4 (HY.o _ _ YW3.o (u4.mono (fun k _ q=>Nat.le_trans bW (DO.o.row.lt k q).1))));clear h4 t4 k4 u4)
    go_roundw
    case rel=>exact⟨_,N4.o,by simp[qG]⟩
    case measure=>simp[qG];omega
   ·have hn:=Cy DO.o.okn HS.o (by omega) DO.o.res
    subst hn
    have d1:decide ((zs.length:Int)≤(j:Int))=true:=by simp;omega
    have d3:decide (zs.length≤j)=true:=by simp;omega
    have d2:decide ((j:Int)<0)=false:=by simp
    have FIN:Hq (KG w S Y X none (.returned (.tuple #[.slice none 0 0,.slice none 0 0,.int .i64 3])) w2):=hQQ ⟨rfl,am (am (Turned.mono MB.o (fun _ _ q=>q.elim)) DO.o.turn (fun k q=>by rcases q with q|q;exact .inr (by omega);exact .inl q)) HM2.o (fun k q=> .inl q),Y2.o⟩
    clear HFJ hj
    go_wp2_with fail
    go_ret3
    exact FIN.o
  |done D =>
   rw[hs] at he
   obtain⟨v,p,bX,rfl,hr,hm2,hy2,⟨hbX,hx2⟩,_⟩:=he
   have nSa:∀k,c6 a' k→¬S k:=fun k q r=>by have:=HSS.o k r;have:=(HL.o k q).1;omega
   obtain⟨ad,cd,rfl,hpd,hbd⟩:=hr.reads
   have hfk:=HFK.o
   rw[hs] at hfk
   have FINI:=hQQ (vd zs D a' ad an cap' cd K.length cn w2 (RW.o.keep hm2 nSa) hpd (by have:=hfk.2.2;omega) (by omega) hfk.1 (fun k q r=>by have:=hbd k q;have:=(HL.o k r).2.1;have:=DO.o.turn.size;omega))
   have FIN:Hq (∀e w3,jd w2 zs D a' cap' (.slice an K.length cn) e w3→KG w S Y X R e w3):=hQQ fun e w3 h=>KH DO.o hs MB.o hwM (fun k q=>⟨(HL.o k q).1,(HL.o k q).2.1⟩) HSS.o hm2 h HY.o HX.o hy2 (Nat.le_trans DO.o.turn.size hbX) hx2
   clear hs RUN hr hm2 hpd hbd hfk hy2 hx2
   go_wp2_with fail
   refine FINI.o.mono ?_
   intro e w3 he
   have hfin:=FIN.o e w3 he
   rcases he.2 with⟨_,rfl,_⟩|⟨_,rfl⟩
   ·have F2:=hQQ hfin
    clear hfin he
    go_wp2_with fail
    go_ret3
    exact F2.o
   ·have F2:=hQQ hfin
    clear hfin he
    go_wp2_with fail
    go_ret3
    exact F2.o
end Go.Proofs.YtddmeghbmdfgeaaGreatDoor
