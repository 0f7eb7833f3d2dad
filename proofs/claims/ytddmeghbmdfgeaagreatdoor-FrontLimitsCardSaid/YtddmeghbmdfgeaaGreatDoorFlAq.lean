/-
  Purses beside a view: they stand in blocks that are none of the view's; what a function that is handed a view and a purse comes to.
-/
import Derived.Test.YtddmeghbmdfgeaaGreatDoorFlAp
import Derived.Test.YtddmeghbmdfgeaaGreatDoorFlAf
import Derived.Test.YtddmeghbmdfgeaaGreatDoorFlAa
import Derived.Test.YtddmeghbmdfgeaaGreatDoorFlAh
import Derived.Laws.Tables
import Derived.Test.YtddmeghbmdfgeaaGreatDoorFlAo
import Derived.Laws.OwnMore
import Derived.Laws.AppendOwnNone
import Derived.Maps.AppendAt
import Derived.Shelf.Abstract
set_option maxRecDepth 100000
set_option maxHeartbeats 8000000
set_option linter.unusedVariables false
set_option linter.unusedSimpArgs false
set_option linter.unusedSectionVars false
namespace Go.Proofs.YtddmeghbmdfgeaaGreatDoor
open Go.RowKit Go.Sort Go.Maps Go.Shelf
def cR (F:Nat→Prop)(w:World)(f:Nat→Value)(P:Nat→List Int):Prop:=Pu w f P∧PuN (fun q=>¬F q) f
theorem cR.nil (F:Nat→Prop)(w:World):cR F w (fun _=> .slice none 0 0) (fun _=> []):=⟨fun _ _=>Rd.nil w,PuN.nil _⟩
theorem cR.more {F:Nat→Prop}{w w':World}{f:Nat→Value}{P:Nat→List Int}(h:cR F w f P)(m:ae w w'):cR F w' f P:=⟨h.1.more m,h.2⟩
theorem cR.stay {F F1:Nat→Prop}{w w':World}{f:Nat→Value}{P:Nat→List Int}(h:cR F w f P)(s:∀b o,¬F b→w.heap[b]?=some o→w'.heap[b]?=some o)(n:∀b,F1 b→F b∨w.heap.size≤b):cR F1 w' f P:=by
 refine⟨fun c hc=>?_,fun c hc q e z=>?_⟩
 ·obtain⟨a,cap,hv,h1,h2,z⟩:=h.1 c hc
  refine⟨a,cap,hv,h1,h2,z.imp id ?_⟩
  rintro⟨g,cur,rfl,hg,r⟩
  exact⟨g,cur,rfl,s _ _ (h.2 c hc g (by rw[hv];rfl)) hg,r⟩
 ·rcases n q z with r|r
  ·exact h.2 c hc q e r
  ·have:=h.1.lt c hc q e
   omega
theorem cR.keep {F:Nat→Prop}{w w':World}{f:Nat→Value}{P:Nat→List Int}(h:cR F w f P){S:Nat→Prop}(t:Turned S w w')(hs:∀k,S k→∃cs T fr,w.heap[k]?=some (.cells cs T fr)∧T≠3):cR F w' f P:=⟨h.1.keep t hs,h.2⟩
theorem cR.stayN {F F1 N:Nat→Prop}{w w':World}{f:Nat→Value}{P:Nat→List Int}(h:cR (fun q=>N q∨F q) w f P)(s:∀b o,¬F b→w.heap[b]?=some o→w'.heap[b]?=some o)(n:∀b,F1 b→F b∨w.heap.size≤b):cR (fun q=>N q∨F1 q) w' f P :=
 h.stay (fun b o nb hb=>s b o (fun q=>nb (.inr q)) hb) (fun b q=>by
  rcases q with q|q
  ·exact .inl (.inl q)
  ·exact(n b q).imp .inr id)
theorem eI.at {F:Nat→Prop}{w w':World}{P:Nat→List Int}{val:Value→Value}{e:Ending}(h:eI w (fun q=>¬F q) P val e w')(l:∀q,F q→q<w.heap.size):∃f,e=.returned (val (.agg (puA f)))∧cR F w' f P∧ae w w':=by
 obtain⟨f,e1,h1,m1,n1⟩:=h
 refine⟨f,e1,⟨h1,n1.mono fun q z y=>?_⟩,m1⟩
 rcases z with z|z
 ·exact z y
 ·have:=l q y;omega
def iw {α:Type}(w:World)(F N:Nat→Prop)(p:Nat)(kn:Int→Option Int)(val:α→Value→Value)(R:Res (α×(Nat→List Int)))(e:Ending)(w':World):Prop :=
 match R with
 | .need a=>uT w F p a e w'
 | .ok x D=>∃f F',e=.returned (val x.1 (.agg (puA f)))∧aK w' F' p kn D∧Turned F w w'∧(∀k,F' k→F k∨w.heap.size≤k)∧cR (fun q=>N q∨F' q) w' f x.2
theorem MidV.stepP {α:Type}{W wr w1 w2:World}{F S F' N:Nat→Prop}{p n:Nat}{kn:Int→Option Int}{D:List KV}{val:α→Value→Value}{Q:(α×(Nat→List Int))→Prop}{pr:Prg (α×(Nat→List Int))}{e:Ending}(h:MidV W wr F S p kn n D F')(m:ae wr w1)(hk:OkK kn)(G:bV n Q pr)(he:iw w1 F' N p kn val (pr kn D) e w2):
 (∃a,pr kn D=.need a∧e=.panicked (aY p)∧aQ w2 p a∧Turned (fun b=>F b∨S b) W w2∧∀b o,¬F' b→wr.heap[b]?=some o→w2.heap[b]?=some o) ∨
 (∃x f D1 F1,pr kn D=.ok x D1∧e=.returned (val x.1 (.agg (puA f)))∧MidV W w2 F S p kn n D1 F1∧cR (fun q=>N q∨F1 q) w2 f x.2∧Q x∧(∀b o,¬F' b→wr.heap[b]?=some o→w2.heap[b]?=some o)∧∀b,F1 b→F' b∨wr.heap.size≤b):=by
 have hm:=h.more m
 have hs:=m.size
 have hK:∀t,Turned F' w1 t→∀b o,¬F' b→wr.heap[b]?=some o→t.heap[b]?=some o:=fun t ht b o nb hb=>(ht.block b (ac (m.block hb)) nb).trans (m.block hb)
 cases hE:pr kn D with
 |need a =>
  rw[hE] at he
  obtain⟨h1,h2,h3⟩:=he
  exact .inl ⟨a,rfl,h1,h2,am hm.turn h3 (fun k q=>(h.from' k q).imp .inl id),hK _ h3⟩
 |ok x D1 =>
  rw[hE] at he
  obtain⟨f,F1,h1,hv,ht,hn,hp⟩:=he
  obtain⟨i1,q1⟩:=G.ok hk h.inv hE
  refine .inr ⟨x,f,D1,F1,rfl,h1,⟨hv,fun k q=>?_,am hm.turn ht (fun k q=>(h.from' k q).imp .inl id),i1⟩,hp,q1,hK _ ht,fun b q=>(hn b q).imp id (fun r=>by omega)⟩
  rcases hn k q with r|r
  ·exact h.from' k r
  ·have:=hm.size;exact .inr (by omega)
attribute [local go_sem] Oper.semAt_some
theorem re {o:Oper}{a:Act}{w:World}{K:Act→World→Prop}{Q:Exit→Act→World→Prop}(ho:o.op=.alloc 32)(h:K (a.put o.dst (.pointer (some ⟨w.heap.size,0,none⟩))) (w.alloc (.cells #[.slice none 0 0,.slice none 0 0,.slice none 0 0,.slice none 0 0,.slice none 0 0] 32))):Oper.wp Tryz.prog o a w K Q:=by
 unfold Oper.wp Oper.upon execOp
 simp only[ho]
 generalize a.eval=ρ
 go_simp
 exact h
theorem AG.skipN {m:Nat}{a:Act}{L:List (Nat×Value)}(h:AG m a L)(v:Value):AG m (a.put none v) L:=h
def PuF (O:Nat→Prop)(w:World)(f:Nat→Value)(P:Nat→List Int):Prop:=Pu w f P∧PuN O f
theorem PuF.more {O:Nat→Prop}{w w':World}{f:Nat→Value}{P:Nat→List Int}(h:PuF O w f P)(m:ae w w'):PuF O w' f P:=⟨h.1.more m,h.2⟩
theorem PuF.keep {O:Nat→Prop}{w w':World}{f:Nat→Value}{P:Nat→List Int}(h:PuF O w f P){S:Nat→Prop}(t:Turned S w w')(hs:∀k,S k→∃cs T fr,w.heap[k]?=some (.cells cs T fr)∧T≠3):PuF O w' f P:=⟨h.1.keep t hs,h.2⟩
structure LsS where
 i:Nat
 P:Nat→List Int
 D:List KV
 F:Nat→Prop
 a:Int
def Ml (f:Nat→Value)(q:Nat):Prop:=∃c,c<5∧(f c).ownBlock=some q
def BD (nb qb cb pb:Nat)(m:Nat)(k:Int):xL LsS where
 enc s:= #[.int .i64 s.a]
 See s A:=c7 A nb m∧A.heap[qb]?=some (.cells #[.pointer (some ⟨pb,0,none⟩)] 102 (0,0))∧c7 A cb k∧∃f,A.heap[pb]?=some (.cells (puA f) 32 (0,0))∧Pu A f s.P∧∀j,j<5→(s.P j).length≤1000000
 Own s s' A B:=s.i<m∧gG s.P k=true∧s'=⟨s.i+1,gM s.P k,s.D,s.F,gZ s.P k⟩∧∃f f',A.heap[pb]?=some (.cells (puA f) 32 (0,0))∧B.heap[pb]?=some (.cells (puA f') 32 (0,0))∧Turned (fun q=>q=pb) A B∧Pu B f' (gM s.P k)∧PuN (fun q=>Ml f q∨A.heap.size≤q) f'
 Fin s s' A B:=s'=s∧(m≤s.i∨gG s.P k=false)∧ae A B
 Ned _ _ _ _:=False
 Skp _ _ _ _:=False
 Rel s s' _ _:=s'.i=s.i
theorem BE (q:Nat)(hq:1≤q)(nb qb cb pb:Nat)(m:Nat)(hm:m≤1000000)(k:Int)(s0:LsS)(w0:World)(h00:s0.i=0):
 Aa (BD nb qb cb pb m k) Fence.wide q Tryz.prog 85 #[.pointer (some ⟨nb,0,none⟩),.pointer (some ⟨qb,0,none⟩),.pointer (some ⟨cb,0,none⟩)] s0 w0:=by
 intro l J J' Je Jx W hW mJ mJ' mJe mJx hsee hown hfin hned hskp hY h0
 have HSEE:=hQQ hsee
 have HOWN:=hQQ hown
 have HFIN:=hQQ hfin
 have HY:=hQQ hY
 have HJ0:=hQQ h0
 have bn:=(hsee _ _ h0).1
 have cn:=(aE bn).1
 clear hW mJ mJ' mJe mJx hsee hown hfin hned hskp hY h0 bn
 refine callsIn_of_wp Tryz.func85 rfl trivial ?_ rfl
 simp only[Tryz.ntmps85,List.size_toArray,List.length_cons,List.length_nil,Nat.reduceAdd,Nat.reduceSub,Array.replicate_succ,Array.replicate_zero,List.push_toArray,List.append_toArray,List.nil_append,List.cons_append]
 gi_wp2
 clear cn
 gi_loopw [9] (fun u wr=>∃(i:Nat) (s:LsS),i≤m∧u=.int .i64 (i:Int)∧s.i=i∧J s wr) (fun u _=>m-(intOf u).toNat)
 case atStart=>exact⟨0,s0,Nat.zero_le _,rfl,h00,HJ0.o⟩
 case round =>
  obtain⟨i,s,hi,rfl,hsi,hJ⟩:=hrel
  by_cases hlt:i<m
  ·have d1:decide ((i:Int)<(m:Int))=true:=by simp;omega
   have q3:IntKind.i64.wrap ((i:Int)+1)=(i:Int)+1:=aB (by omega) (by omega)
   obtain⟨_,sq,sc,f,bp,pu,hl⟩:=HSEE.o s wr hJ
   have HJ1:=hQQ hJ
   have BQ:=hQQ sq
   have CQ:=hQQ (aE sq).1
   have BC:=hQQ sc
   have BP:=hQQ bp
   have HI:=hQQ (show s.i<m by omega)
   have HSI:=hQQ hsi
   obtain⟨OO,hOO⟩:∃OO:Nat→Prop,(fun q=>Ml f q∨wr.heap.size≤q)=OO:=⟨_,rfl⟩
   have CL:Hq (∀W,ae wr W→Calls Tryz.prog 65 #[.agg (puA f),.int .i64 k] W (fun e W'=>∃f',e=.returned (.tuple #[.agg (puA f'),.int .i64 (gZ s.P k),.bool (gG s.P k)])∧PuF OO W' f' (gM s.P k)∧ae W W')):=hQQ fun W hW=>(Iv (Ml f) f s.P k W (pu.more hW) (fun c hc q e=>⟨c,hc,e⟩) hl).mono fun e W' ⟨f',e1,h1,m1,n1⟩=>⟨f',e1,⟨h1,by rw[←hOO];exact n1.mono fun q z=>z.imp id (fun y=>Nat.le_trans hW.size y)⟩,m1⟩
   have HO:=hQQ hOO
   obtain⟨X,hX⟩:∃X,gZ s.P k=X:=⟨_,rfl⟩
   obtain⟨B,hB⟩:∃B,gG s.P k=B:=⟨_,rfl⟩
   obtain⟨PN,hP⟩:∃PN,gM s.P k=PN:=⟨_,rfl⟩
   rw[hX,hB,hP] at CL
   have HX:=hQQ hX
   have HB:=hQQ hB
   have HP:=hQQ hP
   clear hX hB hP hOO bp pu hl sq sc hJ hsi
   gi_wp2
   refine wpIn_wide.2 ?_
   refine aR (ae wr) (by kernel_rfl) ?_
   change dq _ _ _ _ _ _ _ _ (wr.drewN 1)
   have MR:Hq (ae wr (wr.drewN 1)):=hQQ ((ae.refl wr).drewN 1)
   generalize wr.drewN 1=wq at MR⊢
   generalize hA:Act.mk _ _=A
   have HF:AG 30 A [(0,.func (.yield l) #[] #[]),(1,.pointer (some ⟨nb,0,none⟩)),(2,.pointer (some ⟨qb,0,none⟩)),(3,.pointer (some ⟨cb,0,none⟩)),(8,.int .i64 (m:Int)),(9,.int .i64 (i:Int))]:=by
    rw[←hA];try simp only[pts,List.foldl]
    refine⟨⟨Nat.le_of_ble_eq_true rfl,rfl⟩,?_⟩
    intro z hz;simp only[List.mem_cons,List.not_mem_nil,or_false] at hz;rcases hz with rfl|rfl|rfl|rfl|rfl|rfl<;>rfl
   refine bK (fun a W=>∃(u12 u13 u14 u15 u16 u11 u17 u18 u19:Value) (g:Nat) (f9:Nat→Value),(a=(Act.put (Act.put (Act.put (pts A [(12,u12),(13,u13),(14,u14),(15,u15),(16,u16),(11,u11),(17,u17),(18,u18),(19,u19),(5,.pointer (some ⟨g,0,none⟩))]) none undef) (some 6) (.int .i64 X)) (some 7) (.bool B))∨a=(Act.put (Act.put (Act.put (pts A [(12,u12),(13,u13),(14,u14),(15,u15),(5,.pointer (some ⟨g,0,none⟩)),(16,u16),(11,u11),(17,u17),(18,u18),(19,u19)]) none undef) (some 6) (.int .i64 X)) (some 7) (.bool B)))∧W.heap[g]?=some (.cells (puA f9) 32 (0,0))∧PuF OO W f9 PN∧ae wr W∧wr.heap.size≤g) (fun _=>False) [] (fun a W hd h=>h.elim) (fun _ _ _ _ _ h=>h) ?_ ?_
   ·skip
    rintro a9 wa ⟨u12,u13,u14,u15,u16,u11,u17,u18,u19,g,f9,hn,h9,p9,m9,hg9⟩
    have E:(Act.put (Act.put (Act.put (pts A [(12,u12),(13,u13),(14,u14),(15,u15),(5,.pointer (some ⟨g,0,none⟩)),(16,u16),(11,u11),(17,u17),(18,u18),(19,u19)]) none undef) (some 6) (.int .i64 X)) (some 7) (.bool B))=(Act.put (Act.put (Act.put (pts A [(12,u12),(13,u13),(14,u14),(15,u15),(16,u16),(11,u11),(17,u17),(18,u18),(19,u19),(5,.pointer (some ⟨g,0,none⟩))]) none undef) (some 6) (.int .i64 X)) (some 7) (.bool B)):=by rw[←hA];kernel_rfl
    have hn:a9=(Act.put (Act.put (Act.put (pts A [(12,u12),(13,u13),(14,u14),(15,u15),(16,u16),(11,u11),(17,u17),(18,u18),(19,u19),(5,.pointer (some ⟨g,0,none⟩))]) none undef) (some 6) (.int .i64 X)) (some 7) (.bool B)):=by
     rcases hn with q|q
     ·exact q
     ·exact q.trans E
    subst hn
    rw[←hA];try simp only[pts,List.foldl]
    have H9:=hQQ h9
    have P9:=hQQ p9
    have M9:=hQQ m9
    have BQ9:=hQQ (m9.block BQ.o)
    have BP9:=hQQ (m9.block BP.o)
    clear HF hA MR E h9 p9 hg9 m9 CL CQ hn
    go_simp
    cases B with
    |false =>
     have FI:=hQQ (HFIN.o s s wr wa HJ1.o ⟨rfl,.inr HB.o,M9.o⟩)
     gi_wp2
     refine bodyPost_ret (results_none rfl _ _ _) rfl ?_
     exact .inl ⟨⟨_,rfl⟩,.inl ⟨s,FI.o⟩⟩
    |true =>
     obtain⟨wb,eb⟩:∃wb,wa.setRow pb (puA f9)=wb:=⟨_,rfl⟩
     have hb9:wb.heap[pb]?=some (.cells (puA f9) 32 (0,0)):=by rw[←eb];exact setRow_heap _ _ _ _ _ _ BP9.o
     have t9:Turned (fun z=>z=pb) wr wb:=by rw[←eb];exact(M9.o.mono (fun _ _ q=>q.elim)).setRow _ _ (fun _=>rfl)
     have pu9:PuF OO wb f9 PN:=by rw[←eb];exact PuF.keep P9.o (S:=fun z=>z=pb) (Turned.setRow (Turned.refl _ _) _ _ (fun _=>rfl)) (fun z q=>by subst q;exact⟨_,_,_,BP9.o,by decide⟩)
     have J9:=hQQ (HOWN.o s _ wr wb HJ1.o ⟨HI.o,HB.o,rfl,f,f9,BP.o,hb9,t9,by rw[HP.o];exact pu9.1,by rw[HO.o];exact pu9.2⟩)
     have cq9:=(aE BQ9.o).1
     have y9:=HY.o _ wb J9.o
     rw[show(BD nb qb cb pb m k).enc ⟨s.i+1,gM s.P k,s.D,s.F,gZ s.P k⟩= #[.int .i64 X] by rw[←HX.o];rfl] at y9
     obtain⟨fn,tmps,assign,body,hy,hR⟩:=y9
     clear hb9 t9 pu9
     gi_wp2_with (first
      |(refine ej rfl 32 _ rfl g rfl 32 _ _ _ H9.o Tryz.underlying32 rfl (by kernel_rfl) ?_)
      |(refine jg rfl 32 _ _ rfl pb rfl (puA f9) rfl 32 _ BP9.o (by kernel_rfl) rfl (Pu.all1 P9.o.1) ?_;rw[eb]))
     refine hR.mono ?_
     rintro e W3 (⟨rfl,s',hrel',hJ3⟩|⟨he,hJx3⟩)
     ·have HJ3:=hQQ hJ3
      have HR3:=hQQ hrel'
      clear hJ3 hrel' hy hR cq9 eb
      gi_wp2
      go_roundw
      case rel=>exact⟨i+1,s',by omega,by go_num,by have h3:s'.i=s.i+1:=HR3.o;have:=HSI.o;omega,HJ3.o⟩
      case measure=>simp[intOf];omega
     ·rcases he with rfl|⟨ch,rfl⟩
      ·gi_wp2
       refine bodyPost_ret (results_none rfl _ _ _) rfl ?_
       exact .inl ⟨⟨_,rfl⟩,.inr hJx3⟩
      ·exact⟨rfl,.inr ⟨ch,rfl,hJx3⟩⟩
   intro QQ FINE FIND FINQ
   clear hA
   refine tqC 0 12 (.pointer (some ⟨pb,0,none⟩)) (by kernel_rfl) FINQ MR.o HF (by exact dS (ab rfl) 102 _ rfl qb 0 (HF.get 2 rfl) (.pointer (some ⟨pb,0,none⟩)) _ Tryz.underlying102 rfl (fun W hW=>hW.cell CQ.o)) fun A hB1_12 HF=>?_
   refine tqC 1 13 (.pointer (some ⟨pb,0,none⟩)) (by kernel_rfl) FINQ MR.o HF (by exact(Or.inl ⟨(ab rfl),fun W hW=>by have h5:=(HF.getD 0 rfl);go_simp⟩)) fun A hB2_13 HF=>?_
   refine tqC 2 14 (.agg (puA f)) (by kernel_rfl) FINQ MR.o HF (by exact aF (ab rfl) 32 _ rfl pb (HF.get 0 rfl) 32 _ _ _ (fun W hW=>hW.block BP.o) Tryz.underlying32 rfl (by kernel_rfl)) fun A hB3_14 HF=>?_
   refine tqC 3 15 (.int .i64 k) (by kernel_rfl) FINQ MR.o HF (by exact jC (ab rfl) _ rfl cb (HF.get 6 rfl) _ (fun W hW=>hW.block BC.o)) fun A hB4_15 HF=>?_
   refine j3 (i:=4) (j:=9) (some 16) (some 5) (by kernel_rfl) rfl rfl (ab rfl) (ab rfl) rfl rfl (fun K hK=>?_) (fun K hK=>?_)
   ·refine bI rfl (HF.get 1 rfl) (HF.get 0 rfl) (enters_of Tryz.func65 (by kernel_rfl) rfl) ?_
    refine(CL.o wq MR.o).mono ?_
    rintro e w7 ⟨f7,rfl,h7,m7⟩
    have P7:=hQQ h7
    have M7:=hQQ (MR.o.trans m7)
    refine hK _ _ M7.o ?_
    clear hK K m7
    replace HF:=HF.put 16 (.tuple #[.agg (puA f7),.int .i64 X,.bool B]) (by decide) rfl
    generalize hB5_16:Act.put _ _ _=A at HF⊢
    refine tqM 5 11 0 rfl (.inl rfl) rfl (by kernel_rfl) FINQ M7.o HF fun A hB6_11 HF=>?_
    refine tqC 6 17 (.agg (puA f7)) (by kernel_rfl) FINQ M7.o HF (by exact(Or.inl ⟨(ab rfl),fun W hW=>by have h5:=(HF.getD 0 rfl);go_simp⟩)) fun A hB7_17 HF=>?_
    refine tqC 7 18 (.int .i64 X) (by kernel_rfl) FINQ M7.o HF (by exact(Or.inl ⟨(ab rfl),fun W hW=>by have h5:=(HF.getD 1 rfl);go_simp⟩)) fun A hB8_18 HF=>?_
    refine tqC 8 19 (.bool B) (by kernel_rfl) FINQ M7.o HF (by exact(Or.inl ⟨(ab rfl),fun W hW=>by have h5:=(HF.getD 2 rfl);go_simp⟩)) fun A hB9_19 HF=>?_
    refine az (i:=9) (some 5) (by kernel_rfl) rfl (ab rfl) rfl (fun K hK=>?_)
    refine re rfl ?_
    obtain⟨w8,e8,z8,m8,s8⟩:=en1 w7 (.cells #[.slice none 0 0,.slice none 0 0,.slice none 0 0,.slice none 0 0,.slice none 0 0] 32)
    rw[e8]
    have M8:=hQQ (M7.o.trans m8)
    refine hK _ _ M8.o ?_
    clear hK K e8
    replace HF:=HF.put 5 (.pointer (some ⟨w7.heap.size,0,none⟩)) (by decide) rfl
    generalize hB10_5:Act.put _ _ _=A at HF⊢
    have GE:wr.heap.size≤w7.heap.size:=M7.o.size
    have MF:Hq (ae wr (w8.setRow w7.heap.size (puA f7))):=hQQ (M8.o.setRow _ _ GE)
    refine az (i:=10) none (by kernel_rfl) rfl (ab rfl) rfl (fun K hK=>?_)
    refine wp_store_row 32 _ _ rfl (w7.heap.size) _ (HF.get 0 rfl) (HF.get 3 rfl) 32 _ z8 (by kernel_rfl) rfl (Pu.all1 (P7.o.more m8).1) ?_
    refine hK _ _ MF.o ?_
    clear hK K
    replace HF:=HF.skipN undef
    generalize hBN:Act.put _ none undef=A at HF⊢
    refine tqM 11 6 2 rfl (.inr rfl) rfl (by kernel_rfl) FINQ MF.o HF fun A hB12_6 HF=>?_
    refine tqM 12 7 2 rfl (.inr rfl) rfl (by kernel_rfl) FINQ MF.o HF fun A hB13_7 HF=>?_
    exact bQ (by kernel_rfl) (FINE _ _ ⟨(.pointer (some ⟨pb,0,none⟩)),(.pointer (some ⟨pb,0,none⟩)),(.agg (puA f)),(.int .i64 k),(.tuple #[.agg (puA f7),.int .i64 X,.bool B]),(.tuple #[.agg (puA f7),.int .i64 X,.bool B]),(.agg (puA f7)),(.int .i64 X),(.bool B),w7.heap.size,f7,Or.inl (by rw[←hB13_7,←hB12_6,←hBN,←hB10_5,←hB9_19,←hB8_18,←hB7_17,←hB6_11,←hB5_16,←hB4_15,←hB3_14,←hB2_13,←hB1_12]<;>rfl),setRow_heap _ _ _ _ _ _ z8,(PuF.keep (P7.o.more m8) (S:=fun k=>k=w7.heap.size) (Turned.setRow (Turned.refl _ _) _ _ (fun _=>rfl)) (fun k q=>by subst q;exact⟨_,_,_,z8,by decide⟩)),MF.o,GE⟩)
   ·refine re rfl ?_
    obtain⟨w7,e7,z7,m7,s7⟩:=en1 wq (.cells #[.slice none 0 0,.slice none 0 0,.slice none 0 0,.slice none 0 0,.slice none 0 0] 32)
    rw[e7]
    have M7:=hQQ (MR.o.trans m7)
    refine hK _ _ M7.o ?_
    clear hK K e7
    replace HF:=HF.put 5 (.pointer (some ⟨wq.heap.size,0,none⟩)) (by decide) rfl
    generalize hB5_5:Act.put _ _ _=A at HF⊢
    refine az (i:=4) (some 16) (by kernel_rfl) rfl (ab rfl) rfl (fun K hK=>?_)
    refine bI rfl (HF.get 2 rfl) (HF.get 1 rfl) (enters_of Tryz.func65 (by kernel_rfl) rfl) ?_
    refine(CL.o w7 M7.o).mono ?_
    rintro e w8 ⟨f8,rfl,h8,m8⟩
    have P8:=hQQ h8
    have M8:=hQQ (M7.o.trans m8)
    refine hK _ _ M8.o ?_
    clear hK K
    replace HF:=HF.put 16 (.tuple #[.agg (puA f8),.int .i64 X,.bool B]) (by decide) rfl
    generalize hB6_16:Act.put _ _ _=A at HF⊢
    refine tqM 5 11 0 rfl (.inl rfl) rfl (by kernel_rfl) FINQ M8.o HF fun A hB7_11 HF=>?_
    refine tqC 6 17 (.agg (puA f8)) (by kernel_rfl) FINQ M8.o HF (by exact(Or.inl ⟨(ab rfl),fun W hW=>by have h5:=(HF.getD 0 rfl);go_simp⟩)) fun A hB8_17 HF=>?_
    refine tqC 7 18 (.int .i64 X) (by kernel_rfl) FINQ M8.o HF (by exact(Or.inl ⟨(ab rfl),fun W hW=>by have h5:=(HF.getD 1 rfl);go_simp⟩)) fun A hB9_18 HF=>?_
    refine tqC 8 19 (.bool B) (by kernel_rfl) FINQ M8.o HF (by exact(Or.inl ⟨(ab rfl),fun W hW=>by have h5:=(HF.getD 2 rfl);go_simp⟩)) fun A hB10_19 HF=>?_
    have GE:wr.heap.size≤wq.heap.size:=MR.o.size
    have MF:Hq (ae wr (w8.setRow wq.heap.size (puA f8))):=hQQ (M8.o.setRow _ _ GE)
    refine az (i:=10) none (by kernel_rfl) rfl (ab rfl) rfl (fun K hK=>?_)
    refine wp_store_row 32 _ _ rfl (wq.heap.size) _ (HF.get 5 rfl) (HF.get 2 rfl) 32 _ (m8.block z7) (by kernel_rfl) rfl (Pu.all1 P8.o.1) ?_
    refine hK _ _ MF.o ?_
    clear hK K
    replace HF:=HF.skipN undef
    generalize hBN:Act.put _ none undef=A at HF⊢
    refine tqM 11 6 1 rfl (.inr rfl) rfl (by kernel_rfl) FINQ MF.o HF fun A hB12_6 HF=>?_
    refine tqM 12 7 1 rfl (.inr rfl) rfl (by kernel_rfl) FINQ MF.o HF fun A hB13_7 HF=>?_
    exact bQ (by kernel_rfl) (FINE _ _ ⟨(.pointer (some ⟨pb,0,none⟩)),(.pointer (some ⟨pb,0,none⟩)),(.agg (puA f)),(.int .i64 k),(.tuple #[.agg (puA f8),.int .i64 X,.bool B]),(.tuple #[.agg (puA f8),.int .i64 X,.bool B]),(.agg (puA f8)),(.int .i64 X),(.bool B),wq.heap.size,f8,Or.inr (by rw[←hB13_7,←hB12_6,←hBN,←hB10_19,←hB9_18,←hB8_17,←hB7_11,←hB6_16,←hB5_5,←hB4_15,←hB3_14,←hB2_13,←hB1_12]<;>rfl),setRow_heap _ _ _ _ _ _ (m8.block z7),(PuF.keep P8.o (S:=fun k=>k=wq.heap.size) (Turned.setRow (Turned.refl _ _) _ _ (fun _=>rfl)) (fun k q=>by subst q;exact⟨_,_,_,(m8.block z7),by decide⟩)),MF.o,GE⟩)
  ·have hi2:m≤s.i:=by omega
   have d1:decide ((i:Int)<(m:Int))=false:=by simp;omega
   have FI:=hQQ (HFIN.o s s wr wr hJ ⟨rfl,.inl hi2,ae.refl _⟩)
   gi_wp2
   go_end0
   exact .inl ⟨⟨_,rfl⟩,.inl ⟨s,FI.o⟩⟩
section
variable {n:Nat}(F:Nat→Prop)(p:Nat)(kn:Int→Option Int)(D:List KV)(w:World)(hv:aK w F p kn D)(hk:OkK kn)(hD:cF n D)
include hv hk hD
theorem Kd {b l:Int}(HS:d8 b l n){a:Int}(ha:W64 a)(vb sb:Nat)(h1:w.heap[vb]?=some (.cells #[.pointer (some ⟨p,0,none⟩)] 43 (0,0)))(h2:w.heap[sb]?=some (.cells #[.int .i64 b,.int .i64 l] 96 (0,0))):
 Calls Tryz.prog 103 #[.int .i64 a,.pointer (some ⟨vb,0,none⟩),.pointer (some ⟨sb,0,none⟩)] w (aC w F p kn (fun b:Bool=> .bool b) (jH b l a kn D)):=by
 have K:=hQQ (Kc HS F p kn D a ha w hv hk hD)
 have c1:=(aE h1).1
 obtain⟨c2,c3⟩:=k7 h2
 clear hv hk hD h1 h2 HS ha
 go_enter Tryz.func103,Tryz.ntmps103
 go_wp2_with fail
 refine K.o.mono ?_
 intro e w1 he
 have FIN:=hQQ he
 rcases jh he with⟨a',_,rfl⟩|⟨x,D',_,rfl⟩
 ·exact⟨rfl,FIN.o⟩
 ·clear he
  go_wp2_with fail
  go_ret
  exact FIN.o
theorem Ke {c:Cfg}(R:c.Ok)(H:cH c.pg c.st n)(hn:n≤10000)(bt:Nat)(hs:dg bt w)(nF0:¬F 0)(nFb:¬F bt)(a:Int)(vb lb:Nat)(h1:w.heap[vb]?=some (.cells #[.pointer (some ⟨p,0,none⟩)] 43 (0,0)))(h2:w.heap[lb]?=some (.cells c.arr 28 (0,0))):
 Calls Tryz.prog 86 #[.int .i64 a,.pointer (some ⟨vb,0,none⟩),.pointer (some ⟨lb,0,none⟩)] w (aC w F p kn (fun b:Bool=> .bool b) (qT c.us c.pg c.st a kn D)):=by
 have K:=hQQ (H5 R H hn F p kn D a w hv hk hD bt hs nF0 nFb)
 have c1:=(aE h1).1
 have H2:=hQQ h2
 clear hv hk hD h1 h2 H R hs nF0 nFb
 go_enter Tryz.func86,Tryz.ntmps86
 go_wp2_with (refine wpList_load_row rfl 28 _ rfl _ rfl 28 _ _ _ H2.o Tryz.underlying28 rfl (by kernel_rfl) ?_)
 refine K.o.mono ?_
 intro e w1 he
 have FIN:=hQQ he
 rcases jh he with⟨a',_,rfl⟩|⟨x,D',_,rfl⟩
 ·exact⟨rfl,FIN.o⟩
 ·clear he
  go_wp2_with fail
  go_ret
  exact FIN.o
end
theorem Iw (p:Nat)(b l:Int)(w:World):Calls Tryz.prog 73 #[.pointer (some ⟨p,0,none⟩),.agg #[.int .i64 b,.int .i64 l]] w fun e w' =>
 e=.returned (.func (.func 103) #[] #[.pointer (some ⟨w.heap.size,0,none⟩),.pointer (some ⟨w.heap.size+1,0,none⟩)])∧w'=(w.alloc (.cells #[.pointer (some ⟨p,0,none⟩)] 43)).alloc (.cells #[.int .i64 b,.int .i64 l] 96):=by
 go_enter Tryz.func73,Tryz.ntmps73
 go_wp2_with fail
 go_ret
 exact⟨rfl,rfl⟩
theorem BF (p:Nat)(c:Cfg)(w:World):Calls Tryz.prog 49 #[.pointer (some ⟨p,0,none⟩),.agg c.arr] w fun e w' =>
 e=.returned (.func (.func 86) #[] #[.pointer (some ⟨w.heap.size,0,none⟩),.pointer (some ⟨w.heap.size+1,0,none⟩)])∧w'=(w.alloc (.cells #[.pointer (some ⟨p,0,none⟩)] 43)).alloc (.cells c.arr 28):=by
 go_enter Tryz.func49,Tryz.ntmps49
 go_wp2_with fail
 go_ret
 exact⟨rfl,rfl⟩
theorem Dp (pb:Nat)(k m:Int)(w:World):Calls Tryz.prog 48 #[.pointer (some ⟨pb,0,none⟩),.int .i64 k,.int .i64 m] w fun e w' =>
 e=.returned (.func (.func 85) #[] #[.pointer (some ⟨w.heap.size+2,0,none⟩),.pointer (some ⟨w.heap.size,0,none⟩),.pointer (some ⟨w.heap.size+1,0,none⟩)])∧w'=((w.alloc (.cells #[.pointer (some ⟨pb,0,none⟩)] 102)).alloc (.cells #[.int .i64 k] 3)).alloc (.cells #[.int .i64 m] 3):=by
 go_enter Tryz.func48,Tryz.ntmps48
 go_wp2_with fail
 go_ret
 exact⟨rfl,rfl⟩
theorem tV (p:Nat)(v:Option Addr)(len cap:Nat)(w:World):Calls Tryz.prog 50 #[.pointer (some ⟨p,0,none⟩),.slice v len cap] w fun e w' =>
 e=.returned (.func (.func 88) #[] #[.pointer (some ⟨w.heap.size+1,0,none⟩),.pointer (some ⟨w.heap.size,0,none⟩)])∧w'=(w.alloc (.cells #[.pointer (some ⟨p,0,none⟩)] 43)).alloc (.cells #[.slice v len cap] 93):=by
 go_enter Tryz.func50,Tryz.ntmps50
 go_wp2_with fail
 go_ret
 exact⟨rfl,rfl⟩
theorem E8 (p:Nat)(c:Cfg)(k:Int)(w:World):Calls Tryz.prog 97 #[.pointer (some ⟨p,0,none⟩),.agg c.arr,.int .i64 k] w fun e w' =>
 e=.returned (.func (.func 122) #[] #[.pointer (some ⟨w.heap.size,0,none⟩),.pointer (some ⟨w.heap.size+1,0,none⟩),.pointer (some ⟨w.heap.size+2,0,none⟩)])∧w'=((w.alloc (.cells #[.pointer (some ⟨p,0,none⟩)] 43)).alloc (.cells c.arr 28)).alloc (.cells #[.int .i64 k] 3):=by
 go_enter Tryz.func97,Tryz.ntmps97
 go_wp2_with fail
 go_ret
 exact⟨rfl,rfl⟩
attribute [local go_sem] Oper.semAt_some
def tW (c:Cfg)(p:Nat)(w:World)(N:Nat→Prop):WayD→Value→Prop
 | .room b l,v=>∃vb sb,v=.func (.func 103) #[] #[.pointer (some ⟨vb,0,none⟩),.pointer (some ⟨sb,0,none⟩)]∧w.heap[vb]?=some (.cells #[.pointer (some ⟨p,0,none⟩)] 43 (0,0))∧w.heap[sb]?=some (.cells #[.int .i64 b,.int .i64 l] 96 (0,0))∧¬N vb∧¬N sb
 | .home,v=>∃vb lb,v=.func (.func 86) #[] #[.pointer (some ⟨vb,0,none⟩),.pointer (some ⟨lb,0,none⟩)]∧w.heap[vb]?=some (.cells #[.pointer (some ⟨p,0,none⟩)] 43 (0,0))∧w.heap[lb]?=some (.cells c.arr 28 (0,0))∧¬N vb∧¬N lb
theorem tW.keep {c:Cfg}{p:Nat}{w w':World}{N:Nat→Prop}{y:WayD}{v:Value}(h:tW c p w N y v)(t:Turned N w w'):tW c p w' N y v:=by
 cases y with
 |room b l=>obtain⟨vb,sb,e,h1,h2,n1,n2⟩:=h;exact⟨vb,sb,e,(t.block _ (ac h1) n1).trans h1,(t.block _ (ac h2) n2).trans h2,n1,n2⟩
 |home=>obtain⟨vb,sb,e,h1,h2,n1,n2⟩:=h;exact⟨vb,sb,e,(t.block _ (ac h1) n1).trans h1,(t.block _ (ac h2) n2).trans h2,n1,n2⟩
def nP {σ:Type}(Z:σ→World→Prop):Prop:=∀s A B,Z s A→A.heap.size≤B.heap.size→(∀(k:Nat) (cs:Array Value) (t:TypeId) (fr:Nat×Nat),A.heap[k]?=some (.cells cs t fr)→B.heap[k]?=some (.cells cs t fr))→Z s B
theorem nP.more {σ:Type}{Z:σ→World→Prop}(h:nP Z){s:σ}{A B:World}(z:Z s A)(m:ae A B):Z s B:=h s A B z m.size fun k cs t fr q=>m.block q
theorem nP.put {σ:Type}{Z:σ→World→Prop}(h:nP Z){s:σ}{A:World}(z:Z s A){k:Nat}{o:Obj}(o':Obj)(hl:A.heap[k]?=some o)(ho:o.isCells=false):Z s (A.putObj k o'):=
 h s A _ z (by simp) fun j cs t fr q=>(World.putObj_heap_other (by rintro rfl;rw[hl] at q;cases q;cases ho)).trans q
structure LvO (w6:World)(F T:Nat→Prop)(p:Nat)(kn:Int→Option Int)(n:Nat)(Z:LsS→World→Prop)(s:LsS)(A:World):Prop where
 on:OnV w6 A F T p kn n s.D s.F
 z:Z s A
theorem LvO.books {w6:World}{F T:Nat→Prop}{p:Nat}{kn:Int→Option Int}{n:Nat}{Z:LsS→World→Prop}(hZ:nP Z)(hF:∀k,F k→k<w6.heap.size)(s:LsS):i5 w6.heap.size (LvO w6 F T p kn n Z s):=
 ⟨fun {A A'} h m=>⟨h.on.more m,hZ.more h.z m⟩,fun {A r} r' h hl=>⟨h.on.put hF r' hl,hZ.put h.z (.loop r') hl rfl⟩⟩
def LvX (w6:World)(F T:Nat→Prop)(p:Nat)(Need:Int→Prop):Exit→World→Prop
 | .panic ch,W=>ch=aY p∧∃a,Need a∧nZ w6 W F T p a
 | _,_=>False
theorem Fa {w6:World}{F T:Nat→Prop}{p:Nat}{Need:Int→Prop}(e:Exit):i5 w6.heap.size (LvX w6 F T p Need e):=by
 cases e with
 |panic ch=>exact⟨fun {A A'} h m=>by obtain⟨h1,a,h2,h3⟩:=h;exact⟨h1,a,h2,h3.more m⟩,fun {A r} r' h hl=>by obtain⟨h1,a,h2,h3⟩:=h;exact⟨h1,a,h2,h3.put hl rfl (by omega) _⟩⟩
 |ret=>exact⟨fun {A A'} h m=>h,fun {A r} r' h hl=>h⟩
 |normal=>exact⟨fun {A A'} h m=>h,fun {A r} r' h hl=>h⟩
 |exit _=>exact⟨fun {A A'} h m=>h,fun {A r} r' h hl=>h⟩
 |goto _=>exact⟨fun {A A'} h m=>h,fun {A r} r' h hl=>h⟩
 |outgrown=>exact⟨fun {A A'} h m=>h,fun {A r} r' h hl=>h⟩
structure LvH (w:World)(F T:Nat→Prop)(p:Nat)(kn:Int→Option Int)(n:Nat)(c:Cfg)(wy:List WayD)(It:xL LsS)(Z Z' Z2:LsS→World→Prop)(Need:Int→Prop):Prop where
 enc:∀s,It.enc s= #[.int .i64 s.a]
 sZ:nP Z
 sZ':nP Z'
 sZ2:nP Z2
 see:∀w6 s A,w.heap.size≤w6.heap.size→LvO w6 F T p kn n Z s A→It.See s A
 own:∀w6 s s' A B,w.heap.size≤w6.heap.size→w6.heap.size+2≤A.heap.size→LvO w6 F T p kn n Z s A→It.Own s s' A B→bM (dJ w6.heap.size) A B∧LvO w6 F T p kn n Z' s' B
 fin:∀w6 s s' A B,w.heap.size≤w6.heap.size→w6.heap.size+2≤A.heap.size→LvO w6 F T p kn n Z s A→It.Fin s s' A B→bM (dJ w6.heap.size) A B∧LvO w6 F T p kn n Z2 s' B
 ned:∀w6 s ch A B,w.heap.size≤w6.heap.size→w6.heap.size+2≤A.heap.size→LvO w6 F T p kn n Z s A→It.Ned s ch A B→bM (dJ w6.heap.size) A B∧LvX w6 F T p Need (.panic ch) B
 skp:∀w6 s s' A B,w.heap.size≤w6.heap.size→w6.heap.size+2≤A.heap.size→LvO w6 F T p kn n Z s A→It.Skp s s' A B→bM (dJ w6.heap.size) A B∧LvO w6 F T p kn n Z s' B
 rel:∀s s' A B l (r0 r1 r r':Loop),A.heap[l]?=some (.loop r0)→B.heap[l]?=some (.loop r1)→It.Rel s s' (A.putObj l (.loop r)) B→It.Rel s s' A (B.putObj l (.loop r'))
 word:∀s A,Z' s A→W64 s.a
 did:∀s A B D1 F1,Z' s A→cF n s.D→lB c.us c.pg c.st wy s.a kn s.D=.ok () D1→A.heap.size≤B.heap.size→(∀b o,¬s.F b→A.heap[b]?=some o→B.heap[b]?=some o)→(∀b,F1 b→s.F b∨A.heap.size≤b)→∃s',It.Rel s s' A B∧s'.D=D1∧s'.F=F1∧Z s' B
 nd:∀s A a,Z' s A→lB c.us c.pg c.st wy s.a kn s.D=.need a→Need a
def NJ (w:World)(F T:Nat→Prop)(p:Nat)(kn:Int→Option Int)(n:Nat)(Z2:LsS→World→Prop)(Need:Int→Prop)(e:Ending)(w':World):Prop :=
 (∃a,Need a∧e=.panicked (aY p)∧aQ w' p a∧Turned (fun b=>F b∨T b) w w') ∨
 ∃s,e=.returned (.tuple #[])∧aK w' s.F p kn s.D∧Turned (fun b=>F b∨T b) w w'∧(∀k,s.F k→F k∨w.heap.size≤k)∧cF n s.D∧Z2 s w'
theorem Dq {c:Cfg}(R:c.Ok){n:Nat}(H:cH c.pg c.st n)(hn:n≤10000){bt:Nat}(F T:Nat→Prop)(p:Nat)(kn:Int→Option Int)(hk:OkK kn){wy:List WayD}(hok:∀y∈wy,jq n y)(hwl:wy.length≤1000){It:xL LsS}{gf:Nat}{lb:Array Value}(heg:∀args w,Sem.run Tryz.prog (callFunc gf args) w=.ok (.enter gf args) w)
 {Z Z' Z2:LsS→World→Prop} {Need:Int→Prop} (s0:LsS) (w:World) (L:LvH w F T p kn n c wy It Z Z' Z2 Need) (hseq:Aa It Fence.wide 2 Tryz.prog gf lb s0 w)
 (hF:s0.F=F) (hv:aK w F p kn s0.D) (hD:cF n s0.D) (hz:Z s0 w) (hs:dg bt w) (nF0:¬F 0) (nFb:¬F bt) (hT:∀k,T k→k<w.heap.size∧¬F k) (nT0:¬T 0) (nTb:¬T bt)
 (wb cap:Nat) (hwb:wb<w.heap.size∧¬F wb∧¬T wb) (hwy:∀j (hj:j<wy.length),∃v,w.cell? ⟨wb,j,none⟩=some v∧tW c p w (fun b=>F b∨T b) wy[j] v):
 Calls Tryz.prog 47 #[.func (.func gf) #[] lb,.slice (some ⟨wb,0,none⟩) wy.length cap] w (NJ w F T p kn n Z2 Need):=by
 refine(callsIn_wide (n:=3)).1 ?_
 refine iy Tryz.func47 rfl trivial ?_ rfl
 simp only[Tryz.ntmps47,List.size_toArray,List.length_cons,List.length_nil,Nat.reduceAdd,Nat.reduceSub,Array.replicate_succ,Array.replicate_zero,List.push_toArray,List.append_toArray,List.nil_append,List.cons_append]
 have hF0:∀k,F k→k<w.heap.size:=hv.lt
 obtain⟨w6,e6,hb6,m6,s6⟩:=bg w (.cells #[.slice (some ⟨wb,0,none⟩) wy.length cap] 136)
 have hF6:∀k,F k→k<w6.heap.size:=fun k q=>by have:=hF0 k q;omega
 have hT6:∀k,T k→k<w6.heap.size:=fun k q=>by have:=(hT k q).1;omega
 refine fl ?_
 gi_wp2
 clear e6
 refine fl ?_
 gi_wp2
 have HL:=hQQ L
 have HSQ:=hQQ hseq
 have HO:=hQQ hok
 have HK:=hQQ hk
 have HR:=hQQ R
 have HH:=hQQ H
 have HB6:=hQQ hb6
 have hle:w.heap.size≤w6.heap.size:=by omega
 have h0:Hq (LvO w6 F T p kn n Z s0 w6):=hQQ ⟨by rw[hF];exact OnV.begin (hv.more m6) hD,L.sZ.more hz m6⟩
 -- what stands all the while
 have KB:Hq (∀W D' F',OnV w6 W F T p kn n D' F'→W.heap[w.heap.size]?=some (.cells #[.slice (some ⟨wb,0,none⟩) wy.length cap] 136 (0,0))):=hQQ fun W D' F' h=>(h.turn.block _ (by omega) (by rintro(q|q);have:=hF0 _ q;omega;have:=(hT _ q).1;omega)).trans hb6
 have KW:Hq (∀W D' F',OnV w6 W F T p kn n D' F'→∀j (hj:j<wy.length),∃v,W.cell? ⟨wb,j,none⟩=some v∧tW c p W (fun b=>F b∨T b) wy[j] v):=hQQ fun W D' F' h j hj=>by
  obtain⟨v,h1,h2⟩:=hwy j hj
  have t:=Turned.trans (Turned.mono m6 (fun _ _ q=>q.elim)) h.turn
  refine⟨v,?_,h2.keep t⟩
  rw[World.cell?_of_block (w:=w) (t.block wb hwb.1 (by rintro(q|q);exact hwb.2.1 q;exact hwb.2.2 q))];exact h1
 have KS:Hq (∀W D' F',OnV w6 W F T p kn n D' F'→dg bt W∧¬F' 0∧¬F' bt):=hQQ fun W D' F' h=>⟨(hs.more m6).keep h.turn (by rintro(q|q);exact nF0 q;exact nT0 q) (by rintro(q|q);exact nFb q;exact nTb q),fun q=>by rcases h.from' 0 q with r|r;exact nF0 r;omega,fun q=>by rcases h.from' bt q with r|r;exact nFb r;have:=hs.lt;omega⟩
 clear L hseq hok hk R H hb6 hz hv hD hwy hs
 refine nT ?_
 refine uL It (gf:=gf) (lb:=lb) Tryz.func47 rfl (by omega) rfl trivial heg HSQ.o m6 (fun s=>by rw[HL.o.enc];rfl)
  (LvO w6 F T p kn n Z) (LvO w6 F T p kn n Z') (LvO w6 F T p kn n Z2) (LvX w6 F T p Need) (LvO.books HL.o.sZ hF6) (LvO.books HL.o.sZ' hF6) (LvO.books HL.o.sZ2 hF6) Fa h0.o
  (fun s a' W=>LvO w6 F T p kn n Z' s W∧a'= { tmps:= #[.func (.func gf) #[] lb,.slice (some ⟨wb,0,none⟩) wy.length cap,undef,.pointer (some ⟨w.heap.size,0,none⟩),.int .i64 s.a,undef,undef,.func (.func gf) #[] lb,.int .i64 s.a,undef,undef,undef,undef,undef,undef,undef,undef,undef,undef],defers:= [] })
  (fun s a'=>⟨fun {A A'} h m=>⟨(LvO.books HL.o.sZ' hF6 s).more h.1 m,h.2⟩,fun {A r} r' h hl=>⟨(LvO.books HL.o.sZ' hF6 s).put r' h.1 hl,h.2⟩⟩)
  (fun s A _ h=>HL.o.see w6 s A hle h) (fun s s' A B hs h o=>HL.o.own w6 s s' A B hle hs h o) (fun s s' A B hs h o=>HL.o.fin w6 s s' A B hle hs h o) (fun s ch A B hs h o=>HL.o.ned w6 s ch A B hle hs h o) (fun s s' A B hs h o=>HL.o.skp w6 s s' A B hle hs h o) HL.o.rel
  ?assign ?body ?done ?stop ?dies
 case assign =>
  rintro l s W K hsz hI hK
  rw[HL.o.enc]
  gi_wp2
 case body =>
  rintro l s a' W hsz ⟨hI,rfl⟩
  obtain⟨Rt,hRt⟩:∃Rt,lB c.us c.pg c.st wy s.a kn s.D=Rt:=⟨_,rfl⟩
  have HI:=hQQ hI
  have HWD:=hQQ (HL.o.word s W hI.z)
  have HDID:=hQQ (fun B D1 F1 (e:Rt=.ok () D1)=>HL.o.did s W B D1 F1 hI.z hI.on.inv (hRt.trans e))
  have HND:=hQQ (fun a (e:Rt=.need a)=>HL.o.nd s W a hI.z (hRt.trans e))
  have HRT:=hQQ hRt
  have cb:=(aE (KB.o _ _ _ hI.on)).1
  have BK:Hq (∀wr:World,(∀b o,¬s.F b→W.heap[b]?=some o→wr.heap[b]?=some o)→bM (dJ w6.heap.size) W wr):=hQQ fun wr h k q=>by
   have hk:k<W.heap.size:=by rcases q with q|q<;>omega
   rw[Array.getElem?_eq_getElem hk]
   exact h k _ (fun r=>by rcases hI.on.from' k r with z|z;have:=hF6 _ z;rcases q with q|q<;>omega;rcases q with q|q<;>omega) (Array.getElem?_eq_getElem hk)
  clear hI hRt
  gi_wp2
  clear cb
  gi_loopw [11] (fun u wr=>∃(j:Nat) (D1:List KV) (F1:Nat→Prop),j≤wy.length∧u=.int .i64 (j:Int)∧OnV w6 wr F T p kn n D1 F1∧lB c.us c.pg c.st (wy.drop j) s.a kn D1=Rt∧W.heap.size≤wr.heap.size∧(∀b o,¬s.F b→W.heap[b]?=some o→wr.heap[b]?=some o)∧(∀b,F1 b→s.F b∨W.heap.size≤b)) (fun u _=>wy.length-(intOf u).toNat)
  case atStart=>exact⟨0,s.D,s.F,Nat.zero_le _,rfl,HI.o.on,HRT.o,Nat.le_refl _,fun _ _ _ h=>h,fun _ h=> .inl h⟩
  case round =>
   obtain⟨j,D1,F1,hj,rfl,hon,hsem,hsw,hkeep,hfrom⟩:=hrel
   have ON:=hQQ hon
   have KP:=hQQ hkeep
   have FR:=hQQ hfrom
   have SW:=hQQ hsw
   have KP3:Hq (∀(S:Nat→Prop) (X:World),Turned S wr X→(∀b,S b→F1 b)→∀b o,¬s.F b→W.heap[b]?=some o→X.heap[b]?=some o):=hQQ fun S X t hS b o nb hb=>(t.block b (ac (hkeep b o nb hb)) (fun q=>by
    rcases hfrom b (hS b q) with r|r
    ·exact nb r
    ·have:=ac hb;omega)).trans (hkeep b o nb hb)
   by_cases hlt:j<wy.length
   ·have d1:decide ((j:Int)<(wy.length:Int))=true:=by simp;omega
    have q3:IntKind.i64.wrap ((j:Int)+1)=(j:Int)+1:=aB (by omega) (by omega)
    obtain⟨v,hc,hway⟩:=KW.o _ _ _ hon j hlt
    have hdr:wy.drop j=wy[j]::wy.drop (j+1):=List.drop_eq_getElem_cons hlt
    have hmem:=HO.o wy[j] (List.getElem_mem hlt)
    rw[hdr] at hsem
    have hsem':ar (zC c.us c.pg c.st wy[j] s.a) (fun b=>if b then aA () else lB c.us c.pg c.st (wy.drop (j+1)) s.a) kn D1=Rt:=hsem
    have HS:=hQQ hsem'
    generalize wy[j]=y at hway hmem HS
    have HM:=hQQ hmem
    obtain⟨ksz,kf0,kfb⟩:=KS.o _ _ _ hon
    have CK:Hq (∀f lb',v=.func (.func f) #[] lb'→f=f):=hQQ fun _ _ _=>rfl
    have HCALL:Hq (∃f lb',v=.func (.func f) #[] lb'∧(f=103∨f=86)∧Calls Tryz.prog f (#[.int .i64 s.a]++lb') wr (aC wr F1 p kn (fun b:Bool=> .bool b) (zC c.us c.pg c.st y s.a kn D1))):=hQQ (by
     cases y with
     |room b l =>
      obtain⟨vb,sb,rfl,h1,h2,_,_⟩:=hway
      exact⟨_,_,rfl,.inl rfl,Kd F1 p kn D1 wr hon.view HK.o hon.inv hmem HWD.o vb sb h1 h2⟩
     |home =>
      obtain⟨vb,lb',rfl,h1,h2,_,_⟩:=hway
      exact⟨_,_,rfl,.inr rfl,Ke F1 p kn D1 wr hon.view HK.o hon.inv HR.o HH.o hn bt ksz kf0 kfb s.a vb lb' h1 h2⟩)
    clear hon hsem hsem' hsw hkeep hfrom hway hmem ksz kf0 kfb hdr CK
    obtain⟨f,lb',rfl,hf,hcall⟩:=HCALL.o
    have hcall:=hQQ hcall
    clear HCALL
    rcases hf with rfl|rfl
    ·skip
     gi_wp2
     refine⟨trivial,(CallsIn.inRound l (callsIn_wide.2 hcall.o)).mono ?_⟩
     intro e W3 he
     cases hE:zC c.us c.pg c.st y s.a kn D1 with
     |need a =>
      rw[hE] at he
      obtain⟨rfl,hend,ht⟩:=nZ.of ON.o (by have:=SW.o;omega) (ae.refl wr) he
      exact⟨BK.o W3 (KP3.o F1 W3 ht (fun _ q=>q)),rfl,rfl,a,HND.o a (HS.o.symm.trans (ah hE)),hend⟩
     |ok b D3 =>
      rw[hE] at he
      obtain⟨rfl,F3,hv3,ht3,hn3⟩:=he
      have hi3:=((tN HH.o HM.o HWD.o).ok HK.o ON.o.inv hE).1
      have ON3:Hq (OnV w6 W3 F T p kn n D3 F3):=hQQ ⟨hv3,fun k q=>by
       rcases hn3 k q with r|r
       ·exact ON.o.from' k r
       ·have:=SW.o;exact .inr (by omega),am ON.o.turn ht3 (fun k q=>(ON.o.from' k q).imp .inl (fun r=>by omega)),hi3⟩
      have KP4:=hQQ (KP3.o F1 W3 ht3 (fun _ q=>q))
      have FR4:Hq (∀b,F3 b→s.F b∨W.heap.size≤b):=hQQ fun b q=>by
       rcases hn3 b q with r|r
       ·exact FR.o b r
       ·have:=SW.o;exact .inr (by omega)
      have SW4:=hQQ (Nat.le_trans SW.o ht3.size)
      have HS3:=hQQ ((ak hE).symm.trans HS.o)
      clear hv3 ht3 hn3 hi3 hE hcall KP FR SW ON
      cases b with
      |true =>
       obtain⟨s',r1,r2,r3,z⟩:=HDID.o W3 D3 F3 HS3.o.symm SW4.o KP4.o FR4.o
       have FI:Hq (mK It w6.heap.size (LvO w6 F T p kn n Z) (LvX w6 F T p Need) s W .normal { tmps:= #[],defers:= [] } W3):=hQQ ⟨BK.o W3 KP4.o,s',r1,by rw[r2,r3];exact ON3.o,z⟩
       clear r1 r2 r3 z
       gi_wp2
       exact FI.o
      |false =>
       gi_wp2
       go_roundw
       case rel=>exact⟨j+1,D3,F3,by omega,by go_num,ON3.o,HS3.o,SW4.o,KP4.o,FR4.o⟩
       case measure=>simp[intOf];omega
    ·skip
     gi_wp2
     refine⟨trivial,(CallsIn.inRound l (callsIn_wide.2 hcall.o)).mono ?_⟩
     intro e W3 he
     cases hE:zC c.us c.pg c.st y s.a kn D1 with
     |need a =>
      rw[hE] at he
      obtain⟨rfl,hend,ht⟩:=nZ.of ON.o (by have:=SW.o;omega) (ae.refl wr) he
      exact⟨BK.o W3 (KP3.o F1 W3 ht (fun _ q=>q)),rfl,rfl,a,HND.o a (HS.o.symm.trans (ah hE)),hend⟩
     |ok b D3 =>
      rw[hE] at he
      obtain⟨rfl,F3,hv3,ht3,hn3⟩:=he
      have hi3:=((tN HH.o HM.o HWD.o).ok HK.o ON.o.inv hE).1
      have ON3:Hq (OnV w6 W3 F T p kn n D3 F3):=hQQ ⟨hv3,fun k q=>by
       rcases hn3 k q with r|r
       ·exact ON.o.from' k r
       ·have:=SW.o;exact .inr (by omega),am ON.o.turn ht3 (fun k q=>(ON.o.from' k q).imp .inl (fun r=>by omega)),hi3⟩
      have KP4:=hQQ (KP3.o F1 W3 ht3 (fun _ q=>q))
      have FR4:Hq (∀b,F3 b→s.F b∨W.heap.size≤b):=hQQ fun b q=>by
       rcases hn3 b q with r|r
       ·exact FR.o b r
       ·have:=SW.o;exact .inr (by omega)
      have SW4:=hQQ (Nat.le_trans SW.o ht3.size)
      have HS3:=hQQ ((ak hE).symm.trans HS.o)
      clear hv3 ht3 hn3 hi3 hE hcall KP FR SW ON
      cases b with
      |true =>
       obtain⟨s',r1,r2,r3,z⟩:=HDID.o W3 D3 F3 HS3.o.symm SW4.o KP4.o FR4.o
       have FI:Hq (mK It w6.heap.size (LvO w6 F T p kn n Z) (LvX w6 F T p Need) s W .normal { tmps:= #[],defers:= [] } W3):=hQQ ⟨BK.o W3 KP4.o,s',r1,by rw[r2,r3];exact ON3.o,z⟩
       clear r1 r2 r3 z
       gi_wp2
       exact FI.o
      |false =>
       gi_wp2
       go_roundw
       case rel=>exact⟨j+1,D3,F3,by omega,by go_num,ON3.o,HS3.o,SW4.o,KP4.o,FR4.o⟩
       case measure=>simp[intOf];omega
   ·obtain rfl:j=wy.length:=by omega
    have d1:decide ((wy.length:Int)<(wy.length:Int))=false:=by simp
    rw[List.drop_length] at hsem
    obtain⟨s',r1,r2,r3,z⟩:=HDID.o wr D1 F1 hsem.symm SW.o KP.o FR.o
    have FI:Hq (mK It w6.heap.size (LvO w6 F T p kn n Z) (LvX w6 F T p Need) s W .normal { tmps:= #[],defers:= [] } wr):=hQQ ⟨BK.o wr KP.o,s',r1,by rw[r2,r3];exact ON.o,z⟩
    clear r1 r2 r3 z hsem hon hsw hkeep hfrom
    gi_wp2
    exact FI.o
 case done =>
  rintro s W hI hdf
  have hon:=hI.on.view.keepS (S:=fun k=>k=w6.heap.size) (w':=W.putObj w6.heap.size (.deferred none)) (fy (Turned.refl _ W) _ _ (fun _=>rfl)) (fun k q e=>by subst e;rcases hI.on.from' _ q with r|r;have:=hF6 _ r;omega;omega) (fun k es cl e q=>by subst e;rw[hdf] at q;cases q)
  have ht:Turned (fun b=>F b∨T b) w (W.putObj w6.heap.size (.deferred none)):=fy (Turned.trans (Turned.mono m6 (fun _ _ q=>q.elim)) hI.on.turn) _ _ (fun q=>by omega)
  have FIN:Hq (NJ w F T p kn n Z2 Need (.returned (.tuple #[])) (W.putObj w6.heap.size (.deferred none))):=hQQ (.inr ⟨s,rfl,hon,ht,fun k q=>(hI.on.from' k q).imp id (fun r=>by omega),hI.on.inv,HL.o.sZ2.put hI.z (.deferred none) hdf rfl⟩)
  clear hon ht
  refine⟨by simp,.inl ⟨_,_,rfl,run_takeDeferred hdf,?_⟩⟩
  refine⟨.tuple #[],?_,FIN.o⟩
  simp[results,Tryz.f47,go_sem]
 case stop =>
  rintro e cc W hj hx hdf
  cases e<;>cases hx<;>cases hj
 case dies =>
  rintro ch W ⟨h1,a,h2,h3⟩ hdf
  have h4:=h3.put hdf rfl (Nat.le_refl _) (.deferred none)
  exact⟨by simp,.inl ⟨_,_,rfl,run_takeDeferred hdf,.inl ⟨a,h2,by rw[h1],h4.1,Turned.trans (Turned.mono m6 (fun _ _ q=>q.elim)) h4.2⟩⟩⟩
theorem cR.cells {F:Nat→Prop}{A B:World}{f:Nat→Value}{P:Nat→List Int}(h:cR F A f P)(s:∀(k:Nat)(cs:Array Value)(t:TypeId)(fr:Nat×Nat),A.heap[k]?=some (.cells cs t fr)→B.heap[k]?=some (.cells cs t fr)):cR F B f P:=by
 refine⟨fun c hc=>?_,h.2⟩
 obtain⟨a,cap,hv,h1,h2,z⟩:=h.1 c hc
 refine⟨a,cap,hv,h1,h2,z.imp id ?_⟩
 rintro⟨g,cur,rfl,hg,r⟩
 exact⟨g,cur,rfl,s _ _ _ _ hg,r⟩
structure LsZ (N:Nat→Prop)(nb qb cb pb m:Nat)(k:Int)(Sem:LsS→Prop)(s:LsS)(A:World):Prop where
 bn:c7 A nb m
 bq:A.heap[qb]?=some (.cells #[.pointer (some ⟨pb,0,none⟩)] 102 (0,0))
 bc:c7 A cb k
 pu:∃f,A.heap[pb]?=some (.cells (puA f) 32 (0,0))∧cR (fun q=>N q∨s.F q) A f s.P
 nf:¬s.F nb∧¬s.F qb∧¬s.F cb∧¬s.F pb
 ne:nb≠pb∧qb≠pb∧cb≠pb
 len:pB s.P∧∀j,j<5→(s.P j).length≤1000000
 sem:Sem s
theorem LsZ.stays (N:Nat→Prop)(nb qb cb pb m:Nat)(k:Int)(Sem:LsS→Prop):nP (LsZ N nb qb cb pb m k Sem):=fun s A B h _ t =>
 ⟨t _ _ _ _ h.bn,t _ _ _ _ h.bq,t _ _ _ _ h.bc,by obtain⟨f,h1,h2⟩:=h.pu;exact⟨f,t _ _ _ _ h1,h2.cells t⟩,h.nf,h.ne,h.len,h.sem⟩
def NK (w:World)(F N:Nat→Prop)(pb p:Nat)(kn:Int→Option Int)(n:Nat)(R:Res (Nat→List Int))(e:Ending)(w':World):Prop :=
 match R with
 | .need a=>e=.panicked (aY p)∧aQ w' p a∧Turned (fun b=>F b∨b=pb) w w'
 | .ok P D=>e=.returned (.tuple #[])∧∃f F',aK w' F' p kn D∧Turned (fun b=>F b∨b=pb) w w'∧(∀k,F' k→F k∨w.heap.size≤k)∧cF n D∧w'.heap[pb]?=some (.cells (puA f) 32 (0,0))∧cR (fun q=>N q∨F' q) w' f P
theorem Kf {c:Cfg}{n:Nat}(F N:Nat→Prop)(p:Nat)(kn:Int→Option Int)(w:World)(wy:List WayD)(nb qb cb pb m:Nat)(k:Int)(Rr:Res (Nat→List Int))(hF:∀k,F k→k<w.heap.size)(hN:∀k,N k→k<w.heap.size)(hpb:pb<w.heap.size∧¬F pb):
 LvH w F (fun b=>b=pb) p kn n c wy (BD nb qb cb pb m k) (LsZ N nb qb cb pb m k fun s=>s.i≤m∧dG c.us c.pg c.st wy k (m-s.i) s.P kn s.D=Rr)
  (LsZ N nb qb cb pb m k fun s=>s.i≤m∧W64 s.a∧ar (lB c.us c.pg c.st wy s.a) (fun _=>dG c.us c.pg c.st wy k (m-s.i) s.P) kn s.D=Rr)
  (LsZ N nb qb cb pb m k fun s=>Rr=.ok s.P s.D) (fun a=>Rr=.need a) where
 enc s:=rfl
 sZ:=LsZ.stays N nb qb cb pb m k _
 sZ':=LsZ.stays N nb qb cb pb m k _
 sZ2:=LsZ.stays N nb qb cb pb m k _
 see w6 s A _ h:=by
  obtain⟨f,h1,h2⟩:=h.z.pu
  exact⟨h.z.bn,h.z.bq,h.z.bc,f,h1,h2.1,h.z.len.2⟩
 own w6 s s' A B hle hsz h o:=by
  obtain⟨hi,hb,rfl,f,f',b1,b2,t,pu,pn⟩:=o
  obtain⟨f0,g1,g2⟩:=h.z.pu
  obtain⟨g,hg⟩:∃g,g=puA f:=⟨_,rfl⟩
  have hff:∀j,j<5→f j=f0 j:=fun j hj=>by
   rw[b1] at g1
   have e:puA f=puA f0:=by injection g1 with g1;injection g1 with g1
   have:=Bv f hj
   rw[e,Bv f0 hj] at this
   exact(Option.some.inj this).symm
  have keep:∀b o,b≠pb→A.heap[b]?=some o→B.heap[b]?=some o:=fun b o nb ho=>(t.block b (ac ho) nb).trans ho
  refine⟨bM.turned t (fun j q=>by rcases q with q|q<;>omega) (fun j q r=>by rcases q with q|q<;>omega),⟨?_,?_⟩⟩
  ·refine⟨h.on.view.keepS t (fun j q e=>h.z.nf.2.2.2 (e▸q)) (fun j es cl e q=>by subst e;rw[b1] at q;cases q),h.on.from',am h.on.turn t (fun j q=> .inl (.inr q)),h.on.inv⟩
  ·refine⟨keep _ _ h.z.ne.1 h.z.bn,keep _ _ h.z.ne.2.1 h.z.bq,keep _ _ h.z.ne.2.2 h.z.bc,⟨f',b2,pu,pn.mono fun q z=>?_⟩,h.z.nf,h.z.ne,⟨tL h.z.len.1 k,fun j hj=>Nat.le_trans (tM s.P k j) (h.z.len.2 j hj)⟩,?_⟩
   ·rcases z with⟨c,hc,e⟩|z
    ·exact g2.2 c hc q (by rw[←hff c hc];exact e)
    ·rintro(y|y)
     ·have:=hN q y
      have:=h.on.turn.size
      omega
     ·have:=h.on.view.lt q y
      omega
   ·obtain⟨q1,q2⟩:=h.z.sem
    refine⟨by show s.i+1≤m;omega,tK h.z.len.1 hb,?_⟩
    rw[show m-s.i=(m-(s.i+1))+1 by omega] at q2
    have e:dG c.us c.pg c.st wy k ((m-(s.i+1))+1) s.P=if gG s.P k then ar (lB c.us c.pg c.st wy (gZ s.P k)) (fun _=>dG c.us c.pg c.st wy k (m-(s.i+1)) (gM s.P k)) else aA s.P:=rfl
    rw[e,if_pos hb] at q2
    exact q2
 fin w6 s s' A B hle hsz h o:=by
  obtain⟨rfl,hb,mo⟩:=o
  refine⟨mO mo (fun j q=>by rcases q with q|q<;>omega),h.on.more mo,?_⟩
  have h2:=(LsZ.stays N nb qb cb pb m k _).more h.z mo
  refine⟨h2.bn,h2.bq,h2.bc,h2.pu,h2.nf,h2.ne,h2.len,?_⟩
  obtain⟨q1,q2⟩:=h.z.sem
  rcases Nat.lt_or_ge s'.i m with hlt|hge
  ·have hb:=hb.resolve_left (by omega)
   rw[show m-s'.i=(m-(s'.i+1))+1 by omega] at q2
   have e:dG c.us c.pg c.st wy k ((m-(s'.i+1))+1) s'.P=if gG s'.P k then ar (lB c.us c.pg c.st wy (gZ s'.P k)) (fun _=>dG c.us c.pg c.st wy k (m-(s'.i+1)) (gM s'.P k)) else aA s'.P:=rfl
   rw[e,if_neg (by rw[hb];simp)] at q2
   exact q2.symm
  ·rw[show m-s'.i=0 by omega] at q2
   exact q2.symm
 ned w6 s ch A B _ _ _ o:=o.elim
 skp w6 s s' A B _ _ _ o:=o.elim
 rel s s' A B l r0 r1 r r' _ _ h:=h
 word s A h:=h.sem.2.1
 did s A B D1 F1 h hD e hsz hk hf:=by
  have keep:∀b o,¬s.F b→A.heap[b]?=some o→B.heap[b]?=some o:=hk
  obtain⟨f,g1,g2⟩:=h.pu
  have nf:∀b o,¬s.F b→A.heap[b]?=some o→¬F1 b:=fun b o nb ho q=>by
   rcases hf b q with r|r
   ·exact nb r
   ·have:=ac ho;omega
  refine⟨⟨s.i,s.P,D1,F1,s.a⟩,rfl,rfl,rfl,keep _ _ h.nf.1 h.bn,keep _ _ h.nf.2.1 h.bq,keep _ _ h.nf.2.2.1 h.bc,⟨f,keep _ _ h.nf.2.2.2 g1,g2.stayN hk hf⟩,⟨nf _ _ h.nf.1 h.bn,nf _ _ h.nf.2.1 h.bq,nf _ _ h.nf.2.2.1 h.bc,nf _ _ h.nf.2.2.2 g1⟩,h.ne,h.len,h.sem.1,?_⟩
  exact(ak e).symm.trans h.sem.2.2
 nd s A a h e:=h.sem.2.2.symm.trans (ah e)
theorem rf {c:Cfg}(R:c.Ok){n:Nat}(H:cH c.pg c.st n)(hn:n≤10000){bt:Nat}{w:World}(F N:Nat→Prop)(hN:∀k,N k→k<w.heap.size)(p:Nat)(kn:Int→Option Int)(D:List KV)(hk:OkK kn){wy:List WayD}(hok:∀y∈wy,jq n y)(hwl:wy.length≤1000)(nb qb cb pb m:Nat)(hm:m≤1000000)(k:Int)(f:Nat→Value)(P:Nat→List Int)
 (hv:aK w F p kn D) (hD:cF n D) (hs:dg bt w) (nF0:¬F 0) (nFb:¬F bt) (np0:pb≠0) (npb:pb≠bt)
 (bn:c7 w nb m) (bq:w.heap[qb]?=some (.cells #[.pointer (some ⟨pb,0,none⟩)] 102 (0,0))) (bc:c7 w cb k) (bp:w.heap[pb]?=some (.cells (puA f) 32 (0,0))) (pu:cR (fun q=>N q∨F q) w f P)
 (nf:¬F nb∧¬F qb∧¬F cb∧¬F pb) (ne:nb≠pb∧qb≠pb∧cb≠pb) (hW:pB P) (hl:∀j,j<5→(P j).length≤1000000)
 (wb cap:Nat) (hwb:wb<w.heap.size∧¬F wb∧wb≠pb) (hwy:∀j (hj:j<wy.length),∃v,w.cell? ⟨wb,j,none⟩=some v∧tW c p w (fun b=>F b∨b=pb) wy[j] v):
 Calls Tryz.prog 47 #[.func (.func 85) #[] #[.pointer (some ⟨nb,0,none⟩),.pointer (some ⟨qb,0,none⟩),.pointer (some ⟨cb,0,none⟩)],.slice (some ⟨wb,0,none⟩) wy.length cap] w (NK w F N pb p kn n (dG c.us c.pg c.st wy k m P kn D)):=by
 refine(Dq R H hn F (fun b=>b=pb) p kn hk hok hwl (enters_of Tryz.func85 (by kernel_rfl) rfl) ⟨0,P,D,F,0⟩ w (Kf F N p kn w wy nb qb cb pb m k _ hv.lt hN ⟨ac bp,nf.2.2.2⟩) (BE 2 (by omega) nb qb cb pb m hm k _ w rfl) rfl hv hD
  ⟨bn,bq,bc,⟨f,bp,pu⟩,nf,ne,⟨hW,hl⟩,Nat.zero_le _,rfl⟩ hs nF0 nFb (fun j q=>by subst q;exact⟨ac bp,nf.2.2.2⟩) (fun e=>np0 e.symm) (fun e=>npb e.symm) wb cap hwb hwy).mono ?_
 rintro e w' (⟨a,hN,rfl,hd,ht⟩|⟨s,rfl,hv',ht,hf,hi,hz⟩)
 ·have hN:dG c.us c.pg c.st wy k m P kn D=.need a:=hN
  rw[hN]
  exact⟨rfl,hd,ht⟩
 ·have hS:dG c.us c.pg c.st wy k m P kn D=.ok s.P s.D:=hz.sem
  rw[hS]
  obtain⟨f',g1,g2⟩:=hz.pu
  exact⟨rfl,f',s.F,hv',ht,hf,hi,g1,g2⟩
theorem Mm (c:Cfg)(W:World):(Instr.field 23 (.agg #[.int .i64 c.wk,.int .i64 c.cp,.int .i64 c.pg,.int .i64 c.st,.int .i64 c.tr,.int .i64 c.wt,.int .i64 c.ck,.int .i64 c.pr,.int .i64 c.ca,.int .i64 c.bi,.int .i64 c.ba]) 1).run Tryz.prog W=.ok (.int .i64 c.cp) W:=by kernel_rfl
theorem BH (c:Cfg)(W:World):(Instr.field 23 (.agg #[.int .i64 c.wk,.int .i64 c.cp,.int .i64 c.pg,.int .i64 c.st,.int .i64 c.tr,.int .i64 c.wt,.int .i64 c.ck,.int .i64 c.pr,.int .i64 c.ca,.int .i64 c.bi,.int .i64 c.ba]) 7).run Tryz.prog W=.ok (.int .i64 c.pr) W:=by kernel_rfl
theorem Mn (c:Cfg)(W:World):(Instr.field 23 (.agg #[.int .i64 c.wk,.int .i64 c.cp,.int .i64 c.pg,.int .i64 c.st,.int .i64 c.tr,.int .i64 c.wt,.int .i64 c.ck,.int .i64 c.pr,.int .i64 c.ca,.int .i64 c.bi,.int .i64 c.ba]) 8).run Tryz.prog W=.ok (.int .i64 c.ca) W:=by kernel_rfl
theorem Mo (c:Cfg)(W:World):(Instr.field 23 (.agg #[.int .i64 c.wk,.int .i64 c.cp,.int .i64 c.pg,.int .i64 c.st,.int .i64 c.tr,.int .i64 c.wt,.int .i64 c.ck,.int .i64 c.pr,.int .i64 c.ca,.int .i64 c.bi,.int .i64 c.ba]) 9).run Tryz.prog W=.ok (.int .i64 c.bi) W:=by kernel_rfl
theorem Iy (c:Cfg)(W:World):(Instr.field 23 (.agg #[.int .i64 c.wk,.int .i64 c.cp,.int .i64 c.pg,.int .i64 c.st,.int .i64 c.tr,.int .i64 c.wt,.int .i64 c.ck,.int .i64 c.pr,.int .i64 c.ca,.int .i64 c.bi,.int .i64 c.ba]) 10).run Tryz.prog W=.ok (.int .i64 c.ba) W:=by kernel_rfl
theorem zG (b l:Int)(W:World):(Instr.build 96 #[(0,.int .i64 b),(1,.int .i64 l)]).run Tryz.prog W=.ok (.agg #[.int .i64 b,.int .i64 l]) W:=run_build W _ _ _ (by kernel_rfl)
def caV (d:Cfg)(u k:Int):Int:=nU d.cp d.pg d.st d.ca u k
def biV (d:Cfg)(k:Int):Int:=Dz d.cp d.pg d.st d.ca d.bi k
theorem rK {c:Cfg}(R:c.Ok)(u k:Int)(w:World):Calls Tryz.prog 64 #[.agg c.arr,.int .i64 u,.int .i64 k] w (aU w (.bool (caV c u k != 0))):=by
 obtain⟨w1,e1,hl1,m1,s1⟩:=bg w (.cells c.arr 28)
 have MM:=hQQ m1
 have L0:=hQQ hl1
 have HC:=hQQ (FY R w1 u k)
 clear hl1 m1 R
 go_enter Tryz.func64,Tryz.ntmps64
 go_wp2_with (refine wpList_load_row rfl 28 _ rfl _ rfl 28 _ _ _ L0.o Tryz.underlying28 rfl (by kernel_rfl) ?_)
 refine HC.o.mono ?_
 rintro e w2 ⟨rfl,h2⟩
 have M2:=hQQ (MM.o.trans h2)
 clear h2
 go_wp2_with fail
 go_ret
 exact⟨rfl,M2.o⟩
theorem xu {c:Cfg}(R:c.Ok)(u k:Int)(w:World):Calls Tryz.prog 74 #[.agg c.arr,.int .i64 u,.int .i64 k] w (aU w (.agg #[.int .i64 (caV c u k),.int .i64 c.ca])):=by
 obtain⟨w2,e2,hl1,hl2,m2,s2⟩:=gS w (.cells c.arr 28) (.cells #[.int .i64 0,.int .i64 0] 96)
 have MM:=hQQ m2
 have L0:=hQQ hl1
 have L1:=hQQ hl2
 have HR:=hQQ R
 have hf:=Mn c
 have hb:=zG (caV c u k) c.ca
 clear hl1 hl2 m2 R
 go_enter Tryz.func74,Tryz.ntmps74
 go_wp2_with fail
 refine bO 8 (by kernel_rfl) (by kernel_rfl) ?_
 simp only[List.take_succ_cons,List.take_zero,List.drop_succ_cons,List.drop_zero]
 refine aP rfl 28 _ rfl _ rfl 28 _ _ _ (fun W hW=>hW.block L0.o) Tryz.underlying28 rfl (by kernel_rfl) ?_
 iterate 2
  with_reducible refine wpQuiet_step (fun K hK=>?_)
  go_simp
  first
  |(refine hK _ ?_;clear hK K)
  |(apply Exists.intro
    refine⟨fun W hW=>?_,hK _ ?_⟩
    first
    |(go_simp;try rfl)
    clear hK K)
 iterate 1
  with_reducible refine wpQuiet_step (fun K hK=>?_)
  go_simp
  first
  |(refine hK _ ?_;clear hK K)
  |(apply Exists.intro
    refine⟨fun W hW=>?_,hK _ ?_⟩
    first
    |(have hc:=FY HR.o W u k;go_at_call 28;exact Calls.more hW hc)
    clear hK K)
 refine aP rfl 28 _ rfl _ rfl 28 _ _ _ (fun W hW=>hW.block L0.o) Tryz.underlying28 rfl (by kernel_rfl) ?_
 iterate 1
  with_reducible refine wpQuiet_step (fun K hK=>?_)
  go_simp
  first
  |(refine hK _ ?_;clear hK K)
  |(apply Exists.intro
    refine⟨fun W hW=>?_,hK _ ?_⟩
    first
    |(go_at_call 20;exact Calls.more hW (dx HR.o W))
    clear hK K)
 iterate 2
  with_reducible refine wpQuiet_step (fun K hK=>?_)
  go_simp
  first
  |(refine hK _ ?_;clear hK K)
  |(apply Exists.intro
    refine⟨fun W hW=>?_,hK _ ?_⟩
    first
    |(go_simp;try rfl)
    clear hK K)
 refine wpQuiet_nil ?_
 intro w4 m4
 have L4:=hQQ (m4.block L1.o)
 have M4:=hQQ (MM.o.trans m4)
 have L5:=hQQ (setRow_heap w4 (w.heap.size+1) _ #[.int .i64 (caV c u k),.int .i64 c.ca] _ _ L4.o)
 have M5:Hq (ae w (w4.setRow (w.heap.size+1) #[.int .i64 (caV c u k),.int .i64 c.ca])):=hQQ (M4.o.setRow _ _ (by omega))
 clear hf hb m4
 go_wp2_with (refine wpList_store_row rfl 96 _ _ rfl _ _ rfl rfl 96 _ L4.o (by kernel_rfl) rfl (by simp[Value.oneCell']) ?_)
 refine bodyPost_ret (v:=.agg #[.int .i64 (caV c u k),.int .i64 c.ca]) (results_cell_row Tryz.results74 _ _ _ 96 _ (0,0) _ rfl L5.o Tryz.underlying96 rfl (by kernel_rfl)) rfl ⟨rfl,M5.o⟩
theorem Iz {c:Cfg}(R:c.Ok)(k:Int)(w:World):Calls Tryz.prog 75 #[.agg c.arr,.int .i64 k] w (aU w (.agg #[.int .i64 (biV c k),.int .i64 c.bi])):=by
 obtain⟨w2,e2,hl1,hl2,m2,s2⟩:=gS w (.cells c.arr 28) (.cells #[.int .i64 0,.int .i64 0] 96)
 have MM:=hQQ m2
 have L0:=hQQ hl1
 have L1:=hQQ hl2
 have HR:=hQQ R
 have hf:=Mo c
 have hb:=zG (biV c k) c.bi
 clear hl1 hl2 m2 R
 go_enter Tryz.func75,Tryz.ntmps75
 go_wp2_with fail
 refine bO 7 (by kernel_rfl) (by kernel_rfl) ?_
 simp only[List.take_succ_cons,List.take_zero,List.drop_succ_cons,List.drop_zero]
 refine aP rfl 28 _ rfl _ rfl 28 _ _ _ (fun W hW=>hW.block L0.o) Tryz.underlying28 rfl (by kernel_rfl) ?_
 iterate 1
  with_reducible refine wpQuiet_step (fun K hK=>?_)
  go_simp
  first
  |(refine hK _ ?_;clear hK K)
  |(apply Exists.intro
    refine⟨fun W hW=>?_,hK _ ?_⟩
    first
    |(go_simp;try rfl)
    clear hK K)
 iterate 1
  with_reducible refine wpQuiet_step (fun K hK=>?_)
  go_simp
  first
  |(refine hK _ ?_;clear hK K)
  |(apply Exists.intro
    refine⟨fun W hW=>?_,hK _ ?_⟩
    first
    |(have hc:=Ob HR.o W k;go_at_call 29;exact Calls.more hW hc)
    clear hK K)
 refine aP rfl 28 _ rfl _ rfl 28 _ _ _ (fun W hW=>hW.block L0.o) Tryz.underlying28 rfl (by kernel_rfl) ?_
 iterate 1
  with_reducible refine wpQuiet_step (fun K hK=>?_)
  go_simp
  first
  |(refine hK _ ?_;clear hK K)
  |(apply Exists.intro
    refine⟨fun W hW=>?_,hK _ ?_⟩
    first
    |(go_at_call 20;exact Calls.more hW (dx HR.o W))
    clear hK K)
 iterate 2
  with_reducible refine wpQuiet_step (fun K hK=>?_)
  go_simp
  first
  |(refine hK _ ?_;clear hK K)
  |(apply Exists.intro
    refine⟨fun W hW=>?_,hK _ ?_⟩
    first
    |(go_simp;try rfl)
    clear hK K)
 refine wpQuiet_nil ?_
 intro w4 m4
 have L4:=hQQ (m4.block L1.o)
 have M4:=hQQ (MM.o.trans m4)
 have L5:=hQQ (setRow_heap w4 (w.heap.size+1) _ #[.int .i64 (biV c k),.int .i64 c.bi] _ _ L4.o)
 have M5:Hq (ae w (w4.setRow (w.heap.size+1) #[.int .i64 (biV c k),.int .i64 c.bi])):=hQQ (M4.o.setRow _ _ (by omega))
 clear hf hb m4
 go_wp2_with (refine wpList_store_row rfl 96 _ _ rfl _ _ rfl rfl 96 _ L4.o (by kernel_rfl) rfl (by simp[Value.oneCell']) ?_)
 refine bodyPost_ret (v:=.agg #[.int .i64 (biV c k),.int .i64 c.bi]) (results_cell_row Tryz.results75 _ _ _ 96 _ (0,0) _ rfl L5.o Tryz.underlying96 rfl (by kernel_rfl)) rfl ⟨rfl,M5.o⟩
theorem zH (S:Fam)(C:Nat→List Int):∀m,(∀j,j<m→C j= [])→ee S C m= []
 | 0,_=>rfl
 |m+1,h=>by rw[ee,zH S C m (fun j hj=>h j (by omega)),h m (by omega)];rfl
def gH (C:Nat→List Int):Nat→List Int
 | 0=> []
 |m+1=>gH C m++C m
theorem Fb (S:Fam)(C:Nat→List Int):∀m,(ee S C m).map (·.1)=gH C m
 | 0=>rfl
 |m+1=>by
  rw[ee,List.map_append,Fb S C m,gH]
  simp[Function.comp_def]
theorem vM {C:Nat→List Int}{x y:Int}{p:Nat}(h1:∀j,j<p→((C j).length:Int)≤x)(h2:∀j,p≤j→((C j).length:Int)≤y):∀m,((gH C (p+m)).length:Int)≤p * x+m * y
 | 0=>by
   have:∀q,q≤p→((gH C q).length:Int)≤q * x:=by
    intro q
    induction q with
    |zero=>intro _;simp[gH]
    |succ q ih =>
     intro hq
     have a:=ih (by omega)
     have b:=h1 q (by omega)
     rw[gH,List.length_append]
     have e:((q+1:Nat):Int) * x=q * x+x:=by rw[Int.natCast_succ,Int.add_mul];omega
     rw[e];omega
   simpa using this p (Nat.le_refl _)
 |m+1=>by
  have a:=vM h1 h2 m
  have b:=h2 (p+m) (by omega)
  rw[show p+(m+1)=p+m+1 by omega,gH,List.length_append]
  have e:((m+1:Nat):Int) * y=m * y+y:=by rw[Int.natCast_succ,Int.add_mul];omega
  rw[e];omega
section
variable {us pg st:Int}{n:Nat}{S:Fam}(H:cH pg st n)(hS:S.In (bz st pg+62) n)(hn:n≤10000)
include H hS hn
theorem iY {C:Nat→List Int}{k:Int} :∀(l:List Int) {ws:List Int} {O:List (Int×Int)},FrI us pg st n S ws C ((l.map fun a=>(a,k))++O)→FrI us pg st n S (iH us pg st l ws) C O
 | [],ws,O,h=>h
 |a::t,ws,O,h=>by
  have h2:FrI us pg st n S ws C ((t.map fun a=>(a,k))++((a,k)::O)):=h.perm (by rw[List.map_cons,List.cons_append];exact List.perm_middle.symm)
  obtain⟨X,e,h3⟩:=(iY t h2).back H hS hn
  rw[iH,e]
  exact h3
theorem Fd (P:Nat→List Int){ws:List Int}{C:Nat→List Int}{O:List (Int×Int)}(h:FrI us pg st n S ws C (puO P++O)):FrI us pg st n S (qr us pg st P ws) C O:=by
 have e:puO P++O=((P 0).map fun a=>(a,((0:Nat):Int)))++(((P 1).map fun a=>(a,((1:Nat):Int)))++(((P 2).map fun a=>(a,((2:Nat):Int)))++(((P 3).map fun a=>(a,((3:Nat):Int)))++(((P 4).map fun a=>(a,((4:Nat):Int)))++O)))):=by
  simp[puO,ee,Dk]
 rw[e] at h
 unfold qr
 exact iY H hS hn (P 4) (iY H hS hn (P 3) (iY H hS hn (P 2) (iY H hS hn (P 1) (iY H hS hn (P 0) h))))
theorem tX {i:Nat}(hi:i<S.m):∀(m:Nat) {ws:List Int} {C:Nat→List Int} {O:List (Int×Int)},FrI us pg st n S ws C O→(C i).length≤m→FrI us pg st n S (il us pg st (S.b i) (S.l i) m ws) (de C i []) O
 | 0,ws,C,O,h,hl=>by
   have e:C i= []:=List.length_eq_zero_iff.1 (by omega)
   rw[←e,eO];exact h
 |m+1,ws,C,O,h,hl=>by
  rcases h.pop H hS hn hi with⟨e,e2⟩|⟨xs,x,X,e,e2,h2⟩
  ·have em:il us pg st (S.b i) (S.l i) (m+1) ws=ws:=by simp[il,e2]
   rw[em,←e,eO];exact h
  ·obtain⟨Y,e3,h3⟩:=h2.back H hS hn
   have em:il us pg st (S.b i) (S.l i) (m+1) ws=il us pg st (S.b i) (S.l i) m Y:=by simp[il,e2,e3]
   have:=tX hi m h3 (by unfold de;simp;rw[e] at hl;simp at hl;omega)
   rw[kX] at this
   rw[em];exact this
theorem Dr {ws:List Int}{C:Nat→List Int}{O:List (Int×Int)}(h:FrI us pg st n S ws C O){i:Nat}(hi:i<S.m):((C i).length:Int)≤S.l i:=(h.keeps i hi).fit
theorem vN {ws:List Int}{C:Nat→List Int}{O:List (Int×Int)}(h:FrI us pg st n S ws C O):∀m,m≤S.m→∃C',FrI us pg st n S (ox us pg st S m ws) C' O∧∀j,j<m→C' j= []
 | 0,_=>⟨C,h,fun j hj=>by omega⟩
 |m+1,hm=>by
  obtain⟨C1,h1,e1⟩:=vN h m (by omega)
  have hf:=Dr H hS hn h1 (i:=m) (by omega)
  refine⟨_,tX H hS hn (i:=m) (by omega) ((S.l m).toNat+1) h1 (by omega),fun j hj=>?_⟩
  unfold de
  split
  ·rfl
  ·exact e1 j (by omega)
theorem Fe {ws:List Int}{C:Nat→List Int}{O:List (Int×Int)}(h:FrI us pg st n S ws C O):∃C',FrI us pg st n S (ox us pg st S S.m ws) C' O∧ee S C' S.m= []:=by
 obtain⟨C',h1,h2⟩:=vN H hS hn h S.m (Nat.le_refl _)
 exact⟨C',h1,zH S C' S.m h2⟩
variable (hu:0≤us∧us+32 * pg≤1000000){i0 i1 k:Nat}(h0:i0<S.m)(h1:i1<S.m)(hk:k<5)(k0:S.k i0=k)(k1:S.k i1=k)
include hu h0 h1 hk k0 k1
end
abbrev Bl:=Int×Int
def blCells (its:List Bl):List Value:=its.flatMap fun p=> [.int .i64 p.1,.int .i64 p.2]
theorem tY (a b:List Bl):blCells (a++b)=blCells a++blCells b:=by simp[blCells]
theorem fE (p:Bl)(ps:List Bl):blCells (p::ps)=.int .i64 p.1:: .int .i64 p.2::blCells ps:=by simp[blCells]
theorem jL:∀ps:List Bl,(blCells ps).length=ps.length * 2
 | []=>rfl
 |p::ps=>by rw[fE,List.length_cons,List.length_cons,jL ps,List.length_cons];omega
theorem rh:∀(ps:List Bl) (i:Nat) (p:Bl),ps[i]?=some p→(blCells ps)[i * 2]?=some (.int .i64 p.1)∧(blCells ps)[i * 2+1]?=some (.int .i64 p.2)
 | [],i,p,h=>by cases h
 |q::ps,0,p,h=>by
  simp at h;subst h
  rw[fE];exact⟨rfl,rfl⟩
 |q::ps,i+1,p,h=>by
  have:=rh ps i p (by simpa using h)
  rw[fE,show(i+1) * 2=i * 2+1+1 by omega]
  exact this
theorem zI {ps:List Bl} :∀u∈blCells ps,u.oneCell'=true:=by
 intro u hu
 obtain⟨p,_,hp⟩:=List.mem_flatMap.1 hu
 rcases List.mem_cons.1 hp with rfl|hp
 ·rfl
 ·obtain rfl:=List.mem_singleton.1 hp;rfl
theorem xw (ps:List Bl)(i:Nat):blCells (ps.take i)=(blCells ps).take (i * 2):=by
 induction ps generalizing i with
 |nil=>simp[blCells]
 |cons p ps ih =>
  cases i with
  |zero=>simp[blCells]
  |succ i=>rw[List.take_succ_cons,fE,fE,ih,show(i+1) * 2=i * 2+1+1 by omega];rfl
theorem xx (ps:List Bl)(i:Nat):blCells (ps.drop i)=(blCells ps).drop (i * 2):=by
 induction ps generalizing i with
 |nil=>simp[blCells]
 |cons p ps ih =>
  cases i with
  |zero=>simp
  |succ i=>rw[List.drop_succ_cons,fE,ih,show(i+1) * 2=i * 2+1+1 by omega];rfl
theorem IA:∃i:TypeInfo,Tryz.prog.info? 48=some i∧i.zero=some (.agg #[.int .i64 0,.int .i64 0])∧i.size=2∧i.bytes=16:=by
 have h1:(Tryz.prog.info? 48).map (·.size)=some 2:=by kernel_rfl
 have h2:(Tryz.prog.info? 48).bind (·.zero)=some (.agg #[.int .i64 0,.int .i64 0]):=by kernel_rfl
 have h3:(Tryz.prog.info? 48).map (·.bytes)=some 16:=by kernel_rfl
 cases q:Tryz.prog.info? 48 with
 |none=>rw[q] at h1;simp at h1
 |some i=>rw[q] at h1 h2 h3;exact⟨i,rfl,by simpa using h2,by simpa using h1,by simpa using h3⟩
def BlR (base:Nat)(w:World)(v:Value)(its:List Bl):Prop:=w.ownsRow base 48 2 v its.length (blCells its)
theorem BlR.nil (base:Nat)(w:World):BlR base w (.slice none 0 0) []:=World.ownsRow_nil w base _ 2
theorem BlR.more {base:Nat}{w w':World}{v:Value}{its:List Bl}(h:BlR base w v its)(m:ae w w'):BlR base w' v its:=oT h m
theorem BlR.low {base base':Nat}{w:World}{v:Value}{its:List Bl}(h:BlR base w v its)(hb:base'≤base):BlR base' w v its:=qE h hb
theorem BlR.keep {base:Nat}{w w':World}{v:Value}{its:List Bl}(h:BlR base w v its){S:Nat→Prop}(t:Turned S w w')(hs:∀k,S k→∃cs T fr,w.heap[k]?=some (.cells cs T fr)∧T≠48):BlR base w' v its:=by
 refine⟨h.1,?_⟩
 rcases h.2 with q|⟨g,cap,cur,h1,h2,h3,h4⟩
 ·exact .inl q
 ·refine .inr ⟨g,cap,cur,h1,h2,?_,h4⟩
  rw[t.block g (ac h3) (fun q=>by
   obtain⟨cs,T,fr,e,hne⟩:=hs g q
   rw[h3] at e;cases e;exact hne rfl)]
  exact h3
theorem BlR.one {base:Nat}{w:World}{v:Value}{its:List Bl}(h:BlR base w v its):v.oneCell'=true:=by
 rcases h.2 with⟨rfl,_⟩|⟨g,cap,cur,rfl,_⟩<;>rfl
theorem BlR.reads {base:Nat}{w:World}{v:Value}{its:List Bl}(h:BlR base w v its):
 ∃a cap,v=.slice a its.length cap∧its.length≤cap∧(a=none→cap=0)∧∀g,a=some g→g=⟨g.block,0,none⟩∧∀j u,(blCells its)[j]?=some u→w.cell? ⟨g.block,j,none⟩=some u:=by
 rcases h.2 with⟨rfl,h0⟩|⟨g,cap,cur,rfl,hb,hg,hn,_,hs,ht⟩
 ·exact⟨none,0,by rw[h0],by omega,fun _=>rfl,fun g q=>by cases q⟩
 ·refine⟨_,cap,rfl,hn,(fun q=>by cases q),fun q hq=>?_⟩
  cases hq
  refine⟨rfl,fun j u hj=>?_⟩
  have hj':j<its.length * 2:=by have:=(List.getElem?_eq_some_iff.1 hj).1;rw[jL] at this;exact this
  have e:cur.toList[j]?=some u:=by
   have h1:(cur.toList.take (its.length * 2))[j]?=some u:=by rw[ht];exact hj
   rw[List.getElem?_take,if_pos (by omega)] at h1
   exact h1
  simp[World.cell?,hg]
  simpa using e
theorem BlR.at {base:Nat}{w:World}{v:Value}{its:List Bl}(h:BlR base w v its):∃a cap,v=.slice a its.length cap∧its.length≤cap∧(a=none→cap=0)∧∀k p,its[k]?=some p→∃g,a=some ⟨g,0,none⟩∧w.cell? ⟨g,k * 2,none⟩=some (.int .i64 p.1)∧w.cell? ⟨g,k * 2+1,none⟩=some (.int .i64 p.2):=by
 obtain⟨a,cap,rfl,hc,h0,hr⟩:=h.reads
 refine⟨a,cap,rfl,hc,h0,fun k p hk=>?_⟩
 have hlt:=(List.getElem?_eq_some_iff.1 hk).1
 cases a with
 |none=>have:=h0 rfl;omega
 |some g =>
  obtain⟨e,hcell⟩:=hr g rfl
  obtain⟨q1,q2⟩:=rh its k p hk
  exact⟨g.block,by rw[←e],hcell _ _ q1,hcell _ _ q2⟩
def zJ (w:World)(u:Value)(news:List Bl):Prop:=(u=.slice none 0 0∧news= [])∨∃p c,u=.slice (some p) news.length c∧∀j x,(blCells news)[j]?=some x→w.cell? (p.add j)=some x
theorem xy {o:Oper}{a:Act}{K:Act→World→Prop}{Q:Exit→Act→World→Prop}{w:World}{base:Nat}{v u:Value}{its news:List Bl}(s x:Operand)
 (ho:o.op=.call { callee:= .builtin .append,args:= #[s,x],argTypes:= #[35,35] })
 (hs:a.eval s=v) (hv:BlR base w v its) (hb:base≤w.heap.size) (hx:a.eval x=u) (hu:zJ w u news) (hl:its.length+news.length≤1000000)
 (h:∀v' w',BlR base w' v' (its++news)→Turned (fun k=>v.ownBlock=some k) w w'→(∀k,v'.ownBlock=some k→v.ownBlock=some k∨k=w.heap.size)→K (a.put o.dst v') w'):o.wp Tryz.prog a w K Q:=by
 obtain⟨i,i1,i2,i3,i4⟩:=IA
 rcases hu with⟨rfl,rfl⟩|⟨p,c,rfl,hc⟩
 ·have hrun:=run_append_owned_none (P:=Tryz.prog) (w:=w) base 35 o.type 48 i 2 Tryz.underlying35 i1 v its.length _ hv
  unfold Oper.wp
  simp[execOp,ho,resolve,invoke,builtin,hs,hx,hrun,Result.andThen]
  exact h _ _ (by simpa using hv) (Turned.refl _ _) (fun k q=> .inl q)
 ·obtain⟨v',w',hr,h2,h3,_,h5⟩:=run_append_own_at (P:=Tryz.prog) w base 35 o.type 48 i _ 2 16 Tryz.underlying35 i1 i2 i3 i4 rfl (by omega) v its.length _ hv p news.length c (blCells news) (jL news) hc zI (by simp only[maxLen];omega) (by omega) hb
  unfold Oper.wp execOp
  simp only[ho,resolve,invoke,builtin,Sem.run_bind,Sem.run_pure,Result.andThen_ok,List.map_toArray,List.map_cons,List.map_nil,hs,hx,hr]
  refine h v' w' ?_ ⟨h3.os,h3.tape,h3.output,h3.size,fun k hk hne=>h3.block k hk (fun e=>hne e.symm)⟩ (fun k q=>?_)
  ·unfold BlR
   rw[List.length_append,tY]
   exact h2
  ·rcases h5 with h5|h5
   ·exact .inl (by rw[←h5];exact q)
   ·rw[h5] at q;cases q;exact .inr rfl
section
variable {ops:Array Oper}{C:World→Prop}{o':Oper}{a:Act}
theorem uF {x y:Operand}{g n cap m:Nat}(hw:Region.wanted o' (yielded ops a.tmps)=true)(ho:o'.op=.slice 35 x none (some y) none)(hx:a.eval x=.slice (some ⟨g,0,none⟩) n cap)(hy:a.eval y=.int .i64 (m:Int))(hm:m≤cap):bT Tryz.prog ops C o' (.slice (some ⟨g,0,none⟩) m cap) a:=by
 have d1:decide (m≤cap)=true:=by simp[hm]
 refine .inl ⟨hw,fun W hW=>?_⟩
 unfold execOp
 generalize a.eval=ρ at hx hy⊢
 simp only[ho,hx,hy]
 go_simp
def hiB (g m cap:Nat):Addr:=if cap=m+1 then⟨g,0,none⟩ else⟨g,(m+1) * 2,none⟩
theorem uG {x y:Operand}{g n cap m:Nat}(hw:Region.wanted o' (yielded ops a.tmps)=true)(ho:o'.op=.slice 35 x (some y) none none)(hx:a.eval x=.slice (some ⟨g,0,none⟩) n cap)(hy:a.eval y=.int .i64 ((m:Int)+1))(hm:m<n)(hn:n≤cap):bT Tryz.prog ops C o' (.slice (some (hiB g m cap)) (n-(m+1)) (cap-(m+1))) a:=by
 refine .inl ⟨hw,fun W hW=>?_⟩
 unfold execOp
 generalize a.eval=ρ at hx hy⊢
 simp only[ho,hx,hy]
 go_simp
 rw[if_pos ⟨by omega,by omega⟩]
 unfold hiB
 split<;>rfl
theorem uH {x y:Operand}{g n cap m:Nat}(hw:Region.wanted o' (yielded ops a.tmps)=true)(ho:o'.op=.indexAddr 35 x y)(hx:a.eval x=.slice (some ⟨g,0,none⟩) n cap)(hy:a.eval y=.int .i64 (m:Int))(hm:m<n):bT Tryz.prog ops C o' (.pointer (some ⟨g,m * 2,none⟩)) a:=by
 have d1:decide (m<n)=true:=by simp[hm]
 refine .inl ⟨hw,fun W hW=>?_⟩
 unfold execOp
 generalize a.eval=ρ at hx hy⊢
 simp only[ho,hx,hy]
 go_simp
end
theorem Kg {o:Oper}{a:Act}{w:World}{K:Act→World→Prop}{Q:Exit→Act→World→Prop}(ho:o.op=.buildSlice 35 0 #[])(h:K (a.put o.dst (.slice (some ⟨w.heap.size,0,none⟩) 0 0)) (w.alloc (.cells #[] 48))):Oper.wp Tryz.prog o a w K Q:=by
 unfold Oper.wp Oper.upon execOp
 simp only[ho]
 generalize a.eval=ρ
 go_simp
 exact h
theorem BI {W:World}{g cv j:Nat}{its:List Bl}(hc:∀i x,(blCells its)[i]?=some x→W.cell? ⟨g,i,none⟩=some x)(hj:j≤its.length):zJ W (.slice (some ⟨g,0,none⟩) j cv) (its.take j):=by
 have hl:(its.take j).length=j:=by simp;omega
 refine .inr ⟨⟨g,0,none⟩,cv,by rw[hl],fun i x hi=>?_⟩
 rw[iZ,Nat.zero_add]
 refine hc i x ?_
 rw[xw,List.getElem?_take] at hi
 split at hi
 ·exact hi
 ·cases hi
theorem BJ {W:World}{g cv m c:Nat}{its:List Bl}(hc:∀i x,(blCells its)[i]?=some x→W.cell? ⟨g,i,none⟩=some x)(hm:m<its.length)(hn:its.length≤cv):zJ W (.slice (some (hiB g m cv)) (its.length-(m+1)) c) (its.drop (m+1)):=by
 have hl:(its.drop (m+1)).length=its.length-(m+1):=by simp
 refine .inr ⟨hiB g m cv,c,by rw[hl],fun i x hi=>?_⟩
 have hi':=(List.getElem?_eq_some_iff.1 hi).1
 rw[jL,hl] at hi'
 have e:hiB g m cv=⟨g,(m+1) * 2,none⟩:=by unfold hiB;rw[if_neg (by omega)]
 rw[e,iZ]
 refine hc _ x ?_
 rw[xx,List.getElem?_drop] at hi
 exact hi
theorem AG.skipO {m:Nat}{a:Act}{L:List (Nat×Value)}(h:AG m a L)(v:Value):AG m (a.put none v) L:=h
end Go.Proofs.YtddmeghbmdfgeaaGreatDoor
