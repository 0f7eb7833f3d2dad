/-
  Rows of pairs that a call has made for itself: how they are kept and read, what append makes of them, and the statements' own comparison of two of them.
-/
import Derived.Test.YtmafllcmkhgidaaGreatDoorPfAd
import Derived.Test.YtmafllcmkhgidaaGreatDoorChecked
import Derived.Deep.AppendLies
import Derived.WalkSpells
import Derived.Handy
import Derived.Deep.DeepMust
import Derived.Recover
import Derived.RangeFuncBox
import Derived.RangeFuncLeaves
import Derived.RangeFuncCalls
import Derived.Shelf.Abstract
import Derived.OwnWalkIn
import Derived.TacticsInMore
import Derived.LoopNIn
import Derived.LoopIn
import Derived.Carry
import Derived.RangeFuncNested
import Derived.Maps.OwnIn
import Derived.Test.YtmafllcmkhgidaaGreatDoorRows
import Derived.Test.YtmafllcmkhgidaaGreatDoorPfAa
import Derived.WalkKit
import Derived.WalkLawsBesides
import Derived.Outline
import Derived.Lib.Hide
import Derived.Shelf.SlicesG.Clone
set_option maxRecDepth 100000
set_option maxHeartbeats 8000000
set_option linter.unusedVariables false
set_option linter.unusedSimpArgs false
set_option linter.unusedSectionVars false
namespace Go.Proofs.YtmafllcmkhgidaaGreatDoor
open Go.RowKit Go.Sort Go.Maps
theorem turned_of_grown {S : Nat → Prop} {wa w w' : World} {v : Value} {e : TypeId} {s n : Nat} {xs : List Value} (hW : Turned S wa w) (h : w.ownsRow wa.heap.size e s v n xs) (g : w.grownBy w' v.ownBlock) : Turned S wa w' :=
 ⟨g.os.trans hW.os,g.tape.trans hW.tape,g.output.trans hW.output,Nat.le_trans hW.size g.size,fun k hk hs => by
   rw [g.block k (Nat.lt_of_lt_of_le hk hW.size) (by
     rcases h.2 with ⟨rfl,_⟩ | ⟨b,cap,cur,rfl,hb,_⟩
     · simp [Value.ownBlock]
     · simp only [Value.ownBlock,ne_eq,Option.some.injEq]; omega)]
   exact Turned.block hW k hk hs⟩
theorem ownsRow_keep {w w' : World} {base : Nat} {e : TypeId} {s n : Nat} {v : Value} {xs : List Value} (h : w.ownsRow base e s v n xs) {S : Nat → Prop} (hW : Turned S w w') (hs : ∀ k,base ≤ k → ¬ S k) : w'.ownsRow base e s v n xs := by
 refine ⟨h.1,?_⟩
 rcases h.2 with q | ⟨g,cap,cur,h1,h2,h3,h4⟩
 · exact .inl q
 · exact .inr ⟨g,cap,cur,h1,h2,by rw [Turned.block hW g (lt_of_heap h3) (hs g h2)]; exact h3,h4⟩
theorem ownsRow_lower {w : World} {base base' : Nat} {e : TypeId} {s n : Nat} {v : Value} {xs : List Value} (h : w.ownsRow base e s v n xs) (hb : base' ≤ base) : w.ownsRow base' e s v n xs := by
 refine ⟨h.1,?_⟩
 rcases h.2 with q | ⟨g,cap,cur,h1,h2,h3,h4⟩
 · exact .inl q
 · exact .inr ⟨g,cap,cur,h1,by omega,h3,h4⟩
def pairCells (ps : List KV) : List Value := ps.flatMap fun p => [.int .i64 p.1,.int .i64 p.2]
theorem pairCells_snoc (ps : List KV) (p : KV) : pairCells (ps ++ [p]) = pairCells ps ++ [.int .i64 p.1,.int .i64 p.2] := by simp [pairCells]
theorem pairCells_cons (p : KV) (ps : List KV) : pairCells (p :: ps) = .int .i64 p.1 :: .int .i64 p.2 :: pairCells ps := by simp [pairCells]
theorem pairCells_len : ∀ ps : List KV,(pairCells ps).length = ps.length * 2
 | [] => rfl
 | p :: ps => by rw [pairCells_cons,List.length_cons,List.length_cons,pairCells_len ps,List.length_cons]; omega
theorem pairCells_get : ∀ (ps : List KV) (i : Nat) (p : KV),ps[i]? = some p → (pairCells ps)[i * 2]? = some (.int .i64 p.1) ∧ (pairCells ps)[i * 2 + 1]? = some (.int .i64 p.2)
 | [],i,p,h => by cases h
 | q :: ps,0,p,h => by
   simp at h; subst h
   rw [pairCells_cons]; exact ⟨rfl,rfl⟩
 | q :: ps,i + 1,p,h => by
   have := pairCells_get ps i p (by simpa using h)
   rw [pairCells_cons,show (i + 1) * 2 = i * 2 + 1 + 1 by omega]
   exact this
theorem pair_info : ∃ i : TypeInfo,Tryz.prog.info? 72 = some i ∧ i.zero = some (.agg #[.int .i64 0,.int .i64 0]) ∧ i.size = 2 ∧ i.bytes = 16 := by
 have h1 : (Tryz.prog.info? 72).map (·.size) = some 2 := by kernel_rfl
 have h2 : (Tryz.prog.info? 72).bind (·.zero) = some (.agg #[.int .i64 0,.int .i64 0]) := by kernel_rfl
 have h3 : (Tryz.prog.info? 72).map (·.bytes) = some 16 := by kernel_rfl
 cases q : Tryz.prog.info? 72 with
 | none => rw [q] at h1; simp at h1
 | some i => rw [q] at h1 h2 h3; exact ⟨i,rfl,by simpa using h2,by simpa using h1,by simpa using h3⟩
def PRw (base : Nat) (w : World) (v : Value) (ps : List KV) : Prop := w.ownsRow base 72 2 v ps.length (pairCells ps)
theorem PRw.nil (base : Nat) (w : World) : PRw base w (.slice none 0 0) [] := World.ownsRow_nil w base _ 2
theorem PRw.keep {base : Nat} {w w' : World} {v : Value} {ps : List KV} (h : PRw base w v ps) {S : Nat → Prop} (hW : Turned S w w') (hs : ∀ k,base ≤ k → ¬ S k) : PRw base w' v ps := ownsRow_keep h hW hs
theorem PRw.more {base : Nat} {w w' : World} {v : Value} {ps : List KV} (h : PRw base w v ps) (hW : More w w') : PRw base w' v ps := ownsRow_keep h hW (fun _ _ q => q)
theorem PRw.mono {base base' : Nat} {w : World} {v : Value} {ps : List KV} (h : PRw base w v ps) (hb : base' ≤ base) : PRw base' w v ps := ownsRow_lower h hb
theorem PRw.reads {base : Nat} {w : World} {v : Value} {ps : List KV} (h : PRw base w v ps) : ∃ a cap,v = .slice a ps.length cap ∧ IsPairs w a ps ∧ ∀ k,leads a k → base ≤ k := by
 rcases h.2 with ⟨rfl,h0⟩ | ⟨g,cap,cur,rfl,hb,hg,_,_,hs,ht⟩
 · have : ps = [] := List.length_eq_zero_iff.1 h0
   subst this
   exact ⟨none,0,rfl,.inl rfl,fun k hk => by cases hk⟩
 · refine ⟨_,cap,rfl,.inr ⟨g,0,rfl,lt_of_heap hg,fun i t hi => ?_⟩,fun k hk => by cases hk; exact hb⟩
   have hil := (List.getElem?_eq_some_iff.1 hi).1
   have hcell : ∀ j u,(pairCells ps)[j]? = some u → w.cell? ⟨g,0 + j,none⟩ = some u := fun j u hj => by
     have hj' : j < ps.length * 2 := by have := (List.getElem?_eq_some_iff.1 hj).1; rw [pairCells_len] at this; exact this
     have e : cur.toList[j]? = some u := by
       have h1 : (cur.toList.take (ps.length * 2))[j]? = some u := by rw [ht]; exact hj
       rw [List.getElem?_take,if_pos (by omega)] at h1
       exact h1
     simp [World.cell?,hg]
     simpa using e
   obtain ⟨p1,p2⟩ := pairCells_get ps i t hi
   exact ⟨hcell _ _ p1,by have := hcell _ _ p2; rwa [← Nat.add_assoc] at this⟩
theorem wpList_pair {ops : Array Oper} {rest : List Oper} {o : Oper} {a : Act} {Q : Exit → Act → World → Prop} {S : Nat → Prop} {w wa : World} {v : Value} {ps : List KV} (p q : Int) (hgd : o.guard = none) (s x : Operand)
   (ho : o.op = .call { callee := .builtin .append,args := #[s,x],argTypes := #[36,36] })
   (hs : a.eval s = v) (hn : PRw wa.heap.size w v ps) (hW : Turned S wa w) (hl : ps.length ≤ 1000000)
   (hx : a.eval x = .slice (some ⟨w.heap.size,0,none⟩) 1 1)
   (h : ∀ g cap w',PRw wa.heap.size w' (.slice (some ⟨g,0,none⟩) (ps.length + 1) cap) (ps ++ [(p,q)]) → Turned S wa w' → (∀ k ob,w.heap[k]? = some ob → v.ownBlock ≠ some k → w'.heap[k]? = some ob) → wpList Tryz.prog ops Q rest (a.put o.dst (.slice (some ⟨g,0,none⟩) (ps.length + 1) cap)) w') : wpList Tryz.prog ops Q (o :: rest) a (w.alloc (.cells #[.int .i64 p,.int .i64 q] 72)) := by
 obtain ⟨i,i1,i2,i3,i4⟩ := pair_info
 have hn' := hn.more ((More.refl w).alloc (.cells #[.int .i64 p,.int .i64 q] 72))
 have hB := heap_new w (.cells #[.int .i64 p,.int .i64 q] 72)
 refine wpList_append_lies _ hgd s x 36 ho wa.heap.size 72 i _ 2 16 Tryz.underlying36 i1 i2 i3 i4 rfl (by omega) v ps.length _ hs hn' ⟨w.heap.size,0,none⟩ 1 1 [.int .i64 p,.int .i64 q] hx (by simp)
   (fun j u hu => World.news_of_block hB j u (by simpa using hu)) (by intro u hu; simp at hu; rcases hu with rfl | rfl <;> rfl) (by omega) (by simp only [maxLen]; omega) (by omega) (by have := hW.size; simp; omega) _ rfl ?_
 intro g cap w1 hown hgrow _ _
 refine h g cap w1 ?_ (turned_of_grown (hW.alloc _) hn' hgrow) (fun k ob hk hne => ?_)
 · unfold PRw
   rw [List.length_append,pairCells_snoc]
   exact hown
 · rw [hgrow.block k (by have := lt_of_heap hk; simp; omega) (Ne.symm hne),Below.heap_alloc _ _ _ (lt_of_heap hk)]; exact hk
theorem run_equalIn_func {P : Program} (w : World) (d : Nat) (t : TypeId) {a b c} (h : P.underlying t = some (.func a b c)) (f : Fn) (xs ys : Array Value) :
   (Op.equalIn (d + 1) t (.func f xs ys) .nilFunc).run P w = .ok false w := by
 simp [Op.equalIn,run_underlying h]
theorem run_eql_func {P : Program} (w : World) (t : TypeId) {a b c} (h : P.underlying t = some (.func a b c)) (f : Fn) (xs ys : Array Value) : Sem.run P (binOp BinOp.eql t (Value.func f xs ys) Value.nilFunc) w = .ok (.bool false) w := by
 have : Sem.run P (Op.equal t (Value.func f xs ys) Value.nilFunc) w = .ok false w := run_equalIn_func w 9999 t h f xs ys
 simp [binOp,this]
theorem box_cells {w : World} {b : Nat} {v : Value} {T : TypeId} (h : w.heap[b]? = some (.cells #[v] T (0,0))) : w.cell? ⟨b,0,none⟩ = some v ∧ w.frozen? ⟨b,0,none⟩ = false ∧ b < w.heap.size :=
 ⟨by simp [World.cell?,h],by simp [World.frozen?,h],lt_of_heap h⟩
theorem box_put {w : World} {b : Nat} {v : Value} {T : TypeId} (x : Value) (h : w.heap[b]? = some (.cells #[v] T (0,0))) : (w.setCell ⟨b,0,none⟩ x).heap[b]? = some (.cells #[x] T (0,0)) := by
 have := heap_setCell (o:=0) x h
 simpa using this
structure Tell (wa W : World) (b : Nat) (ps : List KV) : Prop where
 ex : ∃ v,W.heap[b]? = some (.cells #[v] 36 (0,0)) ∧ PRw wa.heap.size W v ps
 turn : Turned (fun k => k = b) wa W
theorem Tell.more {wa W W' : World} {b : Nat} {ps : List KV} (h : Tell wa W b ps) (t : More W W') : Tell wa W' b ps := by
 obtain ⟨v,hb,hv⟩ := h.ex
 exact ⟨⟨v,t.block hb,hv.more t⟩,turned_own (F' := fun _ => False) h.turn t (fun _ q => q.elim)⟩
theorem tell_ok (wa W : World) (b : Nat) (ps : List KV) (x y : Int) (hlt : b < wa.heap.size) (h : Tell wa W b ps) (hl : ps.length ≤ 100000) :
   Calls Tryz.prog 78 #[.int .i64 x,.int .i64 y,.pointer (some ⟨b,0,none⟩)] W fun e w' => e = .returned (.bool true) ∧ Tell wa w' b (ps ++ [(x,y)]) := by
 obtain ⟨v,hb,hv⟩ := h.ex
 obtain ⟨c0,f0,l0⟩ := box_cells hb
 have HB := hQQ hb
 have HV := hQQ hv
 have HT := hQQ h.turn
 have FIN : Hid (∀ v' w',PRw wa.heap.size w' v' (ps ++ [(x,y)]) → Turned (fun k => k = b) wa w' → w'.heap[b]? = some (.cells #[v] 36 (0,0)) → Tell wa (w'.setCell ⟨b,0,none⟩ v') b (ps ++ [(x,y)])) := hQQ fun v' w' hp ht hbb =>
   ⟨⟨v',box_put v' hbb,hp.keep (turned_setCell (S:=fun k => k = b) (Turned.refl _ w') (fun _ => rfl) v') (fun k hk e => by omega)⟩,turned_setCell ht (fun _ => rfl) v'⟩
 have NE : Hid (∀ k,v.ownBlock = some k → k ≠ b) := hQQ fun k hk e => by have := hv.lt k hk; omega
 clear h hb hv
 go_enter Tryz.func78,Tryz.ntmps78
 go_wp2_with (at_builtin; refine wpList_pair (S:=fun k => k = b) (wa:=wa) (v:=v) (ps:=ps) x y rfl _ _ rfl rfl HV.out HT.out (by omega) rfl ?_; intro g' c' w1 hp1 ht1 hk1; have H1 := hQQ hp1; have T1 := hQQ ht1; have B1 := hQQ (hk1 b _ HB.out (fun e => NE.out b e rfl)); have c1 := (box_cells B1.out).1; have f1 := (box_cells B1.out).2.1; clear hp1 ht1 hk1)
 go_ret
 exact ⟨rfl,FIN.out _ _ H1.out T1.out B1.out⟩
theorem each_told (F : Nat → Prop) (q : Nat) (D : List KV) (b : Nat) (W : World) (h : MapAt W F q D) (hb : W.heap[b]? = some (.cells #[.slice none 0 0] 36 (0,0))) (hF : ¬ F b) :
   Calls Tryz.prog 77 #[.pointer (some ⟨q,0,none⟩),.func (.func 78) #[] #[.pointer (some ⟨b,0,none⟩)]] W fun e w' => e = .returned (.tuple #[]) ∧ Turned (fun k => k = b) W w' ∧ ∃ v,w'.heap[b]? = some (.cells #[v] 36 (0,0)) ∧ PRw W.heap.size w' v D := by
 have hq : ∀ w,Sem.run Tryz.prog (binOp BinOp.eql 47 (Value.func (.func 78) #[] #[.pointer (some ⟨b,0,none⟩)]) Value.nilFunc) w = .ok (.bool false) w := fun w => run_eql_func w _ Tryz.underlying47 _ _ _
 have hlb := lt_of_heap hb
 have hsm := h.small
 have CP := hQQ (copy_ok F q D W h)
 have HB := hQQ hb
 clear h hb hF
 go_enter Tryz.func77,Tryz.ntmps77
 go_wp2_with fail
 refine CP.out.mono ?_
 rintro e w1 ⟨Fc,c,rfl,mc,M1,nc⟩
 have MC := hQQ mc
 have K1 := hQQ M1
 have T0 := hQQ (show Tell w1 w1 b [] from ⟨⟨_,M1.block HB.out,PRw.nil _ _⟩,Turned.refl _ _⟩)
 have hlb1 : b < w1.heap.size := Nat.lt_of_lt_of_le hlb M1.size
 have NC : Hid (∀ x,Fc x → ¬ x = b) := hQQ (fun x hx q => by have := nc x hx; omega)
 have FIN : Hid (∀ wr,Tell w1 wr b D → Turned (fun k => k = b) W wr ∧ ∃ v,wr.heap[b]? = some (.cells #[v] 36 (0,0)) ∧ PRw W.heap.size wr v D) := hQQ fun wr ht => by
   obtain ⟨v,h1,h2⟩ := ht.ex
   exact ⟨(Turned.mono K1.out (fun _ _ q => q.elim)).trans ht.turn,v,h1,h2.mono K1.out.size⟩
 clear mc M1 nc
 go_wp2_with fail
 refine (len_ok Fc c D w1 MC.out).mono ?_
 rintro e w2 ⟨rfl,h2⟩
 obtain rfl : w2 = w1 := h2
 go_wp2_with fail
 go_loopw [15] (fun i wr => ∃ t : Nat,t ≤ D.length ∧ i = .int .i64 (t : Nat) ∧ Tell w2 wr b (D.take t)) (fun i _ => D.length - (intOf i).toNat)
 case atStart => exact ⟨0,Nat.zero_le _,rfl,T0.out⟩
 case round =>
   obtain ⟨t,ht,rfl,htell⟩ := hrel
   have T3 := hQQ htell; have C3 := hQQ (MC.out.keep htell.turn NC.out)
   clear htell
   by_cases hlt3 : t < D.length
   · obtain ⟨x,hx⟩ : ∃ x,D[t]? = some x := ⟨_,List.getElem?_eq_getElem hlt3⟩
     have TK : Hid (D.take (t + 1) = D.take t ++ [x]) := hQQ (by rw [List.take_add_one,hx]; rfl)
     have HX := hQQ hx
     clear hx
     obtain ⟨xk,xv⟩ := x
     go_wp2_with fail
     refine (at_ok Fc c D t (xk,xv) wr C3.out HX.out).mono ?_
     rintro e w4 ⟨rfl,n4,rfl⟩
     have C4 := hQQ (C3.out.more (more_drewN wr n4)); have T4 := hQQ (T3.out.more (more_drewN wr n4))
     clear C3 T3
     generalize wr.drewN n4 = w4 at C4 T4 ⊢
     simp only
     go_wp2_with fail
     refine (tell_ok w2 w4 b (D.take t) xk xv hlb1 T4.out (by simp; omega)).mono ?_
     rintro e w5 ⟨rfl,htell⟩
     have T5 := hQQ htell
     clear htell C4 T4
     go_wp2_with fail
     go_roundw
     case rel => exact ⟨t + 1,by omega,by go_num,by rw [TK.out]; exact T5.out⟩
     case measure => simp [intOf]; omega
   · obtain rfl : t = D.length := by omega
     have FIN2 : Hid (∀ wr',wr' = wr → Turned (fun k => k = b) W wr' ∧ ∃ v,wr'.heap[b]? = some (.cells #[v] 36 (0,0)) ∧ PRw W.heap.size wr' v D) := hQQ (fun wr' e => by subst e; exact FIN.out _ (by have := T3.out; rwa [List.take_length] at this))
     go_wp2_with fail
     go_end0
     exact ⟨rfl,FIN2.out _ rfl⟩
theorem told_ok (F : Nat → Prop) (p q : Nat) (D : List KV) (W : World) (hp : W.cell? ⟨p,2,none⟩ = some (.pointer (some ⟨q,0,none⟩))) (hm : MapAt W F q D) :
   Calls Tryz.prog 57 #[.pointer (some ⟨p,0,none⟩)] W fun e w' => ∃ v,e = .returned v ∧ PRw W.heap.size w' v D ∧ More W w' := by
 have M1 : More W (W.alloc (.cells #[.slice none 0 0] 36)) := (More.refl W).alloc _
 have hb := heap_new W (.cells #[.slice none 0 0] 36)
 have E := hQQ (each_told F q D W.heap.size _ (hm.more M1) hb (fun r => by have := hm.lt _ r; omega))
 have hp1 := M1.cell hp
 have hlp := lt_of_cell hp
 have HM := hQQ M1
 clear hm hb M1
 go_enter Tryz.func57,Tryz.ntmps57
 go_wp2_with fail
 refine E.out.mono ?_
 rintro e w1 ⟨rfl,ht,v,hv,hr⟩
 have FIN : Hid (PRw W.heap.size w1 v D ∧ More W w1) := hQQ ⟨hr.mono (by simp),Turned.mono (turned_own (F:=fun _ => False) HM.out ht (fun k hk => .inr (by omega))) (fun _ _ q => q)⟩
 obtain ⟨c0,f0,l0⟩ := box_cells hv
 clear ht hr hv
 go_wp2_with fail
 go_ret
 exact ⟨_,rfl,FIN.out⟩
theorem assert_end (v : Value) (w : World) : (Instr.typeAssert (.iface 89 v) 20 89 true).run Tryz.prog w = .ok (.tuple #[v,.bool true]) w := by kernel_rfl
theorem assert_none (w : World) : (Instr.typeAssert .nilIface 20 89 true).run Tryz.prog w = .ok (.tuple #[.agg #[.pointer none],.bool false]) w := by kernel_rfl
def Caught (w : World) (p bn : Nat) (a : Int) (w' : World) : Prop := DeadAt w' p a ∧ w'.heap[bn]? = some (.cells #[.int .i64 a] 3 (0,0)) ∧ Turned (fun k => k = p ∨ k = bn) w w'
theorem catch_end (p bv bn : Nat) (a n : Int) (w : World) (h : DeadAt w p a) (hv : w.heap[bv]? = some (.cells #[.pointer (some ⟨p,0,none⟩)] 40 (0,0))) (hn : w.heap[bn]? = some (.cells #[.int .i64 n] 3 (0,0))) (h1 : bv ≠ p) (h2 : bn ≠ p) (h3 : bv ≠ bn) :
   CallsD Tryz.prog 56 #[.pointer (some ⟨bv,0,none⟩),.pointer (some ⟨bn,0,none⟩)] (.panicking (endOf p)) w fun e u' w' =>
     e = .returned (.tuple #[]) ∧ u' = .panicking [{ v := .iface 89 (.agg #[.pointer (some ⟨p,0,none⟩)]),recovered := true }] ∧ Caught w p bn a w' := by
 have hq := fun w => neq_view ⟨p,0,none⟩ w
 obtain ⟨M,q,hp⟩ := h
 obtain ⟨c0,c1,c2,c3,cf,cl⟩ := view_cells hp
 obtain ⟨v0,vf,vl⟩ := box_cells hv
 obtain ⟨n0,nf,nl⟩ := box_cells hn
 refine callsD_of_wpS Tryz.func56 rfl fun c₀ cs hu => ?_
 apply wpS_seq
 apply wpS_region
 simp [wpOpsS,go_sem,recoverD,hu,Tryz.ntmps56,Exit.thenS,v0,c0,cf,vf]
 apply wpS_seq
 apply wpS_seq
 apply wpS_region
 simp [wpOpsS,go_sem,recoverD,hu,endOf,Exit.thenS,Array.replicate_succ,v0,c0,cf,vf,assert_end]
 have t1 : Turned (fun k => k = p ∨ k = bn) w ((w.setCell ⟨p,0,none⟩ (.pointer none)).alloc (.cells #[.pointer (some ⟨p,0,none⟩)] 89)) := Turned.alloc (turned_setCell (Turned.refl _ w) (fun _ => .inl rfl) _) _
 have hp1 : ((w.setCell ⟨p,0,none⟩ (.pointer none)).alloc (.cells #[.pointer (some ⟨p,0,none⟩)] 89)).heap[p]? = some (.cells (viewCells none M q a) 87 (0,0)) := by
   rw [Below.heap_alloc _ _ _ (by simpa using cl)]
   have := heap_setCell (o:=0) (.pointer none) hp
   simpa [viewCells] using this
 have hv1 : ((w.setCell ⟨p,0,none⟩ (.pointer none)).alloc (.cells #[.pointer (some ⟨p,0,none⟩)] 89)).heap[bv]? = some (.cells #[.pointer (some ⟨p,0,none⟩)] 40 (0,0)) := by
   rw [Turned.block t1 bv vl (by omega)]; exact hv
 have hs1 := heap_new (w.setCell ⟨p,0,none⟩ (.pointer none)) (.cells #[.pointer (some ⟨p,0,none⟩)] 89)
 rw [show (w.setCell ⟨p,0,none⟩ (.pointer none)).heap.size = w.heap.size by simp] at hs1
 have hn1 : ((w.setCell ⟨p,0,none⟩ (.pointer none)).alloc (.cells #[.pointer (some ⟨p,0,none⟩)] 89)).heap[bn]? = some (.cells #[.int .i64 n] 3 (0,0)) := by
   rw [Below.heap_alloc _ _ _ (by simpa using nl),Below.heap_setCell _ _ _ _ h2]; exact hn
 generalize (w.setCell ⟨p,0,none⟩ (.pointer none)).alloc (.cells #[.pointer (some ⟨p,0,none⟩)] 89) = W1 at t1 hp1 hv1 hs1 hn1 ⊢
 generalize w.heap.size = bs at hs1 ⊢
 obtain ⟨_,_,_,x3,_,xl⟩ := view_cells hp1
 obtain ⟨y0,yf,yl⟩ := box_cells hv1
 obtain ⟨z0,zf,zl⟩ := box_cells hs1
 obtain ⟨n1,nf1,nl1⟩ := box_cells hn1
 have FIN : Hid (Caught w p bn a (W1.setCell ⟨bn,0,none⟩ (.int .i64 a))) := hQQ ⟨⟨M,q,by rw [Below.heap_setCell _ _ _ _ (Ne.symm h2)]; exact hp1⟩,box_put _ hn1,turned_setCell t1 (fun _ => .inr rfl) _⟩
 clear c0 c1 c2 c3 cf cl v0 vf vl n0 nf nl hp hv hn hp1 hv1 hs1 hn1 t1
 refine wpS_of_wp ?_
 go_wp2_with fail
 refine wpS_of_wp ?_
 go_wp2_with fail
 exact ⟨rfl,_,rfl,_,results_none rfl _ _ _,rfl,rfl,FIN.out⟩
theorem catch_idle (p bv bn M q : Nat) (n : Int) (w : World) (hp : w.heap[p]? = some (.cells (viewCells (some ⟨p,0,none⟩) M q (-1)) 87 (0,0))) (hv : w.heap[bv]? = some (.cells #[.pointer (some ⟨p,0,none⟩)] 40 (0,0))) (hn : w.heap[bn]? = some (.cells #[.int .i64 n] 3 (0,0))) (h1 : bv ≠ p) (h2 : bn ≠ p) (h3 : bv ≠ bn) :
   CallsD Tryz.prog 56 #[.pointer (some ⟨bv,0,none⟩),.pointer (some ⟨bn,0,none⟩)] .returning w fun e u' w' =>
     e = .returned (.tuple #[]) ∧ u' = .returning ∧ Caught w p bn (-1) w' := by
 obtain ⟨c0,c1,c2,c3,cf,cl⟩ := view_cells hp
 obtain ⟨v0,vf,vl⟩ := box_cells hv
 obtain ⟨n0,nf,nl⟩ := box_cells hn
 refine callsD_of_wpS Tryz.func56 rfl fun c₀ cs hu => ?_
 apply wpS_seq
 apply wpS_region
 simp [wpOpsS,go_sem,recoverD,hu,Tryz.ntmps56,Exit.thenS,v0,c0,cf,vf]
 apply wpS_seq
 apply wpS_seq
 apply wpS_region
 simp [wpOpsS,go_sem,recoverD,hu,endOf,Exit.thenS,Array.replicate_succ,v0,c0,cf,vf,assert_none]
 have t1 : Turned (fun k => k = p ∨ k = bn) w ((w.setCell ⟨p,0,none⟩ (.pointer none)).alloc (.cells #[.pointer none] 89)) := Turned.alloc (turned_setCell (Turned.refl _ w) (fun _ => .inl rfl) _) _
 have hp1 : ((w.setCell ⟨p,0,none⟩ (.pointer none)).alloc (.cells #[.pointer none] 89)).heap[p]? = some (.cells (viewCells none M q (-1)) 87 (0,0)) := by
   rw [Below.heap_alloc _ _ _ (by simpa using cl)]
   have := heap_setCell (o:=0) (.pointer none) hp
   simpa [viewCells] using this
 have hv1 : ((w.setCell ⟨p,0,none⟩ (.pointer none)).alloc (.cells #[.pointer none] 89)).heap[bv]? = some (.cells #[.pointer (some ⟨p,0,none⟩)] 40 (0,0)) := by
   rw [Turned.block t1 bv vl (by omega)]; exact hv
 have hn1 : ((w.setCell ⟨p,0,none⟩ (.pointer none)).alloc (.cells #[.pointer none] 89)).heap[bn]? = some (.cells #[.int .i64 n] 3 (0,0)) := by
   rw [Below.heap_alloc _ _ _ (by simpa using nl),Below.heap_setCell _ _ _ _ h2]; exact hn
 generalize (w.setCell ⟨p,0,none⟩ (.pointer none)).alloc (.cells #[.pointer none] 89) = W1 at t1 hp1 hv1 hn1 ⊢
 obtain ⟨_,_,_,x3,_,xl⟩ := view_cells hp1
 obtain ⟨y0,yf,yl⟩ := box_cells hv1
 obtain ⟨n1,nf1,nl1⟩ := box_cells hn1
 have FIN : Hid (Caught w p bn (-1) (W1.setCell ⟨bn,0,none⟩ (.int .i64 (-1)))) := hQQ ⟨⟨M,q,by rw [Below.heap_setCell _ _ _ _ (Ne.symm h2)]; exact hp1⟩,box_put _ hn1,turned_setCell t1 (fun _ => .inr rfl) _⟩
 clear c0 c1 c2 c3 cf cl v0 vf vl n0 nf nl hp hv hn hp1 hv1 hn1 t1
 refine wpS_of_wp ?_
 go_wp2_with fail
 refine wpS_of_wp ?_
 go_wp2_with fail
 refine ⟨rfl,.returning,?_,_,results_none rfl _ _ _,rfl,rfl,FIN.out⟩
 cases c₀
 simp_all
structure Begun (w W : World) (F : Nat → Prop) (p bv bn : Nat) (kn : Int → Option Int) : Prop where
 view : ViewAt W F p kn []
 v : W.heap[bv]? = some (.cells #[.pointer (some ⟨p,0,none⟩)] 40 (0,0))
 n : W.heap[bn]? = some (.cells #[.int .i64 0] 3 (0,0))
 more : More w W
 new : ∀ k,F k → w.heap.size ≤ k
 fv : ¬ F bv
 fn : ¬ F bn
 vn : bv ≠ bn
 lv : w.heap.size ≤ bv
 ln : w.heap.size ≤ bn
 lp : w.heap.size ≤ p
theorem begun_of {w w1 : World} {M q n : Nat} {F0 : Nat → Prop} {kn : Int → Option Int} (hk : KnownAt w M n kn) (hm : MapAt w1 F0 q []) (hM : More (w.alloc (.cells #[.int .i64 0] 3)) w1) (hn : ∀ k,F0 k → (w.alloc (.cells #[.int .i64 0] 3)).heap.size ≤ k) :
   ∃ F,Begun w ((w1.alloc (.cells (viewCells (some ⟨w1.heap.size,0,none⟩) M q (-1)) 87)).alloc (.cells #[.pointer (some ⟨w1.heap.size,0,none⟩)] 40)) F w1.heap.size (w1.heap.size + 1) w.heap.size kn := by
 have m0 : More w (w.alloc (.cells #[.int .i64 0] 3)) := (More.refl w).alloc _
 have hb := heap_new w (.cells #[.int .i64 0] 3)
 have hs0 : (w.alloc (.cells #[.int .i64 0] 3)).heap.size = w.heap.size + 1 := by simp
 rw [hs0] at hn
 have h1 := hM.size
 rw [hs0] at h1
 have hp := heap_new w1 (.cells (viewCells (some ⟨w1.heap.size,0,none⟩) M q (-1)) 87)
 have m2 : More w1 (w1.alloc (.cells (viewCells (some ⟨w1.heap.size,0,none⟩) M q (-1)) 87)) := (More.refl w1).alloc _
 have hs2 : (w1.alloc (.cells (viewCells (some ⟨w1.heap.size,0,none⟩) M q (-1)) 87)).heap.size = w1.heap.size + 1 := by simp
 generalize w1.alloc (.cells (viewCells (some ⟨w1.heap.size,0,none⟩) M q (-1)) 87) = w2 at hp m2 hs2 ⊢
 have hv := heap_new w2 (.cells #[.pointer (some ⟨w1.heap.size,0,none⟩)] 40)
 rw [hs2] at hv
 have m3 : More w2 (w2.alloc (.cells #[.pointer (some ⟨w1.heap.size,0,none⟩)] 40)) := (More.refl w2).alloc _
 have hs3 : (w2.alloc (.cells #[.pointer (some ⟨w1.heap.size,0,none⟩)] 40)).heap.size = w1.heap.size + 2 := by simp [hs2]
 generalize w2.alloc (.cells #[.pointer (some ⟨w1.heap.size,0,none⟩)] 40) = w3 at hv m3 hs3 ⊢
 have lM := hk.lt
 have all : More w w3 := ((m0.trans hM).trans m2).trans m3
 refine ⟨fun k => F0 k ∨ k = w1.heap.size,⟨⟨⟨M,q,n,F0,m3.block hp,hk.more all,(hm.more m2).more m3,.inr rfl,fun k hk => ⟨.inl hk,fun e => by have := hm.lt k hk; omega⟩,fun r => ?_⟩,fun k r => ?_⟩,hv,m3.block (m2.block (hM.block hb)),all,fun k r => ?_,fun r => ?_,fun r => ?_,by omega,by omega,Nat.le_refl _,by omega⟩⟩
 · rcases r with r | r
   · have := hn M r; omega
   · omega
 · rcases r with r | r
   · have := hm.lt k r; omega
   · omega
 · rcases r with r | r
   · have := hn k r; omega
   · omega
 · rcases r with r | r
   · have := hm.lt _ r; omega
   · omega
 · rcases r with r | r
   · have := hn _ r; omega
   · omega
theorem ran_turn {w W w2 w3 : World} {F S : Nat → Prop} {p bv bn : Nat} {kn : Int → Option Int} (hb : Begun w W F p bv bn kn) (t : Turned (fun k => F k ∨ S k) W w2) (t' : Turned (fun k => k = p ∨ k = bn) w2 w3) : Turned S w w3 := by
 have m : Turned S w W := Turned.mono hb.more (fun _ _ q => q.elim)
 have h1 : Turned S w w2 := turned_own m t (fun k q => by rcases q with q | q; exact .inr (hb.new k q); exact .inl q)
 exact turned_own h1 t' (fun k q => by have := hb.lp; have := hb.ln; rcases q with q | q <;> exact .inr (by omega))
theorem ran_box {w W w2 : World} {F S : Nat → Prop} {p bv bn : Nat} {kn : Int → Option Int} (hb : Begun w W F p bv bn kn) (hS : ∀ k,S k → k < w.heap.size) (t : Turned (fun k => F k ∨ S k) W w2) :
   w2.heap[bv]? = some (.cells #[.pointer (some ⟨p,0,none⟩)] 40 (0,0)) ∧ w2.heap[bn]? = some (.cells #[.int .i64 0] 3 (0,0)) ∧ bv ≠ p ∧ bn ≠ p := by
 obtain ⟨M,q,n,F0,hp,_,_,fp,_⟩ := hb.view.ex
 refine ⟨?_,?_,fun e => hb.fv (e ▸ fp),fun e => hb.fn (e ▸ fp)⟩
 · rw [Turned.block t bv (lt_of_heap hb.v) (fun q => by rcases q with q | q; exact hb.fv q; have := hS _ q; have := hb.lv; omega)]; exact hb.v
 · rw [Turned.block t bn (lt_of_heap hb.n) (fun q => by rcases q with q | q; exact hb.fn q; have := hS _ q; have := hb.ln; omega)]; exact hb.n
end Go.Proofs.YtmafllcmkhgidaaGreatDoor
namespace Go.Proofs.YtmafllcmkhgidaaGreatDoor
open Go.RowKit Go.Sort Go.Maps Go.Shelf
attribute [local go_sem] Oper.semAt_some
theorem more_of_below {w w' : World} (h : Below w.heap.size w w') : More w w' := ⟨h.1,h.2,h.3,h.4,fun k hk _ => h.5 k hk⟩
def Keeps2 (a b : Nat) (w w' : World) : Prop := w'.heap[a]? = w.heap[a]? ∧ w'.heap[b]? = w.heap[b]?
theorem Keeps2.refl (a b : Nat) (w : World) : Keeps2 a b w w := ⟨rfl,rfl⟩
theorem Keeps2.trans {a b : Nat} {w w' w'' : World} (h : Keeps2 a b w w') (k : Keeps2 a b w' w'') : Keeps2 a b w w'' := ⟨k.1.trans h.1,k.2.trans h.2⟩
theorem Keeps2.cell2 {a b o : Nat} {w w' : World} {v : Value} (h : Keeps2 a b w w') (hc : w.cell? ⟨b,o,none⟩ = some v) : w'.cell? ⟨b,o,none⟩ = some v := by
 rw [World.cell?_of_block (w:=w) h.2]; exact hc
theorem keeps2_put {a b n : Nat} (ha : a < n) (hb : b < n) (W : World) (l : Nat) (o o' : Obj) (hl : n ≤ l) (h : W.heap[l]? = some o) (_ : o.isCells = false) (_ : o.isWalk = false) : Keeps2 a b W (W.putObj l o') :=
 ⟨World.putObj_heap_other (by omega),World.putObj_heap_other (by omega)⟩
def pairAt (l : List KV) (i : Nat) : KV := l.getD i (0,0)
attribute [local go_sem] Oper.semAt_some
def OkPs (ps : List KV) : Prop := ∀ p ∈ ps,W64 p.1 ∧ W64 p.2
def knOf (ps : List KV) (pre : List Nat) (x : Int) : Option Int := look (pre.reverse.map (pairAt ps)) x
structure Fills (w : World) (ps : List KV) (pre : List Nat) (W : World) : Prop where
 box : Boxed W (w.heap.size + 1) 67 (.map (some w.heap.size))
 known : KnownAt W w.heap.size pre.length (knOf ps pre)
 below : Below w.heap.size w W
 big : w.heap.size + 3 ≤ W.heap.size
end Go.Proofs.YtmafllcmkhgidaaGreatDoor
namespace Go.Proofs.YtmafllcmkhgidaaGreatDoor
def wAt (ws : List Int) (i : Int) : Int := ws.getD i.toNat 0
def applyD (ws : List Int) (D : List KV) : List Int := D.foldl (fun z p => z.set p.1.toNat p.2) ws
def fitsD (ws : List Int) (D : List KV) : Bool := D.all fun p => decide (p.1 < ws.length)
def doP (sem : List KV → Ran) (ws : List Int) : Nat → List KV → Option (List Int × List KV)
 | 0,_ => none
 | n + 1,K => match sem K with
   | .need a => if a < ws.length then doP sem ws n (K ++ [(a,wAt ws a)]) else none
   | .done D => if fitsD ws D then some (applyD ws D,K) else none
theorem applyD_len (D : List KV) : ∀ ws,(applyD ws D).length = ws.length := by
 induction D with
 | nil => intro ws; rfl
 | cons p D ih => intro ws; show (applyD (ws.set _ _) D).length = _; rw [ih]; simp
theorem applyD_snoc (ws : List Int) (D : List KV) (p : KV) : applyD ws (D ++ [p]) = (applyD ws D).set p.1.toNat p.2 := by simp [applyD,List.foldl_append]
theorem take_next {D : List KV} {i : Nat} {p : KV} (h : D[i]? = some p) : D.take (i + 1) = D.take i ++ [p] := by rw [List.take_add_one,h]; rfl
theorem fitsD_snoc (ws : List Int) (D : List KV) (p : KV) : fitsD ws (D ++ [p]) = (fitsD ws D && decide (p.1 < ws.length)) := by simp [fitsD,List.all_append]
theorem fitsD_not {ws : List Int} {D : List KV} {i : Nat} {p : KV} (h : D[i]? = some p) (hp : ¬ p.1 < ws.length) : fitsD ws D = false := by
 unfold fitsD
 rw [List.all_eq_false]
 exact ⟨p,List.mem_of_getElem? h,by simpa using hp⟩
structure OkKn (ws : List Int) (K : List KV) : Prop where
 at' : ∀ p ∈ K,0 ≤ p.1 ∧ p.1 < ws.length ∧ p.2 = wAt ws p.1
 once : (K.map (·.1)).Nodup
theorem okKn_nil (ws : List Int) : OkKn ws [] := ⟨(fun p h => by cases h),by simp⟩
theorem okKn_snoc {ws : List Int} {K : List KV} (h : OkKn ws K) {a : Int} (h0 : 0 ≤ a) (h1 : a < ws.length) (hn : look K a = none) : OkKn ws (K ++ [(a,wAt ws a)]) := by
 refine ⟨fun p hp => ?_,?_⟩
 · rcases List.mem_append.1 hp with q | q
   · exact h.at' p q
   · simp at q; subst q; exact ⟨h0,h1,rfl⟩
 · rw [List.map_append,List.nodup_append]
   refine ⟨h.once,by simp,fun x hx y hy e => ?_⟩
   simp at hy; subst hy; subst e
   obtain ⟨p,hp,rfl⟩ := List.mem_map.1 hx
   exact look_none_iff.1 hn p hp rfl
theorem nodup_short (M : Nat) : ∀ xs : List Int,xs.Nodup → (∀ x ∈ xs,0 ≤ x ∧ x < M) → xs.length ≤ M := by
 induction M with
 | zero =>
   intro xs _ h
   cases xs with
   | nil => simp
   | cons a l => have := h a (by simp); omega
 | succ M ih =>
   intro xs hn h
   by_cases hm : (M : Int) ∈ xs
   · have h1 := ih (xs.erase (M : Int)) (hn.erase _) (fun x hx => by
       have hx' := (List.Nodup.mem_erase_iff hn).1 hx
       have := h x hx'.2
       have := hx'.1
       omega)
     have h2 := List.length_erase_of_mem hm
     omega
   · have h1 := ih xs hn (fun x hx => by
       have := h x hx
       have : x ≠ (M : Int) := fun e => hm (e ▸ hx)
       omega)
     omega
theorem OkKn.len {ws : List Int} {K : List KV} (h : OkKn ws K) : K.length ≤ ws.length := by
 have := nodup_short ws.length (K.map (·.1)) h.once fun x hx => by
   obtain ⟨p,hp,rfl⟩ := List.mem_map.1 hx
   exact ⟨(h.at' p hp).1,(h.at' p hp).2.1⟩
 simpa using this
theorem look_snoc {K : List KV} {a x : Int} (h : look K a = none) : (fun y => if y = a then some x else look K y) = look (K ++ [(a,x)]) := by
 funext y
 rw [look_append,look_cons]
 by_cases e : y = a
 · subst e; rw [if_pos rfl,if_pos rfl,h]; rfl
 · rw [if_neg e,if_neg (fun q => e q.symm),look_nil]; cases look K y <;> rfl
def OkW (ws : List Int) : Prop := ∀ x ∈ ws,W64 x
theorem wAt_ok {ws : List Int} (h : OkW ws) (i : Int) : W64 (wAt ws i) := by
 unfold wAt
 by_cases q : i.toNat < ws.length
 · have : ws.getD i.toNat 0 = ws[i.toNat] := by simp [List.getD,q]
   rw [this]; exact h _ (List.getElem_mem q)
 · have : ws.getD i.toNat 0 = 0 := by simp [List.getD,List.getElem?_eq_none (show ws.length ≤ i.toNat by omega)]
   rw [this]; unfold W64; omega
def FineSem (ws : List Int) (b : Nat) (sem : List KV → Ran) : Prop := ∀ K,OkKn ws K → Fine (look K) b (sem K)
theorem doP_need {b : Nat} {sem : List KV → Ran} {ws : List Int} {K : List KV} {a : Int} {R : Option (List Int × List KV)} (hK : OkKn ws K) (hf : Fine (look K) b (sem K)) (hs : sem K = .need a) (ha : a < ws.length) (hR : doP sem ws (ws.length + 1 - K.length) K = R) :
   OkKn ws (K ++ [(a,wAt ws a)]) ∧ doP sem ws (ws.length + 1 - (K ++ [(a,wAt ws a)]).length) (K ++ [(a,wAt ws a)]) = R ∧ 0 ≤ a ∧ look K a = none := by
 rw [hs] at hf
 have h1 := okKn_snoc hK hf.1 ha hf.2.2
 have h2 := hK.len
 refine ⟨h1,?_,hf.1,hf.2.2⟩
 rw [show ws.length + 1 - K.length = (ws.length - K.length) + 1 by omega] at hR
 unfold doP at hR
 rw [hs] at hR
 simp only [if_pos ha] at hR
 rw [List.length_append,List.length_singleton,show ws.length + 1 - (K.length + 1) = ws.length - K.length by omega]
 exact hR
theorem doP_far {sem : List KV → Ran} {ws : List Int} {K : List KV} {a : Int} {R : Option (List Int × List KV)} (hK : OkKn ws K) (hs : sem K = .need a) (ha : ¬ a < ws.length) (hR : doP sem ws (ws.length + 1 - K.length) K = R) : R = none := by
 have h2 := hK.len
 rw [show ws.length + 1 - K.length = (ws.length - K.length) + 1 by omega] at hR
 unfold doP at hR
 rw [hs] at hR
 simp only [if_neg ha] at hR
 exact hR.symm
theorem doP_done {sem : List KV → Ran} {ws : List Int} {K D : List KV} {R : Option (List Int × List KV)} (hK : OkKn ws K) (hs : sem K = .done D) (hR : doP sem ws (ws.length + 1 - K.length) K = R) : R = if fitsD ws D then some (applyD ws D,K) else none := by
 have h2 := hK.len
 rw [show ws.length + 1 - K.length = (ws.length - K.length) + 1 by omega] at hR
 unfold doP at hR
 rw [hs] at hR
 exact hR.symm
end Go.Proofs.YtmafllcmkhgidaaGreatDoor
namespace Go.Proofs.YtmafllcmkhgidaaGreatDoor
open Go.RowKit
theorem ownsRow_more {w w' : World} {base : Nat} {e : TypeId} {s n : Nat} {v : Value} {xs : List Value} (h : w.ownsRow base e s v n xs) (hW : More w w') : w'.ownsRow base e s v n xs := by
 refine ⟨h.1,?_⟩
 rcases h.2 with q | ⟨g,cap,cur,h1,h2,h3,h4⟩
 · exact .inl q
 · exact .inr ⟨g,cap,cur,h1,h2,hW.block h3,h4⟩
theorem ownsRow_low {w : World} {base base' : Nat} {e : TypeId} {s n : Nat} {v : Value} {xs : List Value} (h : w.ownsRow base e s v n xs) (hb : base' ≤ base) : w.ownsRow base' e s v n xs := by
 refine ⟨h.1,?_⟩
 rcases h.2 with q | ⟨g,cap,cur,h1,h2,h3,h4⟩
 · exact .inl q
 · exact .inr ⟨g,cap,cur,h1,by omega,h3,h4⟩
theorem more_of_grown {wa w w' : World} {v : Value} {e : TypeId} {s n : Nat} {xs : List Value} (hW : More wa w) (h : w.ownsRow wa.heap.size e s v n xs) (g : w.grownBy w' v.ownBlock) : More wa w' :=
 ⟨g.os.trans hW.os,g.tape.trans hW.tape,g.output.trans hW.output,Nat.le_trans hW.size g.size,fun k hk _ => by
   rw [g.block k (Nat.lt_of_lt_of_le hk hW.size) (by
     rcases h.2 with ⟨rfl,_⟩ | ⟨b,cap,cur,rfl,hb,_⟩
     · simp [Value.ownBlock]
     · simp only [Value.ownBlock,ne_eq,Option.some.injEq]; omega)]
   exact Turned.block hW k hk (fun q => q)⟩
theorem int_info : ∃ i : TypeInfo,Tryz.prog.info? 3 = some i ∧ i.zero = some (.int .i64 0) ∧ i.size = 1 ∧ i.bytes = 8 := by
 have h1 : (Tryz.prog.info? 3).map (·.size) = some 1 := by kernel_rfl
 have h2 : (Tryz.prog.info? 3).bind (·.zero) = some (.int .i64 0) := by kernel_rfl
 have h3 : (Tryz.prog.info? 3).map (·.bytes) = some 8 := by kernel_rfl
 cases q : Tryz.prog.info? 3 with
 | none => rw [q] at h1; simp at h1
 | some i => rw [q] at h1 h2 h3; exact ⟨i,rfl,by simpa using h2,by simpa using h1,by simpa using h3⟩
def Rw (base : Nat) (w : World) (v : Value) (xs : List Int) : Prop := w.ownsRow base 3 1 v xs.length (xs.map (Value.int .i64))
theorem Rw.nil (base : Nat) (w : World) : Rw base w (.slice none 0 0) [] := World.ownsRow_nil w base _ 1
theorem Rw.more {base : Nat} {w w' : World} {v : Value} {xs : List Int} (h : Rw base w v xs) (hW : More w w') : Rw base w' v xs := ownsRow_more h hW
theorem Rw.mono {base base' : Nat} {w : World} {v : Value} {xs : List Int} (h : Rw base w v xs) (hb : base' ≤ base) : Rw base' w v xs := by
 refine ⟨h.1,?_⟩
 rcases h.2 with q | ⟨g,cap,cur,h1,h2,h3,h4⟩
 · exact .inl q
 · exact .inr ⟨g,cap,cur,h1,by omega,h3,h4⟩
theorem Rw.reads {base : Nat} {w : World} {v : Value} {xs : List Int} (h : Rw base w v xs) :
   ∃ a cap,v = .slice a xs.length cap ∧ ∀ k,k < xs.length → ∃ g,a = some ⟨g,0,none⟩ ∧ base ≤ g ∧ g < w.heap.size ∧ ∀ j,j < xs.length → w.cell? ⟨g,j,none⟩ = some (.int .i64 (xs.getD j 0)) := by
 rcases h.2 with ⟨rfl,h0⟩ | ⟨g,cap,cur,rfl,hb,hg,_,_,hs,ht⟩
 · exact ⟨none,0,by rw [h0],fun k hk => by omega⟩
 · refine ⟨_,cap,rfl,fun k hk => ⟨g,rfl,hb,lt_of_heap hg,fun j hj => ?_⟩⟩
   rw [World.cell?_of_block (w:=w) (w' := w) rfl]
   have e : cur.toList[j]? = some (.int .i64 (xs.getD j 0)) := by
     have h1 : (cur.toList.take (xs.length * 1))[j]? = some (.int .i64 (xs.getD j 0)) := by
       rw [ht,List.getElem?_map,List.getElem?_eq_getElem hj]; simp [List.getD,hj]
     rw [List.getElem?_take,if_pos (by omega)] at h1
     exact h1
   simp [World.cell?,hg]
   simpa using e
def GaveInts (w : World) (xs : List Int) (e : Ending) (w' : World) : Prop := ∃ v,e = .returned v ∧ Rw w.heap.size w' v xs ∧ More w w'
end Go.Proofs.YtmafllcmkhgidaaGreatDoor
namespace Go.Proofs.YtmafllcmkhgidaaGreatDoor
open Go.RowKit Go.Sort Go.Maps Go.Shelf
def IsWords (w : World) (a : Option Addr) (zs : List Int) : Prop :=
 zs = [] ∨ ∃ s o,a = some ⟨s,o,none⟩ ∧ s < w.heap.size ∧ ∀ i,i < zs.length → w.cell? ⟨s,o + i,none⟩ = some (.int .i64 (zs.getD i 0))
theorem clone_words (a : Option Addr) (cap : Nat) (zs : List Int) (w : World) (h : IsWords w a zs) (hl : zs.length ≤ 1000000) :
   Calls Tryz.prog 31 #[.slice a zs.length cap] w fun e w' => ∃ a' cap',e = .returned (.slice a' zs.length cap') ∧ RowAt w' 3 (zs.map (Value.int .i64)) a' cap' ∧ (∀ k,owned a' k → w.heap.size ≤ k) ∧ More w w' := by
 have fin : ∀ {v' : Value} {w' : World},w'.ownsRow w.heap.size 3 1 v' zs.length (zs.map (Value.int .i64)) → Below w.heap.size w w' → ∃ a' cap',Ending.returned v' = .returned (.slice a' zs.length cap') ∧ RowAt w' 3 (zs.map (Value.int .i64)) a' cap' ∧ (∀ k,owned a' k → w.heap.size ≤ k) ∧ More w w' := by
   intro v' w' ho hb
   obtain ⟨a',cap',rfl,hr,hn,_⟩ := RowAt.of_own ho
   exact ⟨a',cap',rfl,hr,hn,more_of_below hb⟩
 cases a with
 | none =>
   obtain rfl : zs = [] := by
     rcases h with h | ⟨s,o,h,_⟩
     · exact h
     · cases h
   refine (AnyG.slices_Clone_int_nil Tryz.lCloneN 0 cap w).mono ?_
   rintro e w' ⟨rfl,rfl⟩
   exact ⟨none,0,rfl,RowAt.nil _ _,(fun k hk => by cases hk),More.refl _⟩
 | some b =>
   by_cases h0 : zs = []
   · subst h0
     refine (AnyG.slices_Clone_int_zero Tryz.lCloneN b cap w).mono ?_
     rintro e w' ⟨v',rfl,ho,_,hb⟩
     exact fin ho hb
   · obtain ⟨s,o,e,hs,hc⟩ := h.resolve_left h0
     cases e
     refine (AnyG.slices_Clone_int Tryz.lCloneN s o zs.length cap zs w (Nat.le_refl _) (by omega) hc).mono ?_
     rintro e w' ⟨v',rfl,ho,_,hb⟩
     rw [List.take_length] at ho
     exact fin ho hb
def Finished (w : World) (zs : List Int) (D : List KV) (a : Option Addr) (cap : Nat) (vn : Value) (e : Ending) (w' : World) : Prop :=
 Turned (owned a) w w' ∧ ((fitsD zs D = true ∧ e = .returned (.tuple #[.slice a zs.length cap,vn,.int .i64 0]) ∧ RowAt w' 3 ((applyD zs D).map (Value.int .i64)) a cap) ∨
   (fitsD zs D = false ∧ e = .returned (.tuple #[.slice none 0 0,.slice none 0 0,.int .i64 3])))
theorem finish_ok (zs : List Int) (D : List KV) (a ad an : Option Addr) (cap cd n cn : Nat) (w : World) (hr : RowAt w 3 (zs.map (Value.int .i64)) a cap) (hd : IsPairs w ad D) (hl : D.length ≤ 1000000) (hz : zs.length ≤ 1000000) (hD : OkD D) (hne : ∀ k,leads ad k → ¬ owned a k) :
   Calls Tryz.prog 33 #[.slice a zs.length cap,.slice an n cn,.slice ad D.length cd] w (Finished w zs D a cap (.slice an n cn)) := by
 have HR := hQQ hr; have HD := hQQ hd; have HO := hQQ hD; have HN := hQQ hne
 clear hr hd hD hne
 go_enter Tryz.func33,Tryz.ntmps33
 go_wp2_with fail
 go_loopw [13] (fun u wr => ∃ i : Nat,u = .int .i64 i ∧ i ≤ D.length ∧ fitsD zs (D.take i) = true ∧ RowAt wr 3 ((applyD zs (D.take i)).map (Value.int .i64)) a cap ∧ Turned (owned a) w wr) (fun u _ => D.length - (intOf u).toNat)
 case atStart => exact ⟨0,rfl,by omega,rfl,HR.out,Turned.refl _ _⟩
 case round =>
   obtain ⟨i,rfl,hi,hf,hr,ht⟩ := hrel
   have HF := hQQ hf; have HR2 := hQQ hr; have HT := hQQ ht
   clear hf hr ht
   by_cases hlt : i < D.length
   · obtain ⟨⟨k,v⟩,hp⟩ : ∃ p,D[i]? = some p := ⟨_,List.getElem?_eq_getElem hlt⟩
     obtain ⟨s,o,rfl,hs,hc⟩ := (HD.out.keep HT.out HN.out).resolve_left (by intro q; rw [q] at hlt; simp at hlt)
     obtain ⟨c0,c1⟩ := hc i _ hp
     simp only at c0 c1
     obtain ⟨hk0,_,_⟩ := HO.out _ (List.mem_of_getElem? hp)
     simp only at hk0
     have HP := hQQ hp
     clear hc hp
     by_cases hk : k < zs.length
     · obtain ⟨j,rfl⟩ : ∃ j : Nat,k = j := ⟨k.toNat,by omega⟩
       have d1 : decide ((zs.length : Int) ≤ (j : Int)) = false := by simp; omega
       have hj : j < zs.length := by omega
       have hlen := applyD_len (D.take i) zs
       have hrow := HR2.out
       rcases hrow with ⟨rfl,rfl,hx⟩ | ⟨g,cur,rfl,hg,hn,hm,hsz,htk⟩
       · have := congrArg List.length hx; rw [List.length_map,hlen,List.length_nil] at this; omega
       have hgl := lt_of_heap hg
       have hcell : wr.cell? ⟨g,j,none⟩ = cur[j]? := by simp [World.cell?,hg]
       have hcell2 : ∃ u,wr.cell? ⟨g,j,none⟩ = some u := by
         have : j < cur.size := by rw [List.length_map,hlen] at hn; omega
         exact ⟨cur[j],by rw [hcell,Array.getElem?_eq_getElem this]⟩
       obtain ⟨u0,hu⟩ := hcell2
       have hfr : wr.frozen? ⟨g,j,none⟩ = false := by simp [World.frozen?,hg]
       have NX : Hid (fitsD zs (D.take (i + 1)) = true ∧ RowAt ((wr.setCell ⟨g,j,none⟩ (.int .i64 v)).alloc (.cells #[.int .i64 (j : Int),.int .i64 v] 72)) 3 ((applyD zs (D.take (i + 1))).map (Value.int .i64)) (some ⟨g,0,none⟩) cap ∧ Turned (owned (some ⟨g,0,none⟩)) w ((wr.setCell ⟨g,j,none⟩ (.int .i64 v)).alloc (.cells #[.int .i64 (j : Int),.int .i64 v] 72))) := hQQ (by
         rw [take_next HP.out,fitsD_snoc,applyD_snoc,HF.out]
         refine ⟨by simp; omega,?_,(turned_setCell HT.out (fun _ => rfl) _).alloc _⟩
         have r2 := rowAt_set (i:=j) (.int .i64 v) HR2.out (by simp [hlen]; omega)
         have r3 := r2.keep ((More.refl _).alloc (.cells #[.int .i64 (j : Int),.int .i64 v] 72)) (fun _ _ q => q)
         simpa [List.map_set] using r3)
       clear hn hm hsz htk hg hcell hk
       go_wp2_with fail
       go_roundw
       case rel => exact ⟨i + 1,by go_num,by omega,NX.out.1,NX.out.2.1,NX.out.2.2⟩
       case measure => simp [intOf]; omega
     · have d1 : decide ((zs.length : Int) ≤ k) = true := by simp; omega
       have FIN : Hid (∀ w',More wr w' → Finished w zs D a cap (.slice an n cn) (.returned (.tuple #[.slice none 0 0,.slice none 0 0,.int .i64 3])) w') := hQQ fun w' t => ⟨turned_own (F' := fun _ => False) HT.out t (fun _ q => q.elim),.inr ⟨fitsD_not HP.out hk,rfl⟩⟩
       have HM : Hid (∀ o,More wr (wr.alloc o)) := hQQ fun o => (More.refl wr).alloc o
       clear hk
       go_wp2_with fail
       go_ret3
       exact FIN.out _ (HM.out _)
   · obtain rfl : i = D.length := by omega
     have FIN : Hid (Finished w zs D a cap (.slice an n cn) (.returned (.tuple #[.slice a zs.length cap,.slice an n cn,.int .i64 0])) wr) := hQQ ⟨HT.out,.inl ⟨by have := HF.out; rwa [List.take_length] at this,rfl,by have := HR2.out; rwa [List.take_length] at this⟩⟩
     go_wp2_with fail
     go_ret3
     exact FIN.out
def lenOf : Value → Nat
 | .slice _ n _ => n
 | _ => 0
structure DoOn (w wb wr : World) (M : Nat) (zs : List Int) (sem : List KV → Ran) (R : Option (List Int × List KV)) (K : List KV) (v : Value) : Prop where
 okn : OkKn zs K
 res : doP sem zs (zs.length + 1 - K.length) K = R
 row : PRw wb.heap.size wr v K
 known : KnownAt wr M K.length (look K)
 turn : Turned (fun k => k = M) wb wr
theorem KnownAt.of_block {w w' : World} {M n : Nat} {kn : Int → Option Int} (h : KnownAt w M n kn) (e : ∀ ob,w.heap[M]? = some ob → w'.heap[M]? = some ob) : KnownAt w' M n kn := by
 obtain ⟨D,⟨es,clock,hb,F⟩,hk⟩ := h
 exact ⟨D,⟨es,clock,e _ hb,F⟩,hk⟩
def WentY (w : World) (F S : Nat → Prop) (Y X : World → Prop) (p : Nat) (kn : Int → Option Int) (R : Ran) (e : Ending) (w' : World) : Prop :=
 match R with
 | .need a => e = .panicked (endOf p) ∧ DeadAt w' p a ∧ Turned (fun k => F k ∨ S k) w w' ∧ Y w'
 | .done D => e = .returned (.tuple #[]) ∧ (∃ F',ViewAt w' F' p kn D) ∧ Turned (fun k => F k ∨ S k) w w' ∧ Y w' ∧ X w'
def RanY (w : World) (S : Nat → Prop) (Y X : World → Prop) (R : Ran) (e : Ending) (w' : World) : Prop :=
 match R with
 | .need a => e = .returned (.tuple #[.int .i64 a,.slice none 0 0]) ∧ Turned S w w' ∧ Y w'
 | .done D => ∃ v p,e = .returned (.tuple #[.int .i64 (-1),v]) ∧ PRw w.heap.size w' v D ∧ Turned S w w' ∧ Y w' ∧ X w' ∧ DeadAt w' p (-1)
theorem runY_ok (kn : Int → Option Int) (R : Ran) (M n : Nat) (w : World) (hk : KnownAt w M n kn) (f : Nat) (cap : Array Value) (S : Nat → Prop) (Y X : World → Prop)
   (henter : ∀ args w,Sem.run Tryz.prog (callFunc f args) w = .ok (.enter f args) w) (hS : ∀ k,S k → k < w.heap.size) (hY : ∀ w' w'',Y w' → Turned (fun k => w.heap.size ≤ k) w' w'' → Y w'') (hX : ∀ w' w'',X w' → Turned (fun k => w.heap.size ≤ k) w' w'' → X w'') (hY0 : Y w)
   (hprog : ∀ (W : World) (F : Nat → Prop) (p : Nat),More w W → Y W → ViewAt W F p kn [] → (∀ k,F k → w.heap.size ≤ k) → Calls Tryz.prog f (#[.pointer (some ⟨p,0,none⟩)] ++ cap) W (WentY W F S Y X p kn R)) :
   Calls Tryz.prog 32 #[.map (some M),.func (.func f) #[] cap] w (RanY w S Y X R) := by
 have hq : ∀ w,Sem.run Tryz.prog (binOp BinOp.eql 44 (Value.func (.func f) #[] cap) Value.nilFunc) w = .ok (.bool false) w := fun w => run_eql_func w _ Tryz.underlying44 _ _ _
 have hmf : ∀ (fn : Fn) (first cap : Array Value) (w : World),(Instr.makeFunc fn first cap).run Tryz.prog w = .ok (.func fn first cap) w := fun _ _ _ _ => rfl
 have HK := hQQ hk
 have HS := hQQ hS
 have HX := hQQ hX
 have HY := hQQ hY
 have HY0 := hQQ hY0
 have HP := hQQ hprog
 clear hk hS hX hY hY0 hprog
 go_enter_defers Tryz.func32,Tryz.ntmps32
 go_wp2_with fail
 refine (new_ok _).mono ?_
 rintro e w1 ⟨F0,q,rfl,m1,M1,n1⟩
 obtain ⟨F,hbeg⟩ := begun_of HK.out m1 M1 n1
 have HB := hQQ hbeg
 have hws : w.heap.size < w1.heap.size := by have := M1.size; simp at this; omega
 clear hbeg m1 M1 n1
 go_wp2_with fail
 change Calls _ _ _ ((w1.alloc (.cells (viewCells (some ⟨w1.heap.size,0,none⟩) M q (-1)) 87)).alloc (.cells #[.pointer (some ⟨w1.heap.size,0,none⟩)] 40)) _
 generalize (w1.alloc (.cells (viewCells (some ⟨w1.heap.size,0,none⟩) M q (-1)) 87)).alloc (.cells #[.pointer (some ⟨w1.heap.size,0,none⟩)] 40) = W at HB ⊢
 generalize w1.heap.size + 1 = bv at HB ⊢
 generalize w1.heap.size = p at HB ⊢
 have hlw : Hid (∀ k,k < w.heap.size → k ≠ bv ∧ k ≠ p) := hQQ fun k hk => by have := HB.out.lv; have := HB.out.lp; omega
 clear hws
 refine (HP.out W F p HB.out.more (HY.out _ _ HY0.out (Turned.mono HB.out.more (fun _ _ q => q.elim))) HB.out.view HB.out.new).mono ?_
 intro e w2 he
 cases R with
 | need a =>
   obtain ⟨rfl,hd,ht,hy⟩ := he
   obtain ⟨hv2,hn2,ne1,ne2⟩ := ran_box HB.out HS.out ht
   change bodyPostD _ _ _ (Exit.panic (endOf p)) _ _
   refine leaves_cons (f:=56) (args:=#[.pointer (some ⟨bv,0,none⟩),.pointer (some ⟨w.heap.size,0,none⟩)]) (by simp) (by simp [go_sem]) ?_
   refine (catch_end p bv w.heap.size a 0 w2 hd hv2 hn2 ne1 ne2 HB.out.vn).mono ?_
   rintro e u' w3 ⟨rfl,rfl,hc⟩
   obtain ⟨b0,_,_⟩ := box_cells hc.2.1
   have FIN : Turned S w w3 ∧ Y w3 := ⟨ran_turn HB.out ht hc.2.2,HY.out _ _ hy (hc.2.2.mono (fun k _ q => by have := HB.out.lp; rcases q with q | q <;> omega))⟩
   simp [Leaves,settle,results,Tryz.results32,go_sem,b0]
   exact ⟨rfl,FIN⟩
 | done D =>
   obtain ⟨rfl,⟨F',hv⟩,ht,hy,hx⟩ := he
   obtain ⟨hv2,hn2,ne1,ne2⟩ := ran_box HB.out HS.out ht
   obtain ⟨M',q',n',F0',hp2,hk2,hm2,fp2,f02,fM2⟩ := hv.ex
   obtain ⟨c0,c1,c2,c3,cf,cl⟩ := view_cells hp2
   obtain ⟨v0,vf,vl⟩ := box_cells hv2
   have TOLD := hQQ (told_ok F0' p q' D w2 c2 hm2)
   have HT := hQQ ht
   have HX2 := hQQ hx
   have HY2 := hQQ hy
   have HP2 := hQQ hp2
   have HV2 := hQQ hv2
   have HN2 := hQQ hn2
   clear hv hk2 hm2 fp2 f02 fM2 hp2 hv2 hn2 ht hx hy
   go_wp2_with fail
   refine TOLD.out.mono ?_
   rintro e w3 ⟨v,rfl,hr,hm3⟩
   obtain ⟨n0,nf,nl⟩ := box_cells (hm3.block HN2.out)
   have HR := hQQ hr
   have HM3 := hQQ hm3
   clear hr hm3
   go_wp2_with fail
   have t4 : Turned (fun k => k = p ∨ k = w.heap.size) w3 (w3.setCell ⟨w.heap.size,0,none⟩ (.int .i64 (-1))) := turned_setCell (Turned.refl _ w3) (fun _ => .inr rfl) _
   have hp4 : (w3.setCell ⟨w.heap.size,0,none⟩ (.int .i64 (-1))).heap[p]? = _ := (Below.heap_setCell _ _ _ _ (Ne.symm ne2)).trans (HM3.out.block HP2.out)
   have hv4 : (w3.setCell ⟨w.heap.size,0,none⟩ (.int .i64 (-1))).heap[bv]? = _ := (Below.heap_setCell _ _ _ _ HB.out.vn).trans (HM3.out.block HV2.out)
   have hn4 := box_put (.int .i64 (-1)) (HM3.out.block HN2.out)
   have hm3 := HM3.out
   have hr := HR.out
   have hlp2 := cl
   have hln2 : w.heap.size < w2.heap.size := lt_of_heap HN2.out
   generalize w3.setCell ⟨w.heap.size,0,none⟩ (.int .i64 (-1)) = w4 at t4 hp4 hv4 hn4 ⊢
   refine leaves_cons (f:=56) (args:=#[.pointer (some ⟨bv,0,none⟩),.pointer (some ⟨w.heap.size,0,none⟩)]) (by simp) (by simp [go_sem]) ?_
   refine (catch_idle p bv w.heap.size M' q' (-1) w4 hp4 hv4 hn4 ne1 ne2 HB.out.vn).mono ?_
   rintro e u' w5 ⟨rfl,rfl,hc⟩
   obtain ⟨b0,_,_⟩ := box_cells hc.2.1
   have t35 : Turned (fun k => k = p ∨ k = w.heap.size) w3 w5 := t4.trans hc.2.2
   have FIN : RanY w S Y X (.done D) (.returned (.tuple #[.int .i64 (-1),v])) w5 := by
     refine ⟨v,p,rfl,(hr.keep t35 (fun k hk q => by rcases q with q | q <;> omega)).mono (by omega),?_,?_,?_,hc.1⟩
     · exact ran_turn HB.out HT.out ((Turned.mono hm3 (fun _ _ q => q.elim)).trans t35)
     · have hlp := HB.out.lp
       exact HY.out w2 w5 HY2.out ((Turned.mono hm3 (fun _ _ q => q.elim)).trans (t35.mono (fun k _ q => by rcases q with q | q <;> omega)))
     · have hlp := HB.out.lp
       exact HX.out w2 w5 HX2.out ((Turned.mono hm3 (fun _ _ q => q.elim)).trans (t35.mono (fun k _ q => by rcases q with q | q <;> omega)))
   simp [Leaves,settle,results,Tryz.results32,go_sem,b0]
   exact FIN
theorem wpList_pairT {ops : Array Oper} {rest : List Oper} {o : Oper} {a : Act} {Q : Exit → Act → World → Prop} {S : Nat → Prop} {w wa : World} {v : Value} {ps : List KV} (p q : Int) (hgd : o.guard = none) (s x : Operand)
   (ho : o.op = .call { callee := .builtin .append,args := #[s,x],argTypes := #[36,36] })
   (hs : a.eval s = v) (hn : PRw wa.heap.size w v ps) (hW : Turned S wa w) (hl : ps.length ≤ 1000000)
   (hx : a.eval x = .slice (some ⟨w.heap.size,0,none⟩) 1 1)
   (h : ∀ g cap w',PRw wa.heap.size w' (.slice (some ⟨g,0,none⟩) (ps.length + 1) cap) (ps ++ [(p,q)]) → Turned S wa w' → (∀ k ob,w.heap[k]? = some ob → v.ownBlock ≠ some k → w'.heap[k]? = some ob) → Turned (fun k => v.ownBlock = some k) w w' → wpList Tryz.prog ops Q rest (a.put o.dst (.slice (some ⟨g,0,none⟩) (ps.length + 1) cap)) w') : wpList Tryz.prog ops Q (o :: rest) a (w.alloc (.cells #[.int .i64 p,.int .i64 q] 72)) := by
 obtain ⟨i,i1,i2,i3,i4⟩ := pair_info
 have hn' := hn.more ((More.refl w).alloc (.cells #[.int .i64 p,.int .i64 q] 72))
 have hB := heap_new w (.cells #[.int .i64 p,.int .i64 q] 72)
 refine wpList_append_lies _ hgd s x 36 ho wa.heap.size 72 i _ 2 16 Tryz.underlying36 i1 i2 i3 i4 rfl (by omega) v ps.length _ hs hn' ⟨w.heap.size,0,none⟩ 1 1 [.int .i64 p,.int .i64 q] hx (by simp)
   (fun j u hu => World.news_of_block hB j u (by simpa using hu)) (by intro u hu; simp at hu; rcases hu with rfl | rfl <;> rfl) (by omega) (by simp only [maxLen]; omega) (by omega) (by have := hW.size; simp; omega) _ rfl ?_
 intro g cap w1 hown hgrow _ _
 have ht : Turned (fun k => v.ownBlock = some k) w w1 := ⟨hgrow.os,hgrow.tape,hgrow.output,Nat.le_trans (by simp) hgrow.size,fun k hk hne => by
   rw [hgrow.block k (by simp; omega) (fun e => hne e.symm),Below.heap_alloc _ _ _ hk]⟩
 refine h g cap w1 ?_ (turned_of_grown (hW.alloc _) hn' hgrow) (fun k ob hk hne => by rw [Turned.block ht k (lt_of_heap hk) hne]; exact hk) ht
 unfold PRw
 rw [List.length_append,pairCells_snoc]
 exact hown
def DidY (w : World) (S : Nat → Prop) (Y X : World → Prop) (R : Option (List Int × List KV)) (e : Ending) (w' : World) : Prop :=
 match R with
 | none => e = .returned (.tuple #[.slice none 0 0,.slice none 0 0,.int .i64 3]) ∧ Turned S w w' ∧ Y w'
 | some (ws,K) => ∃ v1 v2,e = .returned (.tuple #[v1,v2,.int .i64 0]) ∧ Rw w.heap.size w' v1 ws ∧ PRw w.heap.size w' v2 K ∧ Turned S w w' ∧ Y w' ∧ X w'
structure OnY (w wb wr : World) (S : Nat → Prop) (Y : World → Prop) (M : Nat) (zs : List Int) (sem : List KV → Ran) (R : Option (List Int × List KV)) (K : List KV) (v : Value) : Prop where
 okn : OkKn zs K
 res : doP sem zs (zs.length + 1 - K.length) K = R
 row : PRw wb.heap.size wr v K
 known : KnownAt wr M K.length (look K)
 turn : Turned (fun k => k = M ∨ S k) wb wr
 y : Y wr
theorem doY_fin {w wb wr w2 w3 : World} {S : Nat → Prop} {Y X : World → Prop} {M : Nat} {zs : List Int} {sem : List KV → Ran} {R : Option (List Int × List KV)} {K D : List KV} {a' an : Option Addr} {cap' cn : Nat} {e : Ending} (h : OnY w wb wr S Y M zs sem R K (.slice an K.length cn)) (hs : sem K = .done D) (mb : More w wb) (hM : w.heap.size ≤ M)
   (hl : ∀ k,owned a' k → w.heap.size ≤ k ∧ k < wb.heap.size) (hS : ∀ k,S k → k < w.heap.size) (m2 : Turned S wr w2) (hf : Finished w2 zs D a' cap' (.slice an K.length cn) e w3)
   (hY : ∀ w' w'',Y w' → Turned (fun k => w.heap.size ≤ k) w' w'' → Y w'') (hX : ∀ w' w'',X w' → Turned (fun k => w.heap.size ≤ k) w' w'' → X w'') (y2 : Y w2) (x2 : X w2) : DidY w S Y X R e w3 := by
 have hR := doP_done h.okn hs h.res
 have mbS : Turned S w wb := Turned.mono mb (fun _ _ q => q.elim)
 have t3 : Turned S w w3 := by
   have t1 : Turned S w wr := turned_own mbS h.turn (fun k q => by rcases q with q | q; exact .inr (by omega); exact .inl q)
   exact turned_own (turned_own t1 m2 (fun k q => .inl q)) hf.1 (fun k q => .inr (hl k q).1)
 have t23 : Turned (fun k => w.heap.size ≤ k) w2 w3 := hf.1.mono (fun k _ q => (hl k q).1)
 rcases hf.2 with ⟨h1,h2,h3⟩ | ⟨h1,h2⟩
 · rw [hR,if_pos h1]
   have hlen : (applyD zs D).length = zs.length := applyD_len D zs
   refine ⟨_,_,h2,?_,?_,t3,hY _ _ y2 t23,hX _ _ x2 t23⟩
   · have := h3.own (base:=w.heap.size) (fun k q => (hl k q).1)
     unfold Rw
     rw [List.length_map,hlen] at this
     rw [hlen]; exact this
   · have hb := mb.size
     exact ((h.row.keep m2 (fun k hk q => by have := hS k q; omega)).keep hf.1 (fun k hk q => by have := (hl k q).2; omega)).mono mb.size
 · rw [hR,h1]
   exact ⟨h2,t3,hY _ _ y2 t23⟩
theorem doY_ok (a : Option Addr) (cap : Nat) (zs : List Int) (sem : List KV → Ran) (R : Option (List Int × List KV)) (b : Nat) (w : World) (hz : IsWords w a zs) (hlen : zs.length ≤ 1000) (hok : OkW zs) (hfine : FineSem zs b sem) (hb : b ≤ 100000) (hR : doP sem zs (zs.length + 1) [] = R) (f : Nat) (clo : Array Value) (S : Nat → Prop) (Y X : World → Prop) (hS : ∀ k,S k → k < w.heap.size)
   (hY : ∀ w' w'',Y w' → Turned (fun k => w.heap.size ≤ k) w' w'' → Y w'') (hX : ∀ w' w'',X w' → Turned (fun k => w.heap.size ≤ k) w' w'' → X w'') (hY0 : Y w)
   (henter : ∀ args w,Sem.run Tryz.prog (callFunc f args) w = .ok (.enter f args) w)
   (hprog : ∀ (K : List KV),OkKn zs K → ∀ (W : World) (F : Nat → Prop) (p : Nat),Turned S w W → Y W → ViewAt W F p (look K) [] → (∀ k,F k → w.heap.size ≤ k) → Calls Tryz.prog f (#[.pointer (some ⟨p,0,none⟩)] ++ clo) W (WentY W F S Y X p (look K) (sem K))) :
   Calls Tryz.prog 12 #[.slice a zs.length cap,.func (.func f) #[] clo] w (DidY w S Y X R) := by
 have hmm := @run_makeMap Tryz.prog
 have CL := hQQ (clone_words a cap zs w hz (by omega))
 have HOK := hQQ hok
 have HF := hQQ hfine
 have HR0 := hQQ hR
 have HE := hQQ henter
 have HP := hQQ hprog
 have HSS := hQQ hS
 have HY := hQQ hY
 have HX := hQQ hX
 have HY0 := hQQ hY0
 clear hz hok hfine hR henter hprog hS hY hX hY0
 go_enter Tryz.func12,Tryz.ntmps12
 go_wp2_with fail
 refine CL.out.mono ?_
 rintro e w1 ⟨a',cap',rfl,hr1,hn1,hm1⟩
 have DO0 : Hid (OnY w (w1.alloc (.map #[] 0)) (w1.alloc (.map #[] 0)) S Y w1.heap.size zs sem R [] (.slice none 0 0)) := hQQ
   ⟨okKn_nil zs,HR0.out,PRw.nil _ _,KnownAt.made w1,Turned.refl _ _,HY.out _ _ HY0.out (Turned.mono (hm1.alloc _) (fun _ _ q => q.elim))⟩
 have MB : Hid (More w (w1.alloc (.map #[] 0))) := hQQ (hm1.alloc _)
 have RB := hQQ (hr1.keep ((More.refl w1).alloc (.map #[] 0)) (fun _ _ q => q))
 have HL : Hid (∀ k,owned a' k → w.heap.size ≤ k ∧ k < (w1.alloc (.map #[] 0)).heap.size ∧ k ≠ w1.heap.size) := hQQ fun k q => ⟨hn1 k q,by have := hr1.lt k q; simp; omega,by have := hr1.lt k q; omega⟩
 have hwM : w.heap.size ≤ w1.heap.size := hm1.size
 have hMb : w1.heap.size < (w1.alloc (.map #[] 0)).heap.size := by simp
 clear hr1 hn1 hm1 CL
 go_wp2_with fail
 generalize w1.alloc (.map #[] 0) = wb at DO0 MB RB HL hMb ⊢
 generalize w1.heap.size = M at DO0 HL hwM hMb ⊢
 go_loopw [8] (fun u8 wr => ∃ K,OnY w wb wr S Y M zs sem R K u8 ∧ lenOf u8 = K.length) (fun u8 _ => zs.length + 1 - lenOf u8)
 case atStart => exact ⟨[],DO0.out,rfl⟩
 case round =>
   obtain ⟨K,hdo,hln⟩ := hrel
   obtain ⟨an,cn,rfl,hpn,_⟩ := hdo.row.reads
   have DO := hQQ hdo
   have hKl := hdo.okn.len
   have hsz : w.heap.size ≤ wr.heap.size := Nat.le_trans MB.out.size hdo.turn.size
   have hmr : Turned S w wr := turned_own (Turned.mono MB.out (fun _ _ q => q.elim)) hdo.turn (fun k q => by rcases q with q | q; exact .inr (by omega); exact .inl q)
   have LS := hQQ (fun k (q : S k) => HSS.out k q)
   have RUN := hQQ (runY_ok (look K) (sem K) M K.length wr hdo.known f clo S Y X HE.out (fun k q => Nat.lt_of_lt_of_le (HSS.out k q) hsz) (fun w' w'' h t => HY.out w' w'' h (t.mono (fun k _ q => Nat.le_trans hsz q))) (fun w' w'' h t => HX.out w' w'' h (t.mono (fun k _ q => Nat.le_trans hsz q))) hdo.y
     (fun W F p m y v n => HP.out K hdo.okn W F p (turned_own (F' := fun _ => False) hmr m (fun _ q => q.elim)) y v (fun k hk => Nat.le_trans hsz (n k hk))))
   have HFK := hQQ (HF.out K hdo.okn)
   have RW : Hid (RowAt wr 3 (zs.map (Value.int .i64)) a' cap') := hQQ (RB.out.keep hdo.turn (fun k q e => by rcases e with e | e; exact (HL.out k q).2.2 e; have := HSS.out k e; have := (HL.out k q).1; omega))
   clear hdo hpn hmr hsz DO0 hln
   go_wp2_with fail
   refine RUN.out.mono ?_
   intro e w2 he
   cases hs : sem K with
   | need x =>
     rw [hs] at he
     obtain ⟨rfl,hm2,hy2⟩ := he
     have HS := hQQ hs
     have hx0 : 0 ≤ x := by have := HFK.out; rw [hs] at this; exact this.1
     clear hs RUN
     obtain ⟨j,rfl⟩ : ∃ j : Nat,x = j := ⟨x.toNat,by omega⟩
     have HM2 : Hid (Turned S wr w2) := hQQ hm2
     have Y2 := hQQ hy2
     have nSM : ¬ S M := fun q => by have := HSS.out M q; omega
     have nSa : ∀ k,owned a' k → ¬ S k := fun k q r => by have := HSS.out k r; have := (HL.out k q).1; omega
     have bW : w.heap.size ≤ wb.heap.size := MB.out.size
     clear hm2 hy2
     have HFJ := HFK.out
     rw [HS.out] at HFJ
     by_cases hj : j < zs.length
     · obtain ⟨q1,q2,q3,q4⟩ := doP_need DO.out.okn HFK.out HS.out (by omega) DO.out.res
       have d1 : decide ((zs.length : Int) ≤ (j : Int)) = false := by simp; omega
       have d3 : decide (zs.length ≤ j) = false := by simp; omega
       have d2 : decide ((j : Int) < 0) = false := by simp
       have hrow := RW.out.keep HM2.out nSa
       obtain ⟨g,rfl,hg,hcell,_⟩ := hrow.reads (by simp; omega)
       have hgM : g ≠ M := (HL.out g rfl).2.2
       have cw : w2.cell? ⟨g,j,none⟩ = some (.int .i64 (wAt zs j)) := by
         refine hcell j _ ?_
         unfold wAt
         rw [List.getElem?_map,List.getElem?_eq_getElem hj]
         simp [List.getD,hj]
       obtain ⟨w3,hst,hk3,ht3⟩ := (DO.out.known.keep HM2.out nSM).store HFJ.2.1 (wAt_ok HOK.out j) (by unfold maxLen; omega)
       rw [look_snoc q4] at hk3
       have T23 := hQQ ht3
       have K3 := hQQ hk3
       have cw3 := cell_turned ht3 hgM cw
       have hg3 : g < w3.heap.size := Nat.lt_of_lt_of_le hg ht3.size
       have TB3 : Hid (Turned (fun k => k = M ∨ S k) wb w3) := hQQ ((turned_own DO.out.turn HM2.out (fun _ q => .inl (.inr q))).trans (ht3.mono (fun _ _ q => .inl q)))
       have YW3 : Hid (Y w3) := hQQ (HY.out _ _ Y2.out (ht3.mono (fun k _ q => by subst q; exact hwM)))
       have R3 : Hid (PRw wb.heap.size w3 (.slice an K.length cn) K) := hQQ ((DO.out.row.keep HM2.out (fun k hk q => by have := HSS.out k q; omega)).keep ht3 (fun k hk e => by omega))
       have NX : Hid (∀ w4 v,PRw wb.heap.size w4 v (K ++ [((j : Int),wAt zs j)]) → Turned (fun k => k = M ∨ S k) wb w4 → (∀ k ob,w3.heap[k]? = some ob → (Value.slice an K.length cn).ownBlock ≠ some k → w4.heap[k]? = some ob) → Y w4 → OnY w wb w4 S Y M zs sem R (K ++ [((j : Int),wAt zs j)]) v) := hQQ fun w4 v h1 h2 h3 h5 =>
         ⟨q1,q2,h1,by rw [List.length_append]; exact K3.out.of_block (fun ob ho => h3 M ob ho (fun e => by have := (DO.out.row.lt M e).1; omega)),h2,h5⟩
       clear hrow hcell hk3 ht3 q1 q2 q3 q4 HFJ
       generalize wAt zs j = z at cw hst cw3 NX
       go_wp2_with (at_builtin; refine wpList_pairT (S:=fun k => k = M ∨ S k) (wa:=wb) (ps:=K) (j : Int) z rfl _ _ rfl rfl R3.out TB3.out (by omega) rfl ?_; intro g4 c4 w4 h4 t4 k4 u4; have N4 := hQQ (NX.out _ _ h4 t4 k4 (HY.out _ _ YW3.out (u4.mono (fun k _ q => Nat.le_trans bW (DO.out.row.lt k q).1)))); clear h4 t4 k4 u4)
       go_roundw
       case rel => exact ⟨_,N4.out,by simp [lenOf]⟩
       case measure => simp [lenOf]; omega
     · have hn := doP_far DO.out.okn HS.out (by omega) DO.out.res
       subst hn
       have d1 : decide ((zs.length : Int) ≤ (j : Int)) = true := by simp; omega
       have d3 : decide (zs.length ≤ j) = true := by simp; omega
       have d2 : decide ((j : Int) < 0) = false := by simp
       have FIN : Hid (DidY w S Y X none (.returned (.tuple #[.slice none 0 0,.slice none 0 0,.int .i64 3])) w2) := hQQ ⟨rfl,turned_own (turned_own (Turned.mono MB.out (fun _ _ q => q.elim)) DO.out.turn (fun k q => by rcases q with q | q; exact .inr (by omega); exact .inl q)) HM2.out (fun k q => .inl q),Y2.out⟩
       clear HFJ hj
       go_wp2_with fail
       go_ret3
       exact FIN.out
   | done D =>
     rw [hs] at he
     obtain ⟨v,p,rfl,hr,hm2,hy2,hx2,_⟩ := he
     have nSa : ∀ k,owned a' k → ¬ S k := fun k q r => by have := HSS.out k r; have := (HL.out k q).1; omega
     obtain ⟨ad,cd,rfl,hpd,hbd⟩ := hr.reads
     have hfk := HFK.out
     rw [hs] at hfk
     have FINI := hQQ (finish_ok zs D a' ad an cap' cd K.length cn w2 (RW.out.keep hm2 nSa) hpd (by have := hfk.2.2; omega) (by omega) hfk.1 (fun k q r => by have := hbd k q; have := (HL.out k r).2.1; have := DO.out.turn.size; omega))
     have FIN : Hid (∀ e w3,Finished w2 zs D a' cap' (.slice an K.length cn) e w3 → DidY w S Y X R e w3) := hQQ fun e w3 h => doY_fin DO.out hs MB.out hwM (fun k q => ⟨(HL.out k q).1,(HL.out k q).2.1⟩) HSS.out hm2 h HY.out HX.out hy2 hx2
     clear hs RUN hr hm2 hpd hbd hfk hy2 hx2
     go_wp2_with fail
     refine FINI.out.mono ?_
     intro e w3 he
     have hfin := FIN.out e w3 he
     rcases he.2 with ⟨_,rfl,_⟩ | ⟨_,rfl⟩
     · have F2 := hQQ hfin
       clear hfin he
       go_wp2_with fail
       go_ret3
       exact F2.out
     · have F2 := hQQ hfin
       clear hfin he
       go_wp2_with fail
       go_ret3
       exact F2.out
end Go.Proofs.YtmafllcmkhgidaaGreatDoor
namespace Go.Proofs.YtmafllcmkhgidaaGreatDoor
inductive Res (α : Type) where
 | need (a : Int)
 | ok (x : α) (D : List KV)
abbrev Prg (α : Type) := (Int → Option Int) → List KV → Res α
def pureP {α : Type} (x : α) : Prg α := fun _ D => .ok x D
def bindP {α β : Type} (p : Prg α) (f : α → Prg β) : Prg β := fun kn D => match p kn D with
 | .need a => .need a
 | .ok x D' => f x kn D'
def readP (a : Int) : Prg Int := fun kn D => match wordV kn D a with
 | none => .need a
 | some y => .ok y D
def writeP (a x : Int) : Prg Unit := fun _ D => .ok () (writeV D a x)
def ranOf {α : Type} : Res α → Ran
 | .need a => .need a
 | .ok _ D => .done D
theorem bindP_need {α β : Type} {p : Prg α} {f : α → Prg β} {kn : Int → Option Int} {D : List KV} {a : Int} (h : p kn D = .need a) : bindP p f kn D = .need a := by unfold bindP; rw [h]
theorem bindP_ok {α β : Type} {p : Prg α} {f : α → Prg β} {kn : Int → Option Int} {D D' : List KV} {x : α} (h : p kn D = .ok x D') : bindP p f kn D = f x kn D' := by unfold bindP; rw [h]
theorem readP_some {kn : Int → Option Int} {D : List KV} {a y : Int} (h : wordV kn D a = some y) : readP a kn D = .ok y D := by unfold readP; rw [h]
theorem readP_none {kn : Int → Option Int} {D : List KV} {a : Int} (h : wordV kn D a = none) : readP a kn D = .need a := by unfold readP; rw [h]
structure InvD (n : Nat) (D : List KV) : Prop where
 ok : OkD D
 asc : Asc D
 lt : ∀ p ∈ D,p.1 < n
theorem invD_nil (n : Nat) : InvD n [] := ⟨okD_nil,asc_nil,fun p h => by cases h⟩
theorem InvD.len {n : Nat} {D : List KV} (h : InvD n D) : D.length ≤ n := by
 have hn : (D.map (·.1)).Nodup := by
   have := h.asc
   unfold Asc at this
   rw [List.Nodup,List.pairwise_map]
   exact this.imp (fun h => by omega)
 have := nodup_short n (D.map (·.1)) hn fun x hx => by
   obtain ⟨p,hp,rfl⟩ := List.mem_map.1 hx
   exact ⟨(h.ok p hp).1,h.lt p hp⟩
 simpa using this
theorem InvD.fits {zs : List Int} {D : List KV} (h : InvD zs.length D) : fitsD zs D = true := by
 unfold fitsD; rw [List.all_eq_true]; intro p hp; simpa using h.lt p hp
theorem InvD.write {n : Nat} {D : List KV} (h : InvD n D) {a x : Int} (ha : W64 a) (hn : a < n) (hx : W64 x) : InvD n (writeV D a x) :=
 ⟨okD_write h.ok ha hx,asc_write h.asc a x,fun p hp => by
   unfold writeV at hp
   split at hp
   · exact h.lt p hp
   · rcases mem_putD hp with rfl | q
     · exact hn
     · exact h.lt p q⟩
def Good {α : Type} (n : Nat) (Q : α → Prop) (p : Prg α) : Prop := ∀ kn D,OkK kn → InvD n D → match p kn D with
 | .need a => 0 ≤ a ∧ a < n ∧ kn a = none
 | .ok x D' => InvD n D' ∧ Q x
def Sound {α : Type} (p : Prg α) : Prop := ∀ kn kn' D,(∀ a v,kn a = some v → kn' a = some v) → (∃ a,p kn D = .need a) ∨ p kn D = p kn' D
theorem good_pure {α : Type} (n : Nat) {Q : α → Prop} {x : α} (h : Q x) : Good n Q (pureP x) := fun _ _ _ hD => ⟨hD,h⟩
theorem good_bind {α β : Type} {n : Nat} {Q : α → Prop} {Q' : β → Prop} {p : Prg α} {f : α → Prg β} (h : Good n Q p) (hf : ∀ x,Q x → Good n Q' (f x)) : Good n Q' (bindP p f) := fun kn D hk hD => by
 have h1 := h kn D hk hD
 cases e : p kn D with
 | need a => rw [bindP_need e]; rw [e] at h1; exact h1
 | ok x D' => rw [bindP_ok e]; rw [e] at h1; exact hf x h1.2 kn D' hk h1.1
theorem good_read (n : Nat) {a : Int} (ha : a < n) : Good n W64 (readP a) := fun kn D hk hD => by
 cases e : wordV kn D a with
 | none => rw [readP_none e]; obtain ⟨h0,_,h2⟩ := word_none e; exact ⟨h0,ha,h2⟩
 | some y => rw [readP_some e]; exact ⟨hD,word_ok hk hD.ok e⟩
theorem good_write (n : Nat) {a x : Int} (ha : W64 a) (hn : a < n) (hx : W64 x) : Good n (fun _ => True) (writeP a x) := fun kn D hk hD => ⟨hD.write ha hn hx,trivial⟩
theorem good_imp {α : Type} {n : Nat} {Q Q' : α → Prop} {p : Prg α} (h : Good n Q p) (hq : ∀ x,Q x → Q' x) : Good n Q' p := fun kn D hk hD => by
 have h1 := h kn D hk hD
 cases e : p kn D with
 | need a => rw [e] at h1; exact h1
 | ok x D' => rw [e] at h1; exact ⟨h1.1,hq x h1.2⟩
theorem Good.ok {α : Type} {n : Nat} {Q : α → Prop} {p : Prg α} (h : Good n Q p) {kn : Int → Option Int} {D : List KV} (hk : OkK kn) (hD : InvD n D) {x : α} {D' : List KV} (e : p kn D = .ok x D') : InvD n D' ∧ Q x := by
 have := h kn D hk hD; rw [e] at this; exact this
theorem sound_pure {α : Type} (x : α) : Sound (pureP x) := fun _ _ _ _ => .inr rfl
theorem sound_bind {α β : Type} {p : Prg α} {f : α → Prg β} (h : Sound p) (hf : ∀ x,Sound (f x)) : Sound (bindP p f) := fun kn kn' D hk => by
 rcases h kn kn' D hk with ⟨a,e⟩ | e
 · exact .inl ⟨a,bindP_need e⟩
 · cases e1 : p kn D with
   | need a => exact .inl ⟨a,bindP_need e1⟩
   | ok x D' => rw [bindP_ok e1,bindP_ok (e.symm.trans e1)]; exact hf x kn kn' D' hk
theorem sound_read (a : Int) : Sound (readP a) := fun kn kn' D hk => by
 cases e : wordV kn D a with
 | none => exact .inl ⟨a,readP_none e⟩
 | some y =>
   refine .inr ?_
   rw [readP_some e,readP_some]
   unfold wordV at e ⊢
   split
   · rename_i q; rw [if_pos q] at e; exact e
   · rename_i q
     rw [if_neg q] at e
     cases e1 : look D a with
     | none => rw [e1] at e; simp at e ⊢; exact hk a y e
     | some v => rw [e1] at e; simpa using e
theorem sound_write (a x : Int) : Sound (writeP a x) := fun _ _ _ _ => .inr rfl
theorem sound_ite {α : Type} {c : Prop} [Decidable c] {p q : Prg α} (h1 : Sound p) (h2 : Sound q) : Sound (if c then p else q) := by
 split
 · exact h1
 · exact h2
def allK (zs : List Int) : Int → Option Int := fun a => if 0 ≤ a ∧ a < zs.length then some (wAt zs a) else none
theorem okK_all {zs : List Int} (h : OkW zs) : OkK (allK zs) := fun a v e => by
 unfold allK at e
 split at e
 · cases e; exact wAt_ok h a
 · cases e
theorem look_all {zs : List Int} {K : List KV} (h : OkKn zs K) : ∀ a v,look K a = some v → allK zs a = some v := fun a v e => by
 obtain ⟨h0,h1,h2⟩ := h.at' _ (look_mem e)
 simp only at h0 h1 h2
 unfold allK
 rw [if_pos ⟨h0,h1⟩,h2]
theorem okK_of {zs : List Int} {K : List KV} (h : OkKn zs K) (hz : OkW zs) : OkK (look K) := fun a v e => okK_all hz a v (look_all h a v e)
theorem doP_run {α : Type} {zs : List Int} {p : Prg α} {Q : α → Prop} {x : α} {D : List KV} (hS : Sound p) (hG : Good zs.length Q p) (hz : OkW zs) (hf : p (allK zs) [] = .ok x D) :
   ∀ (n : Nat) (K : List KV),OkKn zs K → zs.length + 1 = K.length + n → ∃ K',OkKn zs K' ∧ doP (fun K => ranOf (p (look K) [])) zs n K = some (applyD zs D,K')
 | 0,K,hK,hn => by have := hK.len; omega
 | n + 1,K,hK,hn => by
   have hg := hG (look K) [] (okK_of hK hz) (invD_nil _)
   have hD := (hG.ok (okK_all hz) (invD_nil _) hf).1
   unfold doP
   rcases hS (look K) (allK zs) [] (look_all hK) with ⟨a,e⟩ | e
   · rw [e] at hg ⊢
     obtain ⟨h0,h1,h2⟩ := hg
     simp only [ranOf]
     rw [if_pos h1]
     exact doP_run hS hG hz hf n _ (okKn_snoc hK h0 h1 h2) (by simp; omega)
   · rw [e,hf]
     simp only [ranOf]
     rw [if_pos hD.fits]
     exact ⟨K,hK,rfl⟩
theorem sound_same {α : Type} {zs : List Int} {p : Prg α} {x y : α} {D D' : List KV} {K : List KV} (hS : Sound p) (hK : OkKn zs K) (hf : p (allK zs) [] = .ok x D) (h : p (look K) [] = .ok y D') : y = x ∧ D' = D := by
 rcases hS (look K) (allK zs) [] (look_all hK) with ⟨a,e⟩ | e
 · rw [h] at e; cases e
 · rw [h,hf] at e; cases e; exact ⟨rfl,rfl⟩
theorem fine_of {α : Type} {zs : List Int} {p : Prg α} {Q : α → Prop} (hG : Good zs.length Q p) (hz : OkW zs) (hl : zs.length ≤ 100000) : FineSem zs zs.length (fun K => ranOf (p (look K) [])) := fun K hK => by
 have hg := hG (look K) [] (okK_of hK hz) (invD_nil _)
 show Fine (look K) _ (ranOf (p (look K) []))
 cases e : p (look K) [] with
 | need a => rw [e] at hg; exact ⟨hg.1,by have := hg.2.1; unfold W64; constructor <;> omega,hg.2.2⟩
 | ok x D => rw [e] at hg; exact ⟨hg.1.ok,hg.1.asc,hg.1.len⟩
theorem apply_look {D : List KV} (hA : Asc D) (zs : List Int) (h0 : ∀ p ∈ D,0 ≤ p.1 ∧ p.1 < zs.length) (i : Int) (hi : 0 ≤ i ∧ i < zs.length) : wAt (applyD zs D) i = (look D i).getD (wAt zs i) := by
 induction D generalizing zs with
 | nil => rfl
 | cons p D ih =>
   have hA' : Asc D := by unfold Asc at hA ⊢; exact (List.pairwise_cons.1 hA).2
   have hp := h0 p (by simp)
   show wAt (applyD (zs.set p.1.toNat p.2) D) i = _
   rw [ih hA' _ (fun q hq => by have := h0 q (by simp [hq]); simpa using this) (by simpa using hi)]
   rw [look_cons]
   by_cases e : p.1 = i
   · rw [if_pos e]
     have hn : look D i = none := look_none_iff.2 (fun q hq => by
       unfold Asc at hA
       have := (List.pairwise_cons.1 hA).1 q hq
       omega)
     rw [hn]
     subst e
     unfold wAt
     simp only [List.getD,Option.getD_some]
     rw [List.getElem?_set_self (by omega)]
     rfl
   · rw [if_neg e]
     have : wAt (zs.set p.1.toNat p.2) i = wAt zs i := by
       unfold wAt
       simp only [List.getD]
       rw [List.getElem?_set_ne (by omega)]
     rw [this]
theorem words_ext {xs ys : List Int} (hl : xs.length = ys.length) (h : ∀ i : Int,0 ≤ i → i < xs.length → wAt xs i = wAt ys i) : xs = ys := by
 apply List.ext_getElem hl
 intro i h1 h2
 have := h (i : Int) (by omega) (by omega)
 simpa [wAt,List.getD,h1,h2] using this
theorem wAt_set {ws : List Int} {a x i : Int} (ha : 0 ≤ a) (hi : 0 ≤ i) (hn : a < ws.length) : wAt (ws.set a.toNat x) i = if i = a then x else wAt ws i := by
 unfold wAt
 simp only [List.getD]
 by_cases e : i = a
 · subst e
   rw [if_pos rfl,List.getElem?_set_self (by omega)]
   rfl
 · rw [if_neg e,List.getElem?_set_ne (by omega)]
theorem apply_write {n : Nat} {zs : List Int} {D : List KV} (hn : zs.length = n) (h : InvD n D) {a x : Int} (ha : 0 ≤ a) (hl : a < n) (hw : W64 a) (hx : W64 x) : applyD zs (writeV D a x) = (applyD zs D).set a.toNat x := by
 have h2 := h.write hw hl hx
 subst hn
 apply words_ext
 · simp [applyD_len]
 · intro i h0 h1
   rw [applyD_len] at h1
   rw [apply_look h2.asc zs (fun p hp => ⟨(h2.ok p hp).1,h2.lt p hp⟩) i ⟨h0,h1⟩,wAt_set ha h0 (by rw [applyD_len]; exact hl),
     apply_look h.asc zs (fun p hp => ⟨(h.ok p hp).1,h.lt p hp⟩) i ⟨h0,h1⟩]
   unfold writeV
   rw [if_neg (by omega),look_putD h.asc]
   split <;> rfl
theorem word_all {zs : List Int} {D : List KV} (h : InvD zs.length D) {a : Int} (h0 : 0 ≤ a) (h1 : a < zs.length) : wordV (allK zs) D a = some (wAt (applyD zs D) a) := by
 rw [apply_look h.asc zs (fun p hp => ⟨(h.ok p hp).1,h.lt p hp⟩) a ⟨h0,h1⟩]
 unfold wordV allK
 rw [if_neg (by omega),if_pos ⟨h0,h1⟩]
 cases look D a <;> rfl
def Flat {α : Type} (n : Nat) (p : Prg α) (g : List Int → α × List Int) : Prop := ∀ zs D,zs.length = n → OkW zs → InvD n D → ∃ D',p (allK zs) D = .ok (g (applyD zs D)).1 D' ∧ applyD zs D' = (g (applyD zs D)).2 ∧ InvD n D'
theorem flat_pure {α : Type} (n : Nat) (x : α) : Flat n (pureP x) (fun ws => (x,ws)) := fun zs D _ _ hD => ⟨D,rfl,rfl,hD⟩
theorem flat_bind {α β : Type} {n : Nat} {p : Prg α} {f : α → Prg β} {g : List Int → α × List Int} {k : α → List Int → β × List Int} (h : Flat n p g) (hf : ∀ x,Flat n (f x) (k x)) : Flat n (bindP p f) (fun ws => k (g ws).1 (g ws).2) := fun zs D hn hz hD => by
 obtain ⟨D1,e1,a1,i1⟩ := h zs D hn hz hD
 obtain ⟨D2,e2,a2,i2⟩ := hf (g (applyD zs D)).1 zs D1 hn hz i1
 refine ⟨D2,?_,?_,i2⟩
 · rw [bindP_ok e1,e2,a1]
 · rw [a2,a1]
theorem flat_read {n : Nat} {a : Int} (h0 : 0 ≤ a) (h1 : a < n) : Flat n (readP a) (fun ws => (wAt ws a,ws)) := fun zs D hn hz hD => by
 subst hn
 exact ⟨D,readP_some (word_all hD h0 h1),rfl,hD⟩
theorem flat_write {n : Nat} {a x : Int} (h0 : 0 ≤ a) (h1 : a < n) (hw : W64 a) (hx : W64 x) : Flat n (writeP a x) (fun ws => ((),ws.set a.toNat x)) := fun zs D hn hz hD =>
 ⟨_,rfl,apply_write hn hD h0 h1 hw hx,hD.write hw h1 hx⟩
theorem flat_eq {α : Type} {n : Nat} {p : Prg α} {g k : List Int → α × List Int} (h : Flat n p g) (e : ∀ ws,ws.length = n → g ws = k ws) : Flat n p k := fun zs D hn hz hD => by
 rw [← e (applyD zs D) (by rw [applyD_len]; exact hn)]
 exact h zs D hn hz hD
theorem flat_do {α : Type} {zs : List Int} {p : Prg α} {Q : α → Prop} {g : List Int → α × List Int} (hS : Sound p) (hG : Good zs.length Q p) (hz : OkW zs) (hF : Flat zs.length p g) :
   ∃ K,doP (fun K => ranOf (p (look K) [])) zs (zs.length + 1) [] = some ((g zs).2,K) ∧ OkKn zs K ∧ ∀ K,OkKn zs K → ∀ y D,p (look K) [] = .ok y D → y = (g zs).1 := by
 obtain ⟨D,e,a,i⟩ := hF zs [] rfl hz (invD_nil _)
 have e0 : applyD zs [] = zs := rfl
 rw [e0] at e a
 obtain ⟨K,hK,hd⟩ := doP_run hS hG hz e (zs.length + 1) [] (okKn_nil zs) (by simp)
 exact ⟨K,by rw [hd,a],hK,fun K hK y D' h => (sound_same hS hK e h).1⟩
end Go.Proofs.YtmafllcmkhgidaaGreatDoor
