/-
  The landed package extent: Find.
-/
import Derived.Test.YtflihdcliknggaaGreatDoorPbAn
import Derived.Test.YtflihdcliknggaaGreatDoorPbAm
import Derived.Test.YtflihdcliknggaaGreatDoorPbAa
import Derived.Test.YtflihdcliknggaaGreatDoorPbAf
import Derived.Laws.Shifts
import Derived.Laws.Bits64
import Derived.Lib.Hide
import Derived.LoopTactic
import Derived.Outline
import Derived.Test.YtflihdcliknggaaGreatDoorPbAe
import Derived.RangeFuncBox
import Derived.RangeFuncLeaves
import Derived.RangeFuncCalls
import Derived.Shelf.Abstract
import Derived.OwnWalkIn
import Derived.TacticsInMore
import Derived.LoopNIn
import Derived.LoopIn
import Derived.Maps.AppendAt
set_option maxRecDepth 100000
set_option maxHeartbeats 8000000
set_option linter.unusedVariables false
set_option linter.unusedSimpArgs false
set_option linter.unusedSectionVars false
namespace Go.Proofs.YtflihdcliknggaaGreatDoor
open Go.RowKit Go.Sort Go.Maps Go.Shelf
theorem good_seekN2 {pg st : Int} {n : Nat} (H : PgIn pg st n) {f : Int → Prg Bool} (hf : ∀ q,Good n (fun _ => True) (f q)) (m step : Int) (hm : 1 ≤ m) (hs : 1 ≤ step) : Good n (fun x : Int => -1 ≤ x ∧ x < pg) (eleastP f pg m step) := good_seekN H hf m step hm hs _ 0 (by omega)
theorem e_Find {c : Cfg} (R : c.Ok) {n : Nat} (H : PgIn c.pg c.st n) (F : Nat → Prop) (p : Nat) (kn : Int → Option Int) (D : List KV) (m step : Int) (hm : W64 m) (hs : W64 step) (w : World) (hv : ViewAt w F p kn D) (hk : OkK kn) (hD : InvD n D) :
   Calls Tryz.prog 95 #[.pointer (some ⟨p,0,none⟩),.agg c.arr,.int .i64 m,.int .i64 step] w (WentV w F p kn (fun x => .int .i64 x) (efindP c.pg c.st m step kn D)) := by
 obtain ⟨Rr,hRr⟩ : ∃ Rr,efindP c.pg c.st m step kn D = Rr := ⟨_,rfl⟩
 rw [hRr]
 obtain ⟨w1,e1,hb1,hb2,m1,s1⟩ := entry2 w (.cells #[.pointer (some ⟨p,0,none⟩)] 44) (.cells c.arr 28)
 obtain ⟨w2,e2,hb3,m2,s2⟩ := entry1 w1 (.cells #[.nilFunc] 86)
 rw [s1] at hb3
 unfold efindP at hRr
 have hfw := hv.lt
 unfold W64 at hm hs
 by_cases a0 : m < 1
 · have d0 : decide (m < 1) = true := by simp [a0]
   rw [if_neg (by omega)] at hRr
   have FIN : Hid (WentV w F p kn (fun x : Int => Value.int .i64 x) Rr (.returned (.int .i64 (-1))) w1) := hQQ (mid_done (S:=fun _ => False) m1 (fun _ q => q.elim) (MidV.begin (hv.more m1) hD) hRr.symm)
   clear hRr hb1 hb2 hb3 e2 m1 m2 hv hD
   go_enter Tryz.func95,Tryz.ntmps95
   go_wp2_with fail
   go_ret
   exact FIN.out
 have d0 : decide (m < 1) = false := by simp; omega
 by_cases a1 : step < 1
 · have d1 : decide (step < 1) = true := by simp [a1]
   rw [if_neg (by omega)] at hRr
   have FIN : Hid (WentV w F p kn (fun x : Int => Value.int .i64 x) Rr (.returned (.int .i64 (-1))) w1) := hQQ (mid_done (S:=fun _ => False) m1 (fun _ q => q.elim) (MidV.begin (hv.more m1) hD) hRr.symm)
   clear hRr hb1 hb2 hb3 e2 m1 m2 hv hD
   go_enter Tryz.func95,Tryz.ntmps95
   go_wp2_with fail
   go_ret
   exact FIN.out
 have d1 : decide (step < 1) = false := by simp; omega
 rw [if_pos ⟨by omega,by omega⟩] at hRr
 obtain ⟨c3,f3,l3⟩ := box_cells hb3
 have hb3' : (w2.setCell ⟨w.heap.size + 2,0,none⟩ (.func (.func 129) #[] #[.pointer (some ⟨w.heap.size,0,none⟩),.pointer (some ⟨w.heap.size + 1,0,none⟩)])).heap[w.heap.size + 2]? = _ := setCell_one hb3 _
 have t23 : Turned (fun b => b = w.heap.size + 2) w2 (w2.setCell ⟨w.heap.size + 2,0,none⟩ (.func (.func 129) #[] #[.pointer (some ⟨w.heap.size,0,none⟩),.pointer (some ⟨w.heap.size + 1,0,none⟩)])) := Turned.setCell (Turned.refl _ w2) ⟨w.heap.size + 2,0,none⟩ _ (fun _ => rfl)
 have T23 := hQQ t23
 have B3 := hQQ hb3'
 have B1 := hQQ (m2.block hb1)
 have B2 := hQQ (m2.block hb2)
 have M12 := hQQ (m1.trans m2)
 have HV := hQQ hv
 have HDD := hQQ hD
 have HRr := hQQ hRr
 clear hRr hb1 hb2 hb3 m1 m2 hv hD hb3' t23
 go_enter Tryz.func95,Tryz.ntmps95
 have rst := run_store Tryz.prog w2 ⟨w.heap.size + 2,0,none⟩ (.func (.func 129) #[] #[.pointer (some ⟨w.heap.size,0,none⟩),.pointer (some ⟨w.heap.size + 1,0,none⟩)]) .plain rfl
 go_wp2_with (refine wpList_load_row rfl 28 _ rfl (w.heap.size + 1) rfl 28 _ _ _ (by have := T23.out.block (w.heap.size + 1) (lt_of_heap B2.out) (by omega); exact this.trans B2.out) Tryz.underlying28 rfl (by kernel_rfl) ?_)
 have h1 := (T23.out.block w.heap.size (lt_of_heap B1.out) (by omega)).trans B1.out
 have h2 := (T23.out.block (w.heap.size + 1) (lt_of_heap B2.out) (by omega)).trans B2.out
 have h3 := B3.out
 have m3 : More w (w2.setCell ⟨w.heap.size + 2,0,none⟩ (.func (.func 129) #[] #[.pointer (some ⟨w.heap.size,0,none⟩),.pointer (some ⟨w.heap.size + 1,0,none⟩)])) := Turned.mono (turned_own (F:=fun _ => False) M12.out T23.out (fun b e => .inr (by omega))) (fun _ _ q => q)
 generalize w2.setCell ⟨w.heap.size + 2,0,none⟩ (.func (.func 129) #[] #[.pointer (some ⟨w.heap.size,0,none⟩),.pointer (some ⟨w.heap.size + 1,0,none⟩)]) = w3 at h1 h2 h3 m3 ⊢
 have hv3 := HV.out.more m3
 have HH := hQQ H
 have HR := hQQ R
 have HK := hQQ hk
 have H1 := hQQ h1
 have H2 := hQQ h2
 have H3 := hQQ h3
 have M3 := hQQ m3
 have l1 := lt_of_heap h1
 have l2 := lt_of_heap h2
 have l3 := lt_of_heap h3
 have M0 : Hid (MidV w3 w3 F (fun _ => False) p kn n D F) := hQQ (MidV.begin hv3 HDD.out)
 have nF : ∀ b,w.heap.size ≤ b → ¬ F b := fun b hb q => by have := hfw b q; omega
 have KEEP : Hid (∀ wr D' F',MidV w3 wr F (fun _ => False) p kn n D' F' → wr.heap[w.heap.size]? = some (.cells #[.pointer (some ⟨p,0,none⟩)] 44 (0,0)) ∧ wr.heap[w.heap.size + 1]? = some (.cells c.arr 28 (0,0)) ∧ wr.heap[w.heap.size + 2]? = some (.cells #[(.func (.func 129) #[] #[.pointer (some ⟨w.heap.size,0,none⟩),.pointer (some ⟨w.heap.size + 1,0,none⟩)])] 86 (0,0))) := hQQ fun wr D' F' h =>
   ⟨mid_own h H1.out (nF _ (by omega)) (fun q => q),mid_own h H2.out (nF _ (by omega)) (fun q => q),mid_own h H3.out (nF _ (by omega)) (fun q => q)⟩
 have NEED : Hid (∀ a w2,Rr = .need a → DeadAt w2 p a → Turned (fun b => F b ∨ False) w3 w2 → WentV w F p kn (fun x : Int => Value.int .i64 x) Rr (.panicked (endOf p)) w2) := hQQ fun a w2 e hd ht => mid_need M3.out (fun _ q => q.elim) e hd ht
 have DONE : Hid (∀ x w2 D' F',Rr = .ok x D' → MidV w3 w2 F (fun _ => False) p kn n D' F' → WentV w F p kn (fun x : Int => Value.int .i64 x) Rr (.returned (.int .i64 x)) w2) := hQQ fun x w2 D' F' e h => mid_done M3.out (fun _ q => q.elim) h e
 have NN : ∀ (w0 wr : World) (F' : Nat → Prop) (b : Nat),w.heap.size ≤ b → b < w0.heap.size → (∀ k,F' k → F k ∨ w0.heap.size ≤ k) → ¬ F' b := fun w0 wr F' b hb hl hn q => by
   rcases hn b q with r | r
   · exact nF b hb r
   · omega
 have LO := e_least HR.out HH.out F p kn D m step (by omega) (by omega) (by omega) (by omega) 130 #[.pointer (some ⟨w.heap.size,0,none⟩),.pointer (some ⟨w.heap.size + 1,0,none⟩),.pointer (some ⟨w.heap.size + 2,0,none⟩)] (eopenP c.pg c.st) w3 hv3 HK.out HDD.out (good_open HH.out) (enters_of Tryz.func130 (by kernel_rfl) rfl)
   (fun wr D' F' q t hn hv' hD' hq => e_open HR.out HH.out F' p kn D' q hq w.heap.size (w.heap.size + 1) (w.heap.size + 2) wr hv' HK.out hD' ((t.block _ l1 (nF _ (by omega))).trans H1.out) ((t.block _ l2 (nF _ (by omega))).trans H2.out) ((t.block _ l3 (nF _ (by omega))).trans H3.out) (NN w3 wr F' _ (by omega) l1 hn) (NN w3 wr F' _ (by omega) l2 hn) (NN w3 wr F' _ (by omega) l3 hn))
 have LF := hQQ (fun (w4 : World) (D4 : List KV) (F4 : Nat → Prop) (M4 : MidV w3 w4 F (fun _ => False) p kn n D4 F4) => e_least HR.out HH.out F4 p kn D4 m step (by omega) (by omega) (by omega) (by omega) 129 #[.pointer (some ⟨w.heap.size,0,none⟩),.pointer (some ⟨w.heap.size + 1,0,none⟩)] (efreeP c.pg c.st) w4 M4.view HK.out M4.inv (good_free HH.out) (enters_of Tryz.func129 (by kernel_rfl) rfl)
   (fun wr D' F' q t hn hv' hD' hq => e_free HR.out HH.out F' p kn D' q w.heap.size (w.heap.size + 1) wr hv' HK.out hD' ((t.block _ (Nat.lt_of_lt_of_le l1 M4.size) (M4.off l1 (nF _ (by omega)))).trans (KEEP.out _ _ _ M4).1) ((t.block _ (Nat.lt_of_lt_of_le l2 M4.size) (M4.off l2 (nF _ (by omega)))).trans (KEEP.out _ _ _ M4).2.1)))
 have LO := hQQ LO
 clear h1 h2 h3 m3 hv3 hm hs R H hk T23 c3 f3 l3 rst e1 e2 NN nF
 go_wp2_with fail
 refine LO.out.mono ?_
 intro e w4 he
 rcases M0.out.step (More.refl _) HK.out (good_seekN2 HH.out (good_open HH.out) m step a0 a1) he with ⟨a',hE,rfl,hd',ht',_⟩ | ⟨x4,D4,F4,hE,rfl,M4,hq4,_,_⟩
 · exact ⟨rfl,NEED.out a' w4 (HRr.out.symm.trans (bindP_need hE)) hd' ht'⟩
 have R4 := (bindP_ok hE).symm.trans HRr.out
 have K4 := KEEP.out _ _ _ M4
 have K42 := hQQ K4.2.1
 have c9 := (box_cells K4.2.2).1
 have M4 := hQQ M4
 clear he hE LO K4
 by_cases z : x4 = -1
 · rw [if_pos z] at R4
   have e4 : (x4 != -1) = false := by simp [z]
   have LL4 := hQQ (LF.out w4 D4 F4 M4.out)
   have R4 := hQQ R4
   clear z LF
   go_wp2_with (refine wpList_load_rowG rfl 28 _ rfl _ rfl 28 _ _ _ K42.out Tryz.underlying28 rfl (by kernel_rfl) ?_)
   refine LL4.out.mono ?_
   intro e w5 he
   rcases M4.out.step (More.refl _) HK.out (good_seekN2 HH.out (good_free HH.out) m step a0 a1) he with ⟨a',hE,rfl,hd',ht',_⟩ | ⟨x5,D5,F5,hE,rfl,M5,hq5,_,_⟩
   · exact ⟨rfl,NEED.out a' w5 (R4.out.symm.trans hE) hd' ht'⟩
   have FIN := hQQ (DONE.out x5 w5 D5 F5 (R4.out.symm.trans hE) M5)
   clear he hE M5
   go_wp2_with fail
   go_ret
   exact FIN.out
 · rw [if_neg z] at R4
   have e4 : (x4 != -1) = true := by simp [z]
   have FIN := hQQ (DONE.out x4 w4 D4 F4 R4.symm M4.out)
   clear z LF R4 c9
   go_wp2_with fail
   go_ret
   exact FIN.out
def pgArr (c : Cfg) (p : Nat) (q k : Int) : Array Value := (Value.pointer (some ⟨p,0,none⟩) :: (c.arr.toList ++ [.int .i64 q,.int .i64 k])).toArray
theorem arr_len (c : Cfg) : c.arr.toList.length = 24 := rfl
theorem pg_v (c : Cfg) (p : Nat) (q k : Int) : (pgArr c p q k)[0]? = some (.pointer (some ⟨p,0,none⟩)) := by simp [pgArr]
theorem pg_n (c : Cfg) (p : Nat) (q k : Int) : (pgArr c p q k)[25]? = some (.int .i64 q) := by
 have h := arr_len c
 unfold pgArr
 generalize c.arr.toList = l at h ⊢
 rw [List.getElem?_toArray,show (25 : Nat) = 24 + 1 from rfl,List.getElem?_cons_succ,List.getElem?_append_right (by omega),h]
 rfl
theorem pg_c (c : Cfg) (p : Nat) (q k : Int) : (pgArr c p q k)[26]? = some (.int .i64 k) := by
 have h := arr_len c
 unfold pgArr
 generalize c.arr.toList = l at h ⊢
 rw [List.getElem?_toArray,show (26 : Nat) = 25 + 1 from rfl,List.getElem?_cons_succ,List.getElem?_append_right (by omega),h]
 rfl
theorem pg_part (c : Cfg) (p : Nat) (q k : Int) : ∀ j,j < c.arr.size → (pgArr c p q k)[1 + j]? = c.arr[j]? := fun j hj => by
 have hj : j < c.arr.toList.length := by simpa using hj
 rw [← Array.getElem?_toList (xs:=c.arr)]
 unfold pgArr
 generalize c.arr.toList = l at hj ⊢
 rw [List.getElem?_toArray,Nat.add_comm,List.getElem?_cons_succ,List.getElem?_append_left hj]
theorem run_loadVar_sub {P : Program} (w : World) (g off : Nat) (t ty : TypeId) (cs hs : Array Value) (fr : Nat × Nat) (d : TypeDesc) (hg : w.heap[g]? = some (.cells cs t fr)) (hc : ∀ j,j < hs.size → cs[off + j]? = hs[j]?)
   (hu : P.underlying ty = some d) (hd : (match d with | .struct _ | .array _ _ => true | _ => false) = true) (hi : (P.info? ty).map (·.size) = some hs.size) :
   (loadVar ty ⟨g,off,none⟩).run P w = .ok (.agg hs) w := by
 have hl : (loadCells ⟨g,off,none⟩ hs.toList.length).run P w = .ok hs.toList.toArray w :=
   run_loadCells_list (P:=P) w ⟨g,off,none⟩ hs.toList (fun j v hv => by
     have hj : j < hs.size := by have := (List.getElem?_eq_some_iff.1 hv).1; simpa using this
     rw [addr_add,cell_of_row w g (off + j) cs t fr hg,hc j hj]
     simpa using hv)
 cases hq : P.info? ty with
 | none => simp [hq] at hi
 | some i =>
   have hs : i.size = hs.size := by simpa [hq] using hi
   have hagg : (isAgg ty).run P w = .ok true w := by
     unfold isAgg
     rw [Sem.run_bind,run_underlying hu w]
     cases d <;> simp_all
   simp only [Array.length_toList,Array.toArray_toList] at hl
   simp [loadVar,Sem.run_bind,hagg,sizeOf,typeInfo,hq,hs,hl]
theorem wpQuiet_load_sub {P : Program} {ops : Array Oper} {a : Act} {o : Oper} {rest : List Oper} {C : World → Prop} {Q : Act → Prop} (hw : Region.wanted o (yielded ops a.tmps) = true) (ty : TypeId) (x : Operand) (ho : o.op = .load ty x)
   (g off : Nat) (hx : a.eval x = .pointer (some ⟨g,off,none⟩)) (t : TypeId) (cs hs : Array Value) (fr : Nat × Nat) (d : TypeDesc) (hg : ∀ W,C W → W.heap[g]? = some (.cells cs t fr)) (hc : ∀ j,j < hs.size → cs[off + j]? = hs[j]?)
   (hu : P.underlying ty = some d) (hd : (match d with | .struct _ | .array _ _ => true | _ => false) = true) (hi : (P.info? ty).map (·.size) = some hs.size)
   (h : wpQuiet P ops C Q rest (a.put o.dst (.agg hs))) : wpQuiet P ops C Q (o :: rest) a := by
 refine wpQuiet_do (.agg hs) hw (fun W hW => ?_) h
 unfold Oper.quietAt execOp
 simp only [ho,hx,Instr.loadAt,Instr.sureAddr,Sem.run_bind,Sem.run_pure,Result.andThen_ok,run_loadVar_sub W g off t ty cs hs fr d (hg W hW) hc hu hd hi]
 exact ⟨rfl,rfl⟩
theorem wpList_load_sub {P : Program} {ops : Array Oper} {rest : List Oper} {o : Oper} {a : Act} {w : World} {Q : Exit → Act → World → Prop} (hw : Region.wanted o (yielded ops a.tmps) = true) (ty : TypeId) (x : Operand) (ho : o.op = .load ty x)
   (g off : Nat) (hx : a.eval x = .pointer (some ⟨g,off,none⟩)) (t : TypeId) (cs hs : Array Value) (fr : Nat × Nat) (d : TypeDesc) (hg : w.heap[g]? = some (.cells cs t fr)) (hc : ∀ j,j < hs.size → cs[off + j]? = hs[j]?)
   (hu : P.underlying ty = some d) (hd : (match d with | .struct _ | .array _ _ => true | _ => false) = true) (hi : (P.info? ty).map (·.size) = some hs.size)
   (h : wpList P ops Q rest (a.put o.dst (.agg hs)) w) : wpList P ops Q (o :: rest) a w :=
 wpList_wanted hw fun K hK => by
   unfold Oper.wp Oper.upon execOp
   simp only [ho,hx,Instr.loadAt,Instr.sureAddr,Sem.run_bind,Sem.run_pure,Result.andThen_ok,run_loadVar_sub w g off t ty cs hs fr d hg hc hu hd hi]
   exact hK _ _ h
theorem g_bitsA {c : Cfg} (R : c.Ok) (w : World) (q : Int) : Calls Tryz.prog 22 #[.agg c.arr,.int .i64 q] w (Gives w (.int .i64 (pageV c.pg c.st 2 q))) := xbits R w q
theorem g_countA {c : Cfg} (R : c.Ok) (w : World) (q : Int) : Calls Tryz.prog 31 #[.agg c.arr,.int .i64 q] w (Gives w (.int .i64 (pageV c.pg c.st 1 q))) := xcount R w q
theorem g_bits {c : Cfg} (R : c.Ok) {n : Nat} (H : PgIn c.pg c.st n) (F : Nat → Prop) (p : Nat) (kn : Int → Option Int) (D : List KV) (q k : Int) (hn : n ≤ 10000) (hq : isPage c.pg q = true) (w : World) (hv : ViewAt w F p kn D) (hk : OkK kn) (hD : InvD n D) :
   Calls Tryz.prog 55 #[.agg (pgArr c p q k)] w (WentV w F p kn (fun x => .int .i64 x) (readP (bA c.pg c.st q) kn D)) := by
 obtain ⟨Rr,hRr⟩ : ∃ Rr,readP (bA c.pg c.st q) kn D = Rr := ⟨_,rfl⟩
 rw [hRr]
 obtain ⟨w1,e1,hl1,m1,s1⟩ := entry1 w (.cells (pgArr c p q k) 83)
 have MM := hQQ m1
 have L0 := hQQ hl1
 have c0 := (show w1.cell? ⟨w.heap.size,0,none⟩ = some (.pointer (some ⟨p,0,none⟩)) by rw [cell_of_row w1 _ _ _ _ _ hl1]; exact pg_v c p q k)
 have c25 := (show w1.cell? ⟨w.heap.size,25,none⟩ = some (.int .i64 q) by rw [cell_of_row w1 _ _ _ _ _ hl1]; exact pg_n c p q k)
 have c26 := (show w1.cell? ⟨w.heap.size,26,none⟩ = some (.int .i64 k) by rw [cell_of_row w1 _ _ _ _ _ hl1]; exact pg_c c p q k)
 have nFl : ¬ F w.heap.size := fun z => by have := hv.lt _ z; omega
 have M0 : Hid (MidV w1 w1 F (fun _ => False) p kn n D F) := hQQ (MidV.begin (hv.more m1) hD)
 have NEED : Hid (∀ a w2,Rr = .need a → DeadAt w2 p a → Turned (fun b => F b ∨ False) w1 w2 → WentV w F p kn (fun x : Int => Value.int .i64 x) Rr (.panicked (endOf p)) w2) := hQQ fun a w2 e hd ht => mid_need MM.out (fun _ q => q.elim) e hd ht
 have DONE : Hid (∀ x w2 D' F',Rr = .ok x D' → MidV w1 w2 F (fun _ => False) p kn n D' F' → WentV w F p kn (fun x : Int => Value.int .i64 x) Rr (.returned ((fun x : Int => Value.int .i64 x) x)) w2) := hQQ fun x w2 D' F' e h => mid_done MM.out (fun _ q => q.elim) h e
 have HK := hQQ hk
 have HR := hQQ R
 clear hl1 m1 hv hD hk R nFl
 have hb := (page_b H hq).2.2
 have YB := hQQ (fun W => by have := g_bitsA HR.out W q; rw [page2 hq] at this; exact this)
 have HRr := hQQ hRr
 have HB := hQQ hb
 have pg2 := HR.out.pg2
 clear hRr hb hq
 go_enter Tryz.func55,Tryz.ntmps55
 go_wp2_with fail
 clear e1
 refine wp_region_more_tail 7 (by kernel_rfl) (by kernel_rfl) ?_
 simp only [List.take_succ_cons,List.take_zero,List.drop_succ_cons,List.drop_zero]
 iterate 3
   with_reducible refine wpQuiet_step (fun K hK => ?_)
   go_simp
   first
   | (refine hK _ ?_; clear hK K)
   | (apply Exists.intro
      refine ⟨fun W hW => ?_,hK _ ?_⟩
      first
      | (have c1' := hW.cell c0; go_simp; try rfl)
      clear hK K)
 refine wpQuiet_load_sub rfl 28 _ rfl w.heap.size 1 rfl 83 _ c.arr _ _ (fun W hW => hW.block L0.out) (pg_part c p q k) Tryz.underlying28 rfl (by kernel_rfl) ?_
 iterate 2
   with_reducible refine wpQuiet_step (fun K hK => ?_)
   go_simp
   first
   | (refine hK _ ?_; clear hK K)
   | (apply Exists.intro
      refine ⟨fun W hW => ?_,hK _ ?_⟩
      first
      | (have c1' := hW.cell c25; go_simp; try rfl)
      clear hK K)
 iterate 1
   with_reducible refine wpQuiet_step (fun K hK => ?_)
   go_simp
   first
   | (refine hK _ ?_; clear hK K)
   | (apply Exists.intro
      refine ⟨fun W hW => ?_,hK _ ?_⟩
      first
      | (go_at_call 22; exact Calls.more hW (YB.out W))
      | (go_simp; try rfl)
      clear hK K)
 refine wpQuiet_nil ?_
 intro w2 h2
 have M2 := hQQ (M0.out.more h2)
 clear h2 c0 c25 c26
 go_wp2_with fail
 refine (read_any F p kn D (bA c.pg c.st q) w2 M2.out.view (by have := HB.out; have := M2.out.inv.len; unfold W64; omega)).mono ?_
 intro e w3 he
 rcases M2.out.step (More.refl _) HK.out (good_read n HB.out.2.1) he with ⟨a',hE,rfl,hd',ht',_⟩ | ⟨x3,D3,F3,hE,rfl,M3,hq3,_,_⟩
 · exact ⟨rfl,NEED.out a' w3 (HRr.out.symm.trans hE) hd' ht'⟩
 have FIN := hQQ (DONE.out x3 w3 D3 F3 (HRr.out.symm.trans hE) M3)
 clear he hE M3
 go_wp2_with fail
 go_ret
 exact FIN.out
theorem g_bitsK {c : Cfg} (R : c.Ok) {n : Nat} (H : PgIn c.pg c.st n) (F : Nat → Prop) (p : Nat) (kn : Int → Option Int) (D : List KV) (q k b : Int) (hn : n ≤ 10000) (hq : isPage c.pg q = true) (w : World) (hv : ViewAt w F p kn D) (hb : wordV kn D (bA c.pg c.st q) = some b) :
   Calls Tryz.prog 55 #[.agg (pgArr c p q k)] w (Gives w (.int .i64 b)) := by
 obtain ⟨w1,e1,hl1,m1,s1⟩ := entry1 w (.cells (pgArr c p q k) 83)
 have MM := hQQ m1
 have L0 := hQQ hl1
 have c0 := (show w1.cell? ⟨w.heap.size,0,none⟩ = some (.pointer (some ⟨p,0,none⟩)) by rw [cell_of_row w1 _ _ _ _ _ hl1]; exact pg_v c p q k)
 have c25 := (show w1.cell? ⟨w.heap.size,25,none⟩ = some (.int .i64 q) by rw [cell_of_row w1 _ _ _ _ _ hl1]; exact pg_n c p q k)
 have c26 := (show w1.cell? ⟨w.heap.size,26,none⟩ = some (.int .i64 k) by rw [cell_of_row w1 _ _ _ _ _ hl1]; exact pg_c c p q k)
 have YB := hQQ (fun W => by have := g_bitsA R W q; rw [page2 hq] at this; exact this)
 have HV : Hid (∀ W,More w1 W → ViewAt W F p kn D) := hQQ fun W m => (hv.more m1).more m
 have HB := hQQ hb
 have PB := hQQ (page_b H hq).2.2
 clear hl1 m1 hv hb R H hq
 go_enter Tryz.func55,Tryz.ntmps55
 go_wp2_with fail
 clear e1
 refine wp_region_more_tail 7 (by kernel_rfl) (by kernel_rfl) ?_
 simp only [List.take_succ_cons,List.take_zero,List.drop_succ_cons,List.drop_zero]
 iterate 3
   with_reducible refine wpQuiet_step (fun K hK => ?_)
   go_simp
   first
   | (refine hK _ ?_; clear hK K)
   | (apply Exists.intro
      refine ⟨fun W hW => ?_,hK _ ?_⟩
      first
      | (have c1' := hW.cell c0; go_simp; try rfl)
      clear hK K)
 refine wpQuiet_load_sub rfl 28 _ rfl w.heap.size 1 rfl 83 _ c.arr _ _ (fun W hW => hW.block L0.out) (pg_part c p q k) Tryz.underlying28 rfl (by kernel_rfl) ?_
 iterate 2
   with_reducible refine wpQuiet_step (fun K hK => ?_)
   go_simp
   first
   | (refine hK _ ?_; clear hK K)
   | (apply Exists.intro
      refine ⟨fun W hW => ?_,hK _ ?_⟩
      first
      | (have c1' := hW.cell c25; go_simp; try rfl)
      clear hK K)
 iterate 1
   with_reducible refine wpQuiet_step (fun K hK => ?_)
   go_simp
   first
   | (refine hK _ ?_; clear hK K)
   | (apply Exists.intro
      refine ⟨fun W hW => ?_,hK _ ?_⟩
      first
      | (go_at_call 22; exact Calls.more hW (YB.out W))
      | (go_simp; try rfl)
      clear hK K)
 refine wpQuiet_nil ?_
 intro w2 h2
 have M2 := hQQ h2
 clear h2 c0 c25 c26
 go_wp2_with fail
 refine (read_some F p kn D _ b w2 (HV.out _ M2.out) (by have := PB.out; unfold W64; omega) HB.out).mono ?_
 rintro e w3 ⟨rfl,m,rfl⟩
 have FIN := hQQ ((MM.out.trans M2.out).drewN m)
 go_wp2_with fail
 go_ret
 exact ⟨rfl,FIN.out⟩
theorem gd_count {c : Cfg} (R : c.Ok) (p : Nat) (nd q k : Int) (w : World) (hd : DeadAt w p nd) :
   Calls Tryz.prog 98 #[.agg (pgArr c p q k)] w (Gives w (.int .i64 0)) := by
 obtain ⟨w1,e1,hl1,m1,s1⟩ := entry1 w (.cells (pgArr c p q k) 83)
 have MM := hQQ m1
 have L0 := hQQ hl1
 have c0 := (show w1.cell? ⟨w.heap.size,0,none⟩ = some (.pointer (some ⟨p,0,none⟩)) by rw [cell_of_row w1 _ _ _ _ _ hl1]; exact pg_v c p q k)
 have c25 := (show w1.cell? ⟨w.heap.size,25,none⟩ = some (.int .i64 q) by rw [cell_of_row w1 _ _ _ _ _ hl1]; exact pg_n c p q k)
 have c26 := (show w1.cell? ⟨w.heap.size,26,none⟩ = some (.int .i64 k) by rw [cell_of_row w1 _ _ _ _ _ hl1]; exact pg_c c p q k)
 have YB := hQQ (fun W => g_countA R W q)
 have DD : Hid (∀ W,More w1 W → DeadAt W p nd) := hQQ fun W m => (hd.keep m1 (fun q => q)).keep m (fun q => q)
 clear hl1 m1 hd R
 go_enter Tryz.func98,Tryz.ntmps98
 go_wp2_with fail
 clear e1
 refine wp_region_more_tail 7 (by kernel_rfl) (by kernel_rfl) ?_
 simp only [List.take_succ_cons,List.take_zero,List.drop_succ_cons,List.drop_zero]
 iterate 3
   with_reducible refine wpQuiet_step (fun K hK => ?_)
   go_simp
   first
   | (refine hK _ ?_; clear hK K)
   | (apply Exists.intro
      refine ⟨fun W hW => ?_,hK _ ?_⟩
      first
      | (have c1' := hW.cell c0; go_simp; try rfl)
      clear hK K)
 refine wpQuiet_load_sub rfl 28 _ rfl w.heap.size 1 rfl 83 _ c.arr _ _ (fun W hW => hW.block L0.out) (pg_part c p q k) Tryz.underlying28 rfl (by kernel_rfl) ?_
 iterate 2
   with_reducible refine wpQuiet_step (fun K hK => ?_)
   go_simp
   first
   | (refine hK _ ?_; clear hK K)
   | (apply Exists.intro
      refine ⟨fun W hW => ?_,hK _ ?_⟩
      first
      | (have c1' := hW.cell c25; go_simp; try rfl)
      clear hK K)
 iterate 1
   with_reducible refine wpQuiet_step (fun K hK => ?_)
   go_simp
   first
   | (refine hK _ ?_; clear hK K)
   | (apply Exists.intro
      refine ⟨fun W hW => ?_,hK _ ?_⟩
      first
      | (go_at_call 31; exact Calls.more hW (YB.out W))
      | (go_simp; try rfl)
      clear hK K)
 refine wpQuiet_nil ?_
 intro w2 h2
 have M2 := hQQ h2
 clear h2 c0 c25 c26
 go_wp2_with fail
 refine (read_dead p nd _ w2 (DD.out _ M2.out)).mono ?_
 rintro e w3 ⟨rfl,rfl⟩
 go_wp2_with fail
 go_ret
 exact ⟨rfl,MM.out.trans M2.out⟩
end Go.Proofs.YtflihdcliknggaaGreatDoor
namespace Go.Proofs.YtflihdcliknggaaGreatDoor
open Go.RowKit
def bvOf (w : Int) : BitVec 64 := BitVec.ofInt 64 w
def bitB (w : Int) (k : Nat) : Bool := (bvOf w).getLsbD k
def inR (i : Int) : Bool := decide (0 ≤ i ∧ i < 32)
def hasB (w i : Int) : Bool := inR i && bitB w i.toNat
def onlyV (i : Int) : Int := if inR i then 2 ^ i.toNat else 0
def setV (w i : Int) : Int := if inR i then (bvOf w ||| BitVec.twoPow 64 i.toNat).toInt else w
def clearV (w i : Int) : Int := if inR i then (bvOf w &&& ~~~ BitVec.twoPow 64 i.toNat).toInt else w
def endN (n : Int) : Nat := (min n 32).toNat
def onN (w : Int) (k : Nat) : List Nat := (List.range k).filter (bitB w)
def slCountV (w n : Int) : Int := (onN w (endN n)).length
def offN (w : Int) (k : Nat) : Int := match (List.range k).find? (fun j => !bitB w j) with | some j => (j : Int) | none => -1
def slFirstV (w n : Int) : Int := offN w (endN n)
theorem inR_iff (i : Int) : inR i = true ↔ 0 ≤ i ∧ i < 32 := by simp [inR]
theorem inR_nat {k : Nat} (h : k < 32) : inR (k : Int) = true := by simp [inR]; omega
theorem endN_le (n : Int) : endN n ≤ 32 := by unfold endN; omega
theorem wrap_toNat (r : BitVec 64) : IntKind.i64.wrap (r.toNat : Int) = r.toInt := by
 have := r.isLt
 rw [BitVec.toInt_eq_toNat_bmod]
 simp [IntKind.wrap,IntKind.bits,IntKind.signed,Int.bmod]
 omega
theorem toInt_of {w : Int} (h0 : -9223372036854775808 ≤ w) (h1 : w ≤ 9223372036854775807) : (bvOf w).toInt = w := by
 rw [bvOf,BitVec.toInt_ofInt,Int.bmod]
 simp only [Nat.reducePow]
 split <;> omega
theorem bv_toInt (r : BitVec 64) : bvOf r.toInt = r := by rw [bvOf,BitVec.ofInt_toInt]
theorem toInt_wide (r : BitVec 64) : -9223372036854775808 ≤ r.toInt ∧ r.toInt ≤ 9223372036854775807 := by
 have h1 := BitVec.le_toInt r
 have h2 := BitVec.toInt_lt (x:=r)
 constructor <;> omega
theorem bv_pow {k : Nat} (h : k < 32) : BitVec.ofInt 64 ((2 : Int) ^ k) = BitVec.twoPow 64 k := by
 rw [show ((2 : Int) ^ k) = ((2 ^ k : Nat) : Int) by simp,BitVec.ofInt_natCast]
 apply BitVec.eq_of_toNat_eq
 rw [BitVec.toNat_ofNat,BitVec.toNat_twoPow]
theorem bv_zero : BitVec.ofInt 64 0 = 0#64 := by decide
theorem bits_and (w i : Int) : (bits .and .i64 w (onlyV i) != 0) = hasB w i := by
 show (IntKind.i64.wrap ((BitVec.ofInt 64 w &&& BitVec.ofInt 64 (onlyV i)).toNat : Int) != 0) = _
 rw [wrap_toNat]
 unfold hasB onlyV
 cases hi : inR i with
 | false => simp
 | true =>
   have hr := (inR_iff i).1 hi
   simp only [if_true,Bool.true_and]
   rw [bv_pow (by omega),BitVec.and_twoPow]
   unfold bitB bvOf
   cases hb : (BitVec.ofInt 64 w).getLsbD i.toNat with
   | false => simp
   | true =>
     simp only [if_true]
     simp only [bne_iff_ne,ne_eq]
     intro e
     have := congrArg (BitVec.ofInt 64) e
     rw [BitVec.ofInt_toInt] at this
     have := congrArg (fun x => x.getLsbD i.toNat) this
     simp [BitVec.getLsbD_twoPow] at this
     omega
theorem bits_or (w i : Int) (h0 : -9223372036854775808 ≤ w) (h1 : w ≤ 9223372036854775807) : bits .or .i64 w (onlyV i) = setV w i := by
 show IntKind.i64.wrap ((BitVec.ofInt 64 w ||| BitVec.ofInt 64 (onlyV i)).toNat : Int) = _
 rw [wrap_toNat]
 unfold setV onlyV
 cases hi : inR i with
 | false =>
   rw [if_neg (by simp),if_neg (by simp),bv_zero,BitVec.or_zero]
   exact toInt_of h0 h1
 | true =>
   have hr := (inR_iff i).1 hi
   simp only [if_true]
   rw [bv_pow (by omega)]; rfl
theorem bits_andNot (w i : Int) (h0 : -9223372036854775808 ≤ w) (h1 : w ≤ 9223372036854775807) : bits .andNot .i64 w (onlyV i) = clearV w i := by
 show IntKind.i64.wrap ((BitVec.ofInt 64 w &&& ~~~ BitVec.ofInt 64 (onlyV i)).toNat : Int) = _
 rw [wrap_toNat]
 unfold clearV onlyV
 cases hi : inR i with
 | false =>
   rw [if_neg (by simp),if_neg (by simp),bv_zero,BitVec.not_zero,BitVec.and_allOnes]
   exact toInt_of h0 h1
 | true =>
   have hr := (inR_iff i).1 hi
   simp only [if_true]
   rw [bv_pow (by omega)]; rfl
theorem setV_wide (w i : Int) (h0 : -9223372036854775808 ≤ w) (h1 : w ≤ 9223372036854775807) : -9223372036854775808 ≤ setV w i ∧ setV w i ≤ 9223372036854775807 := by
 unfold setV; split
 · exact toInt_wide _
 · exact ⟨h0,h1⟩
theorem clearV_wide (w i : Int) (h0 : -9223372036854775808 ≤ w) (h1 : w ≤ 9223372036854775807) : -9223372036854775808 ≤ clearV w i ∧ clearV w i ≤ 9223372036854775807 := by
 unfold clearV; split
 · exact toInt_wide _
 · exact ⟨h0,h1⟩
theorem bit_set {w i : Int} (hi : inR i = true) (k : Nat) (hk : k < 64) : bitB (setV w i) k = (bitB w k || decide (i.toNat = k)) := by
 have hr := (inR_iff i).1 hi
 unfold bitB setV
 rw [if_pos hi,bv_toInt,BitVec.getLsbD_or,BitVec.getLsbD_twoPow,decide_eq_true (show i.toNat < 64 by omega),Bool.true_and]
theorem bit_clear {w i : Int} (hi : inR i = true) (k : Nat) (hk : k < 64) : bitB (clearV w i) k = (bitB w k && !decide (i.toNat = k)) := by
 have hr := (inR_iff i).1 hi
 unfold bitB clearV
 rw [if_pos hi,bv_toInt,BitVec.getLsbD_and,BitVec.getLsbD_not,BitVec.getLsbD_twoPow,decide_eq_true hk,decide_eq_true (show i.toNat < 64 by omega),Bool.true_and,Bool.true_and]
theorem word_ext {a b : Int} (a0 : -9223372036854775808 ≤ a) (a1 : a ≤ 9223372036854775807) (b0 : -9223372036854775808 ≤ b) (b1 : b ≤ 9223372036854775807)
   (h : ∀ k,k < 64 → bitB a k = bitB b k) : a = b := by
 rw [← toInt_of a0 a1,← toInt_of b0 b1]
 congr 1
 apply BitVec.eq_of_getLsbD_eq
 exact h
theorem has_set {w i : Int} (hi : inR i = true) : hasB (setV w i) i = true := by
 have hr := (inR_iff i).1 hi
 unfold hasB; rw [bit_set hi _ (by omega)]; simp [hi]
theorem has_clear {w i : Int} (hi : inR i = true) : hasB (clearV w i) i = false := by
 have hr := (inR_iff i).1 hi
 unfold hasB; rw [bit_clear hi _ (by omega)]; simp
section
variable {w i : Int} (h0 : -9223372036854775808 ≤ w) (h1 : w ≤ 9223372036854775807)
include h0 h1
theorem set_had (hi : inR i = true) (hb : hasB w i = true) : setV w i = w := by
 have hr := (inR_iff i).1 hi
 have ⟨s0,s1⟩ := setV_wide w i h0 h1
 refine word_ext s0 s1 h0 h1 fun k hk => ?_
 rw [bit_set hi _ hk]
 by_cases q : i.toNat = k
 · subst q; unfold hasB at hb; simp [hi] at hb; simp [hb]
 · simp [q]
theorem clear_not (hi : inR i = true) (hb : hasB w i = false) : clearV w i = w := by
 have hr := (inR_iff i).1 hi
 have ⟨s0,s1⟩ := clearV_wide w i h0 h1
 refine word_ext s0 s1 h0 h1 fun k hk => ?_
 rw [bit_clear hi _ hk]
 by_cases q : i.toNat = k
 · subst q; unfold hasB at hb; simp [hi] at hb; simp [hb]
 · simp [q]
theorem set_clear (hi : inR i = true) (hb : hasB w i = true) : setV (clearV w i) i = w := by
 have hr := (inR_iff i).1 hi
 have ⟨s0,s1⟩ := clearV_wide w i h0 h1
 have ⟨t0,t1⟩ := setV_wide (clearV w i) i s0 s1
 refine word_ext t0 t1 h0 h1 fun k hk => ?_
 rw [bit_set hi _ hk,bit_clear hi _ hk]
 by_cases q : i.toNat = k
 · subst q; unfold hasB at hb; simp [hi] at hb; simp [hb]
 · simp [q]
theorem clear_set (hi : inR i = true) (hb : hasB w i = false) : clearV (setV w i) i = w := by
 have hr := (inR_iff i).1 hi
 have ⟨s0,s1⟩ := setV_wide w i h0 h1
 have ⟨t0,t1⟩ := clearV_wide (setV w i) i s0 s1
 refine word_ext t0 t1 h0 h1 fun k hk => ?_
 rw [bit_clear hi _ hk,bit_set hi _ hk]
 by_cases q : i.toNat = k
 · subst q; unfold hasB at hb; simp [hi] at hb; simp [hb]
 · simp [q]
end
theorem onN_succ (w : Int) (k : Nat) : onN w (k + 1) = onN w k ++ (if bitB w k then [k] else []) := by
 unfold onN
 rw [List.range_succ,List.filter_append]
 congr 1
 cases h : bitB w k <;> simp [h]
theorem offN_some {w : Int} {k j : Nat} (hj : j < k) (h0 : bitB w j = false) (h1 : ∀ i,i < j → bitB w i = true) : offN w k = j := by
 have : (List.range k).find? (fun i => !bitB w i) = some j := by
   rw [List.find?_range_eq_some]
   exact ⟨by simp [h0],by simpa using hj,fun i hi => by simp [h1 i hi]⟩
 unfold offN; rw [this]
theorem offN_none {w : Int} {k : Nat} (h : ∀ i,i < k → bitB w i = true) : offN w k = -1 := by
 have : (List.range k).find? (fun i => !bitB w i) = none := by
   rw [List.find?_range_eq_none]
   intro i hi; simp [h i hi]
 unfold offN; rw [this]
theorem offN_ways (w : Int) (k : Nat) : (offN w k = -1 ∧ ∀ i,i < k → bitB w i = true) ∨ ∃ j : Nat,j < k ∧ offN w k = j ∧ bitB w j = false ∧ ∀ i,i < j → bitB w i = true := by
 induction k with
 | zero => exact .inl ⟨rfl,fun i h => by omega⟩
 | succ k ih =>
   rcases ih with ⟨_,h⟩ | ⟨j,hj,_,h0,h1⟩
   · cases hb : bitB w k with
     | true =>
       have : ∀ i,i < k + 1 → bitB w i = true := fun i hi => by
         by_cases q : i = k
         · rw [q]; exact hb
         · exact h i (by omega)
       exact .inl ⟨offN_none this,this⟩
     | false => exact .inr ⟨k,by omega,offN_some (by omega) hb h,hb,h⟩
   · exact .inr ⟨j,by omega,offN_some (by omega) h0 h1,h0,h1⟩
theorem on_all {w : Int} {k : Nat} (h : ∀ i,i < k → bitB w i = true) : (onN w k).length = k := by
 induction k with
 | zero => rfl
 | succ k ih => rw [onN_succ,List.length_append,ih (fun i hi => h i (by omega)),if_pos (h k (by omega))]; rfl
theorem on_set {w i : Int} (hi : inR i = true) (hb : bitB w i.toNat = false) (k : Nat) (hk : k ≤ 32) : (onN (setV w i) k).length = (onN w k).length + if i.toNat < k then 1 else 0 := by
 induction k with
 | zero => rfl
 | succ k ih =>
   rw [onN_succ,onN_succ,List.length_append,List.length_append,ih (by omega),bit_set hi k (by omega)]
   by_cases q : i.toNat = k
   · subst q
     rw [hb]
     simp
   · rw [decide_eq_false q,Bool.or_false]
     have e : (if i.toNat < k + 1 then 1 else 0) = (if i.toNat < k then 1 else 0) := by
       by_cases q2 : i.toNat < k
       · rw [if_pos q2,if_pos (show i.toNat < k + 1 by omega)]
       · rw [if_neg q2,if_neg (show ¬ i.toNat < k + 1 by omega)]
     rw [e]; omega
theorem wrap_i64 {x : Int} (h0 : -9223372036854775808 ≤ x) (h1 : x ≤ 9223372036854775807) : IntKind.i64.wrap x = x := by
 simp [IntKind.wrap,IntKind.bits,IntKind.signed]; omega
theorem pow_b {k : Nat} (h : k < 32) : 1 ≤ (2 : Int) ^ k ∧ (2 : Int) ^ k ≤ 2147483648 := by
 have h1 : (1 : Nat) ≤ 2 ^ k := Nat.one_le_two_pow
 have h2 : (2 : Nat) ^ k ≤ 2 ^ 31 := Nat.pow_le_pow_right (by omega) (by omega)
 have e : (2 : Int) ^ k = ((2 ^ k : Nat) : Int) := by simp
 rw [e]; omega
theorem o_only (i : Int) (w : World) : Calls Tryz.prog 60 #[.int .i64 i] w fun e w' => e = .returned (.int .i64 (onlyV i)) ∧ w' = w := by
 by_cases c0 : i < 0
 · have d0 : decide (i < 0) = true := by simpa using c0
   have e0 : onlyV i = 0 := by unfold onlyV; rw [if_neg (by simp [inR]; omega)]
   have HE := hQQ e0; clear e0
   go_enter Tryz.func60,Tryz.ntmps60
   go_wp2_with fail
   go_ret
   exact ⟨by rw [HE.out]; rfl,rfl⟩
 · have d0 : decide (i < 0) = false := by simpa using c0
   by_cases c1 : 32 ≤ i
   · have d1 : decide (32 ≤ i) = true := by simpa using c1
     have e0 : onlyV i = 0 := by unfold onlyV; rw [if_neg (by simp [inR]; omega)]
     have HE := hQQ e0; clear e0
     go_enter Tryz.func60,Tryz.ntmps60
     go_wp2_with fail
     go_ret
     exact ⟨by rw [HE.out]; rfl,rfl⟩
   · have d1 : decide (32 ≤ i) = false := by simpa using c1
     obtain ⟨k,rfl⟩ : ∃ k : Nat,i = k := ⟨i.toNat,by omega⟩
     have hk : k < 32 := by omega
     have pb := pow_b hk
     have e0 : onlyV (k : Int) = 2 ^ k := by unfold onlyV; rw [if_pos (inR_nat hk)]; simp
     have HE := hQQ e0; clear e0
     have hm : min k 64 = k := by omega
     have HM := hQQ hm; clear hm
     have HW := hQQ (wrap_i64 (x:=2 ^ k) (by omega) (by omega))
     go_enter Tryz.func60,Tryz.ntmps60
     go_wp2_with fail
     go_ret
     exact ⟨by rw [HE.out]; rfl,rfl⟩
theorem o_has (x i : Int) (w : World) : Calls Tryz.prog 27 #[.int .i64 x,.int .i64 i] w fun e w' => e = .returned (.bool (hasB x i)) ∧ w' = w := by
 have HE := hQQ (bits_and x i)
 go_enter Tryz.func27,Tryz.ntmps27
 go_wp2_with fail
 refine (o_only i _).mono ?_
 rintro e w' ⟨rfl,rfl⟩
 go_wp2_with fail
 go_ret
 exact ⟨by rw [← HE.out]; rfl,rfl⟩
theorem o_set (x i : Int) (h0 : -9223372036854775808 ≤ x) (h1 : x ≤ 9223372036854775807) (w : World) : Calls Tryz.prog 58 #[.int .i64 x,.int .i64 i] w fun e w' => e = .returned (.int .i64 (setV x i)) ∧ w' = w := by
 have HE := hQQ (bits_or x i h0 h1)
 go_enter Tryz.func58,Tryz.ntmps58
 go_wp2_with fail
 refine (o_only i _).mono ?_
 rintro e w' ⟨rfl,rfl⟩
 go_wp2_with fail
 go_ret
 exact ⟨by rw [← HE.out]; rfl,rfl⟩
theorem o_clear (x i : Int) (h0 : -9223372036854775808 ≤ x) (h1 : x ≤ 9223372036854775807) (w : World) : Calls Tryz.prog 65 #[.int .i64 x,.int .i64 i] w fun e w' => e = .returned (.int .i64 (clearV x i)) ∧ w' = w := by
 have HE := hQQ (bits_andNot x i h0 h1)
 go_enter Tryz.func65,Tryz.ntmps65
 go_wp2_with fail
 refine (o_only i _).mono ?_
 rintro e w' ⟨rfl,rfl⟩
 go_wp2_with fail
 go_ret
 exact ⟨by rw [← HE.out]; rfl,rfl⟩
theorem end_in {n : Int} {k : Nat} (h : k < endN n) : (k : Int) < 32 ∧ (k : Int) < n := by unfold endN at h; omega
theorem has_nat {x : Int} {k : Nat} (h : k < 32) : hasB x k = bitB x k := by unfold hasB; rw [inR_nat h,Int.toNat_natCast,Bool.true_and]
end Go.Proofs.YtflihdcliknggaaGreatDoor
namespace Go.Proofs.YtflihdcliknggaaGreatDoor
open Go.RowKit Go.Shelf
attribute [local go_sem] Oper.semAt_some
theorem Keeps2.setCell {a b : Nat} (w : World) {c o : Nat} (v : Value) (ha : a ≠ c) (hb : b ≠ c) : Keeps2 a b w (w.setCell ⟨c,o,none⟩ v) :=
 ⟨Below.heap_setCell _ _ _ _ ha,Below.heap_setCell _ _ _ _ hb⟩
def cameUpTo (x : Int) (k : Nat) : List (Nat × Bool) := (List.range k).map fun j => (j,bitB x j)
theorem came_succ (x : Int) (k : Nat) : cameUpTo x (k + 1) = cameUpTo x k ++ [(k,bitB x k)] := by simp [cameUpTo,List.range_succ]
theorem came_length (x : Int) (k : Nat) : (cameUpTo x k).length = k := by simp [cameUpTo]
theorem bits1_in (n : Nat) (hn : 1 ≤ n) (l Bm Bw : Nat) (x m : Int) (m0 : -9223372036854775808 ≤ m) (m1 : m ≤ 9223372036854775807) (J Jx : List (Nat × Bool) → World → Prop)
   (hY : ∀ pre y W,J pre W → pre.length < endN m → YieldAt Fence.wide (n - 1) Tryz.prog l #[.int .i64 (y.1 : Int),.bool y.2] W fun e W' =>
     (e = .returned (.bool true) ∧ J (pre ++ [y]) W' ∧ Keeps2 Bm Bw W W') ∨ (e = .returned (.bool false) ∧ Jx (pre ++ [y]) W'))
   (W : World) (hBm : W.cell? ⟨Bm,0,none⟩ = some (.int .i64 m)) (hBw : W.cell? ⟨Bw,0,none⟩ = some (.int .i64 x)) (h0 : J [] W) :
   CallsIn Fence.wide n Tryz.prog 92 #[.func (.yield l) #[] #[],.pointer (some ⟨Bm,0,none⟩),.pointer (some ⟨Bw,0,none⟩)] W fun e W' => (∃ v,e = .returned v) ∧
     ((∃ ys,ys = cameUpTo x (endN m) ∧ J ys W') ∨ (∃ pre,(∃ k,k ≤ endN m ∧ pre = cameUpTo x k) ∧ Jx pre W')) := by
 have he := endN_le m
 refine callsIn_of_wp Tryz.func92 rfl trivial ?_ rfl
 simp only [Tryz.ntmps92,List.size_toArray,List.length_cons,List.length_nil,Nat.reduceAdd,Nat.reduceSub,Array.replicate_succ,Array.replicate_zero,List.push_toArray,List.append_toArray,List.nil_append,List.cons_append]
 gi_wp2
 all_goals
   gi_loopw [7] (fun i wr => ∃ k : Nat,k ≤ endN m ∧ i = .int .i64 k ∧ J (cameUpTo x k) wr ∧ Keeps2 Bm Bw W wr) (fun i _ => endN m - (intOf i).toNat)
   case atStart => exact ⟨0,Nat.zero_le _,rfl,h0,Keeps2.refl _ _ _⟩
   case round =>
     obtain ⟨k,hk,rfl,hJs,hnx⟩ := hrel
     by_cases hlt : k < endN m
     · obtain ⟨l1,l2⟩ := end_in hlt
       have hcw : wr.cell? ⟨Bw,0,none⟩ = some (.int .i64 x) := hnx.cell2 hBw
       have HK := hQQ (has_nat (x:=x) (show k < 32 by omega))
       obtain ⟨fn,tmps,assign,body,hy,hR⟩ := hY _ (k,bitB x k) wr hJs (by rw [came_length]; exact hlt)
       dsimp only at hy
       gi_wp2_with (refine ⟨trivial,?_⟩; gi_at_call 27; refine (callsIn_wide.2 (o_has x k _)).mono ?_; rw [HK.out]; rintro e w' ⟨rfl,rfl⟩)
       refine hR.mono ?_
       rintro e W3 (⟨rfl,hJ3,hk3⟩ | ⟨rfl,hJx3⟩)
       · gi_wp2
         go_roundw
         case rel => exact ⟨k + 1,by omega,by simp,by rw [came_succ]; exact hJ3,hnx.trans hk3⟩
         case measure => simp [intOf]; omega
       · gi_wp2
         refine bodyPost_ret (results_none rfl _ _ _) rfl ?_
         exact ⟨⟨_,rfl⟩,.inr ⟨_,⟨k + 1,by omega,(came_succ _ _).symm⟩,hJx3⟩⟩
     · have l3 : k = endN m := by omega
       have l4 : (m ≤ 32 ∧ m ≤ (k : Int)) ∨ (32 ≤ m ∧ 32 ≤ (k : Int)) := by unfold endN at l3; omega
       rcases l4 with ⟨l6,l5⟩ | ⟨l6,l5⟩
       · gi_wp2
         go_end0
         exact ⟨⟨_,rfl⟩,.inl ⟨_,rfl,by rw [← l3]; exact hJs⟩⟩
       · gi_wp2
         go_end0
         exact ⟨⟨_,rfl⟩,.inl ⟨_,rfl,by rw [← l3]; exact hJs⟩⟩
theorem bits_in (n : Nat) (x m : Int) (w : World) :
   CallsIn Fence.wide n Tryz.prog 51 #[.int .i64 x,.int .i64 m] w fun e w' => e = .returned (.func (.func 92) #[] #[.pointer (some ⟨w.heap.size + 1,0,none⟩),.pointer (some ⟨w.heap.size,0,none⟩)]) ∧ w' = (w.alloc (.cells #[.int .i64 x] 3)).alloc (.cells #[.int .i64 m] 3) := by
 refine callsIn_of_wp Tryz.func51 rfl trivial ?_ rfl
 simp only [Tryz.ntmps51,List.size_toArray,List.length_cons,List.length_nil,Nat.reduceAdd,Nat.reduceSub,Array.replicate_succ,Array.replicate_zero,List.push_toArray,List.append_toArray,List.nil_append,List.cons_append]
 gi_wp2
 go_ret
 exact ⟨rfl,rfl⟩
theorem bits_stops (n : Nat) (hn : 1 ≤ n) (Bm Bw : Nat) (x m : Int) (m0 : -9223372036854775808 ≤ m) (m1 : m ≤ 9223372036854775807) (w : World)
   (hBm : w.cell? ⟨Bm,0,none⟩ = some (.int .i64 m)) (hBw : w.cell? ⟨Bw,0,none⟩ = some (.int .i64 x)) :
   SeqStopsK Fence.wide n Tryz.prog 92 #[.pointer (some ⟨Bm,0,none⟩),.pointer (some ⟨Bw,0,none⟩)] (fun y : Nat × Bool => #[Value.int .i64 (y.1 : Int),Value.bool y.2]) (Keeps2 Bm Bw) (fun ys => ys = cameUpTo x (endN m))
     (fun pre => ∃ k,k ≤ endN m ∧ pre = cameUpTo x k) (endN m) w := fun l J Jx W hW _ _ hY h0 =>
 bits1_in n hn l Bm Bw x m m0 m1 J Jx hY W ((hW.cell (p:=⟨Bm,0,none⟩) (lt_of_cell hBm)).trans hBm) ((hW.cell (p:=⟨Bw,0,none⟩) (lt_of_cell hBw)).trans hBw) h0
theorem came_on (x : Int) (k : Nat) : ((cameUpTo x k).filter fun y => y.2).map (fun y => y.1) = onN x k := by
 induction k with
 | zero => rfl
 | succ k ih =>
   rw [came_succ,List.filter_append,List.map_append,ih,onN_succ]
   cases bitB x k <;> rfl
def sumC (pre : List (Nat × Bool)) : Int := ((pre.filter fun y => y.2).length : Int)
theorem sumC_yes (pre : List (Nat × Bool)) (k : Nat) : sumC (pre ++ [(k,true)]) = sumC pre + 1 := by simp [sumC]
theorem sumC_no (pre : List (Nat × Bool)) (k : Nat) : sumC (pre ++ [(k,false)]) = sumC pre := by simp [sumC]
theorem sumC_b (pre : List (Nat × Bool)) : 0 ≤ sumC pre ∧ sumC pre ≤ pre.length := by
 have := List.length_filter_le (fun y : Nat × Bool => y.2) pre
 unfold sumC; omega
theorem sumC_all (x n : Int) : sumC (cameUpTo x (endN n)) = slCountV x n := by
 unfold sumC slCountV
 rw [← came_on,List.length_map]
theorem o_count (x n : Int) (n0 : -9223372036854775808 ≤ n) (n1 : n ≤ 9223372036854775807) (w : World) : Calls Tryz.prog 21 #[.int .i64 x,.int .i64 n] w (Gives w (.int .i64 (slCountV x n))) := by
 suffices H : CallsIn Fence.wide 3 Tryz.prog 21 #[.int .i64 x,.int .i64 n] w fun e W' => e = .returned (.int .i64 (slCountV x n)) ∧ Below w.heap.size w W' from
   (callsIn_wide (n:=3)).1 (H.mono fun e W' ⟨he,hb⟩ => ⟨he,more_of_below hb⟩)
 have he := endN_le n
 refine callsIn_of_wp_marks Tryz.func21 rfl trivial ?_ rfl
 simp only [Tryz.ntmps21,List.size_toArray,List.length_cons,List.length_nil,Nat.reduceAdd,Nat.reduceSub,Array.replicate_succ,Array.replicate_zero,List.push_toArray,List.append_toArray,List.nil_append,List.cons_append]
 gi_wp2_with (refine ⟨trivial,?_⟩; gi_at_call 51; refine (bits_in _ x n _).mono ?_; rintro e w' ⟨rfl,rfl⟩)
 have bC := Boxed.new w 3 (.int .i64 0)
 have bX := Boxed.new (w.alloc (.cells #[.int .i64 0] 3)) 3 (.int .i64 x)
 have bN := Boxed.new ((w.alloc (.cells #[.int .i64 0] 3)).alloc (.cells #[.int .i64 x] 3)) 3 (.int .i64 n)
 simp only [World.size_alloc] at bX bN
 have hB0 : Below w.heap.size w (((w.alloc (.cells #[.int .i64 0] 3)).alloc (.cells #[.int .i64 x] 3)).alloc (.cells #[.int .i64 n] 3)) := (((Below.refl _ w).alloc (Nat.le_refl _) _).alloc (by simp) _).alloc (by simp; omega) _
 refine wpIn_rangeFunc_ownG rfl (by omega) (gf:=92) (lb:=#[.pointer (some ⟨w.heap.size + 1 + 1,0,none⟩),.pointer (some ⟨w.heap.size + 1,0,none⟩)]) rfl trivial (enters_of Tryz.func92 (by kernel_rfl) rfl)
   (bits_stops 2 (by omega) (w.heap.size + 1 + 1) (w.heap.size + 1) x n n0 n1 _ bN.cell (bX.alloc _).cell) (fun h k => h.trans k) (keeps2_put (by simp) (by simp)) (Below.refl _ _) (fun _ => rfl)
   (fun pre W => (W.cell? ⟨w.heap.size,0,none⟩ = some (.int .i64 (sumC pre)) ∧ W.frozen? ⟨w.heap.size,0,none⟩ = false) ∧ Below w.heap.size w W)
   (fun _ _ _ => False)
   (OwnFrom.and (Own.from (fun s A B row hs hg hr => ⟨cell_kept hs.1 hg hr,(frozen_kept hs.1 hg hr).trans hs.2⟩) _) (ownFrom_below (Nat.le_refl _) (by simp; omega)))
   (fun _ _ _ _ _ hs _ _ => hs)
   ⟨⟨((bC.alloc _).alloc _).cell,((bC.alloc _).alloc _).frozen⟩,hB0⟩
   (fun y => { tmps := #[.int .i64 x,.int .i64 n,undef,undef,.int .i64 0,.pointer (some ⟨w.heap.size,0,none⟩),undef,.bool y.2,.int .i64 x,.int .i64 n,.func (.func 92) #[] #[.pointer (some ⟨w.heap.size + 1 + 1,0,none⟩),.pointer (some ⟨w.heap.size + 1,0,none⟩)],.int .i64 (y.1 : Int),.bool y.2,undef,undef,undef,undef],defers := [] }) ?assign ?body ?done ?stop
 case assign =>
   intro l y W K hK
   gi_wp2
   exact hK
 case body =>
   rintro l pre ⟨j,b⟩ W ⟨⟨hc,hf⟩,hB⟩ hlt
   obtain ⟨s0,s1⟩ := sumC_b pre
   cases b with
   | false =>
     gi_wp2
     exact ⟨KeepsFrom.refl _ _,Keeps2.refl _ _ _,⟨by rw [sumC_no]; exact hc,hf⟩,hB⟩
   | true =>
     have HS := hQQ (sumC_yes pre j)
     generalize sumC pre = S at hc s0 s1 HS
     gi_wp2
     exact ⟨(KeepsOthers.setCell _ _ _).from _,Keeps2.setCell _ _ (by omega) (by omega),⟨by rw [HS.out]; exact World.cell?_setCell_same' _ _ _ (by rw [hc]; rfl),by rw [World.frozen?_setCell]; exact hf⟩,hB.setCell (p:=⟨w.heap.size,0,none⟩) (Nat.le_refl _) _⟩
 case done =>
   rintro D ys W hD rfl ⟨⟨hc,_⟩,hB⟩ hK
   rw [sumC_all] at hc
   gi_wp2
   refine ⟨by simp,.inl ⟨_,_,rfl,run_takeDeferred hK,?_⟩⟩
   exact ⟨_,results_tmp rfl _ _ _,rfl,hB.trans (belowK_b (w:=w) (Nat.le_refl _) W D _ _ (by simp at hD; omega) hK rfl rfl)⟩
 case stop =>
   rintro D c pre W _ _ h _
   exact h.elim
theorem first_none {x n : Int} (h : ∀ p ∈ cameUpTo x (endN n),p.2 = true) : slFirstV x n = -1 :=
 offN_none fun i hi => h (i,bitB x i) (by simp only [cameUpTo,List.mem_map,List.mem_range]; exact ⟨i,hi,rfl⟩)
theorem first_some {x n : Int} {k : Nat} (hk : k ≤ endN n) {ini : List (Nat × Bool)} {last : Nat × Bool} (e : cameUpTo x k = ini ++ [last]) (h : ∀ p ∈ ini,p.2 = true) (hl : last.2 = false) : slFirstV x n = (last.1 : Int) := by
 obtain ⟨k',rfl⟩ : ∃ k',k = k' + 1 := by
   cases k with
   | zero => simp [cameUpTo] at e
   | succ k' => exact ⟨k',rfl⟩
 rw [came_succ] at e
 obtain ⟨e1,e2⟩ := List.append_inj' e rfl
 have e3 : (k',bitB x k') = last := by simpa using e2
 subst e1 e3
 exact offN_some (by omega) hl fun i hi => h (i,bitB x i) (by simp only [cameUpTo,List.mem_map,List.mem_range]; exact ⟨i,hi,rfl⟩)
theorem o_first (x n : Int) (n0 : -9223372036854775808 ≤ n) (n1 : n ≤ 9223372036854775807) (w : World) : Calls Tryz.prog 54 #[.int .i64 x,.int .i64 n] w (Gives w (.int .i64 (slFirstV x n))) := by
 suffices H : CallsIn Fence.wide 3 Tryz.prog 54 #[.int .i64 x,.int .i64 n] w fun e W' => e = .returned (.int .i64 (slFirstV x n)) ∧ Below w.heap.size w W' from
   (callsIn_wide (n:=3)).1 (H.mono fun e W' ⟨he,hb⟩ => ⟨he,more_of_below hb⟩)
 refine callsIn_of_wp_marks Tryz.func54 rfl trivial ?_ rfl
 simp only [Tryz.ntmps54,List.size_toArray,List.length_cons,List.length_nil,Nat.reduceAdd,Nat.reduceSub,Array.replicate_succ,Array.replicate_zero,List.push_toArray,List.append_toArray,List.nil_append,List.cons_append]
 gi_wp2_with (refine ⟨trivial,?_⟩; gi_at_call 51; refine (bits_in _ x n _).mono ?_; rintro e w' ⟨rfl,rfl⟩)
 have bC := Boxed.new w 3 (.int .i64 0)
 have bX := Boxed.new (w.alloc (.cells #[.int .i64 0] 3)) 3 (.int .i64 x)
 have bN := Boxed.new ((w.alloc (.cells #[.int .i64 0] 3)).alloc (.cells #[.int .i64 x] 3)) 3 (.int .i64 n)
 simp only [World.size_alloc] at bX bN
 have hB0 : Below w.heap.size w (((w.alloc (.cells #[.int .i64 0] 3)).alloc (.cells #[.int .i64 x] 3)).alloc (.cells #[.int .i64 n] 3)) := (((Below.refl _ w).alloc (Nat.le_refl _) _).alloc (by simp) _).alloc (by simp; omega) _
 refine wpIn_rangeFunc_ownG rfl (by omega) (gf:=92) (lb:=#[.pointer (some ⟨w.heap.size + 1 + 1,0,none⟩),.pointer (some ⟨w.heap.size + 1,0,none⟩)]) rfl trivial (enters_of Tryz.func92 (by kernel_rfl) rfl)
   (bits_stops 2 (by omega) (w.heap.size + 1 + 1) (w.heap.size + 1) x n n0 n1 _ bN.cell (bX.alloc _).cell) (fun h k => h.trans k) (keeps2_put (by simp) (by simp)) (Below.refl _ _) (fun _ => rfl)
   (fun pre W => ((∀ p ∈ pre,p.2 = true) ∧ W.cell? ⟨w.heap.size,0,none⟩ = some (.int .i64 0) ∧ W.frozen? ⟨w.heap.size,0,none⟩ = false) ∧ Below w.heap.size w W)
   (fun c pre W => (c = .ret ∧ ∃ ini last,pre = ini ++ [last] ∧ (∀ p ∈ ini,p.2 = true) ∧ last.2 = false ∧ W.cell? ⟨w.heap.size,0,none⟩ = some (.int .i64 (last.1 : Int))) ∧ Below w.heap.size w W)
   (OwnFrom.and (Own.from (fun s A B row hs hg hr => ⟨hs.1,cell_kept hs.2.1 hg hr,(frozen_kept hs.2.1 hg hr).trans hs.2.2⟩) _) (ownFrom_below (Nat.le_refl _) (by simp; omega)))
   (fun c => OwnFrom.and (Own.from (fun s A B row hs hg hr => by obtain ⟨hc,ini,last,e1,e2,e3,e4⟩ := hs; exact ⟨hc,ini,last,e1,e2,e3,cell_kept e4 hg hr⟩) _) (ownFrom_below (Nat.le_refl _) (by simp; omega)))
   ⟨⟨by simp,((bC.alloc _).alloc _).cell,((bC.alloc _).alloc _).frozen⟩,hB0⟩
   (fun y => { tmps := #[.int .i64 x,.int .i64 n,undef,undef,.pointer (some ⟨w.heap.size,0,none⟩),.int .i64 (y.1 : Int),.bool y.2,.int .i64 x,.int .i64 n,.func (.func 92) #[] #[.pointer (some ⟨w.heap.size + 1 + 1,0,none⟩),.pointer (some ⟨w.heap.size + 1,0,none⟩)],.int .i64 (y.1 : Int),.bool y.2,undef,undef,undef],defers := [] }) ?assign ?body ?done ?stop
 case assign =>
   intro l y W K hK
   gi_wp2
   exact hK
 case body =>
   rintro l pre ⟨j,b⟩ W ⟨⟨hp,hcr,hfr⟩,hB⟩ hlt
   have HP := hQQ hp
   clear hp
   cases b with
   | false =>
     gi_wp2
     exact ⟨(KeepsOthers.setCell _ _ _).from _,⟨rfl,pre,(j,false),rfl,HP.out,rfl,World.cell?_setCell_same' _ _ _ (by rw [hcr]; rfl)⟩,hB.setCell (p:=⟨w.heap.size,0,none⟩) (Nat.le_refl _) _⟩
   | true =>
     gi_wp2
     exact ⟨KeepsFrom.refl _ _,Keeps2.refl _ _ _,⟨fun p hp' => (List.mem_append.1 hp').elim (HP.out p) (fun e => by simp at e; subst e; rfl),hcr,hfr⟩,hB⟩
 case done =>
   rintro D ys W hD rfl ⟨⟨hne,hcr,hfr⟩,hB⟩ hK
   have HF := hQQ (first_none hne)
   clear hne
   gi_wp2
   have hK' := (KeepsOthers.setCell W ⟨w.heap.size,0,none⟩ (.int .i64 (-1))).same D _ hK rfl
   refine ⟨by simp,.inl ⟨_,_,rfl,run_takeDeferred hK',?_⟩⟩
   have hc5 := cell_kept (World.cell?_setCell_same' W ⟨w.heap.size,0,none⟩ (.int .i64 (-1)) (by rw [hcr]; rfl)) (grownBy_putObj' _ D (.deferred none)) (fun r e => by cases e; exact ⟨_,hK',rfl⟩)
   refine ⟨.int .i64 (-1),?_,by rw [HF.out],(hB.setCell (p:=⟨w.heap.size,0,none⟩) (Nat.le_refl _) _).trans (belowK_b (w:=w) (Nat.le_refl _) _ D _ _ (by simp at hD; omega) hK' rfl rfl)⟩
   simp [results,Tryz.f54,go_sem,hc5]
 case stop =>
   rintro D c pre W hD ⟨k,hk,rfl⟩ ⟨⟨rfl,ini,last,e1,e2,e3,hcr⟩,hB⟩ hK
   have HF := hQQ (first_some hk e1 e2 e3)
   clear e1 e2 e3
   gi_wp2
   refine ⟨by simp,.inl ⟨_,_,rfl,run_takeDeferred hK,?_⟩⟩
   have hc5 := cell_kept hcr (grownBy_putObj' _ D (.deferred none)) (fun r e => by cases e; exact ⟨_,hK,rfl⟩)
   refine ⟨.int .i64 (last.1 : Int),?_,by rw [HF.out],hB.trans (belowK_b (w:=w) (Nat.le_refl _) W D _ _ (by simp at hD; omega) hK rfl rfl)⟩
   simp [results,Tryz.f54,go_sem,hc5]
end Go.Proofs.YtflihdcliknggaaGreatDoor
