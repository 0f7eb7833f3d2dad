/-
  The document's own answers for chunks, over a row of words: Mapped, Turn, all.
-/
import Derived.Test.YtflihdcliknggaaGreatDoorPpAr
import Derived.Test.YtflihdcliknggaaGreatDoorPpAh
import Derived.Test.YtflihdcliknggaaGreatDoorPpAi
import Derived.Test.YtflihdcliknggaaGreatDoorPpAo
import Derived.Test.YtflihdcliknggaaGreatDoorPpAm
set_option maxRecDepth 100000
set_option maxHeartbeats 8000000
set_option linter.unusedVariables false
set_option linter.unusedSimpArgs false
set_option linter.unusedSectionVars false
namespace Go.Proofs.YtflihdcliknggaaGreatDoor
open Go.RowKit Go.Sort Go.Maps Go.Shelf
theorem r_mapped {c : Cfg} (R : c.Ok) (ws : List Int) (H : TblIn c.pg c.st ws.length) (hl : ws.length ≤ 1000) (g cap : Nat) (k : Int) (w : World) (hw : Ws w g cap ws) :
   Calls Tryz.prog 151 #[.agg c.cells,.slice (some ⟨g,0,none⟩) ws.length cap,.int .i64 k] w (Gives w (.bool (mappedV c.pg c.st ws k))) := by
 have HC := hQQ (row_new w c.cells 30)
 have HM : Hid (More w (w.alloc (.cells c.cells 30))) := (More.refl w).alloc _
 have R' := hQQ R
 have HW := hQQ hw
 cases h : isChunk c.pg k with
 | false =>
   rw [show mappedV c.pg c.st ws k = false by unfold mappedV; rw [h]; rfl]
   clear hw R
   go_enter Tryz.func151,Tryz.ntmps151
   go_wp2_with (refine wpList_load_row rfl 30 _ rfl _ rfl 30 _ _ _ HC.out Tryz.underlying30 rfl (by kernel_rfl) ?_)
   refine (r_there R'.out k _).mono ?_
   rw [h]
   rintro e w1 ⟨rfl,h1⟩
   have HM1 := hQQ (HM.out.trans h1)
   clear h1
   go_wp2_with fail
   go_ret
   exact ⟨rfl,HM1.out⟩
 | true =>
   obtain ⟨t0,t1,t2⟩ := tbl_b H h
   obtain ⟨m,hm⟩ : ∃ m : Nat,tblV c.pg c.st k = (m : Int) := ⟨(tblV c.pg c.st k).toNat,by omega⟩
   have hmj : m < ws.length := by omega
   have hv : mappedV c.pg c.st ws k = decide (ws.getD m 0 = 1) := by unfold mappedV; rw [h,hm]; rfl
   rw [hv]
   have YT : Hid (∀ W,Calls Tryz.prog 167 #[.agg c.cells,.int .i64 k] W (Gives W (.int .i64 (m : Int)))) := hQQ (fun W => by have := y_rtable R k W; rw [hm] at this; exact this)
   have HX : Hid (∀ W,More w W → W.cell? ⟨g,m,none⟩ = some (.int .i64 (ws.getD m 0))) := hQQ (fun W hW => (hw.more hW).cell hmj)
   generalize ws.getD m 0 = z at HX ⊢
   have b1 : (z == 1) = decide (z = 1) := by by_cases q : z = 1 <;> simp [q]
   clear hw R hm t0 t1 t2 hv HW
   go_enter Tryz.func151,Tryz.ntmps151
   go_wp2_with (refine wpList_load_row rfl 30 _ rfl _ rfl 30 _ _ _ HC.out Tryz.underlying30 rfl (by kernel_rfl) ?_)
   refine (r_there R'.out k _).mono ?_
   rw [h]
   rintro e w1 ⟨rfl,h1⟩
   have HC1 := hQQ (h1.block HC.out)
   have HM1 := hQQ (HM.out.trans h1)
   clear h1
   go_wp2_with (refine wpList_load_rowG rfl 30 _ rfl _ rfl 30 _ _ _ HC1.out Tryz.underlying30 rfl (by kernel_rfl) ?_)
   refine (YT.out _).mono ?_
   rintro e w2 ⟨rfl,h2⟩
   have HM2 := hQQ (HM1.out.trans h2)
   have x1 := HX.out _ HM2.out
   clear h2
   go_wp2_with fail
   go_ret
   exact ⟨rfl,HM2.out⟩
theorem r_all {c : Cfg} (R : c.Ok) (x y : Int) (hx : W64 x) (w : World) : Calls Tryz.prog 153 #[.agg c.cells,.int .i64 x,.int .i64 y] w (Gives w (.bool (thereB c.pg x y))) := by
 have hc := row_new w c.cells 30
 have x2 : (w.alloc (.cells c.cells 30)).cell? ⟨w.heap.size,2,none⟩ = some (.int .i64 c.pg) := cell_more hc (More.refl _) rfl
 have HM : Hid (More w (w.alloc (.cells c.cells 30))) := (More.refl w).alloc _
 have p1 := R.pg1
 have p2 := R.pg2
 have q0 : thereB c.pg x y = (decide (1 ≤ y) && decide (0 ≤ x) && decide (x < c.pg) && decide (y ≤ c.pg - x)) := by
   unfold thereB
   by_cases a : 1 ≤ y <;> by_cases b : 0 ≤ x <;> by_cases d : y ≤ c.pg - x <;> simp [a,b,d]
   omega
 rw [q0]
 clear q0 hc
 unfold W64 at hx
 by_cases a : 1 ≤ y
 · have d1 : decide (1 ≤ y) = true := by simp [a]
   by_cases b : 0 ≤ x
   · have d2 : decide (0 ≤ x) = true := by simp [b]
     by_cases d : x < c.pg
     · have d3 : decide (x < c.pg) = true := by simp [d]
       have q1 : IntKind.i64.wrap (c.pg - x) = c.pg - x := wrap_in (by omega) (by omega)
       rw [d1,d2,d3]
       simp only [Bool.true_and,Bool.and_true]
       clear a b d p1 p2 hx R
       go_enter Tryz.func153,Tryz.ntmps153
       go_wp2_with fail
       go_ret
       exact ⟨rfl,HM.out⟩
     · have d3 : decide (x < c.pg) = false := by simp; omega
       rw [d1,d2,d3]
       simp only [Bool.true_and,Bool.and_true,Bool.false_and,Bool.and_false]
       clear a b d p1 p2 hx R
       go_enter Tryz.func153,Tryz.ntmps153
       go_wp2_with fail
       go_ret
       exact ⟨rfl,HM.out⟩
   · have d2 : decide (0 ≤ x) = false := by simp [b]
     rw [d1,d2]
     simp only [Bool.true_and,Bool.and_true,Bool.false_and,Bool.and_false]
     clear a b p1 p2 hx R
     go_enter Tryz.func153,Tryz.ntmps153
     go_wp2_with fail
     go_ret
     exact ⟨rfl,HM.out⟩
 · have d1 : decide (1 ≤ y) = false := by simp [a]
   rw [d1]
   simp only [Bool.true_and,Bool.and_true,Bool.false_and,Bool.and_false]
   clear a p1 p2 hx R
   go_enter Tryz.func153,Tryz.ntmps153
   go_wp2_with fail
   go_ret
   exact ⟨rfl,HM.out⟩
def RowTo (w : World) (g cap : Nat) (v : Value) (ws : List Int) (e : Ending) (w' : World) : Prop := e = .returned v ∧ Ws w' g cap ws ∧ Turned (fun b => b = g) w w'
theorem turned_more {S : Nat → Prop} {w w' : World} (m : More w w') : Turned S w w' := Turned.mono m (fun _ _ q => q.elim)
theorem r_turn {c : Cfg} (R : c.Ok) (ws : List Int) (H : TblIn c.pg c.st ws.length) (hl : ws.length ≤ 1000) (g cap : Nat) (k x : Int) (w : World) (hw : Ws w g cap ws) :
   Calls Tryz.prog 155 #[.agg c.cells,.slice (some ⟨g,0,none⟩) ws.length cap,.int .i64 k,.int .i64 x] w (RowTo w g cap (.bool (decide (0 < (turnV c.pg c.st k x ws).1))) (turnV c.pg c.st k x ws).2) := by
 have HC := hQQ (row_new w c.cells 30)
 have HM : Hid (More w (w.alloc (.cells c.cells 30))) := (More.refl w).alloc _
 have R' := hQQ R
 have HW := hQQ hw
 cases h : isChunk c.pg k with
 | false =>
   rw [show turnV c.pg c.st k x ws = (0,ws) by unfold turnV; rw [h]; rfl]
   clear hw R
   go_enter Tryz.func155,Tryz.ntmps155
   go_wp2_with (refine wpList_load_row rfl 30 _ rfl _ rfl 30 _ _ _ HC.out Tryz.underlying30 rfl (by kernel_rfl) ?_)
   refine (r_there R'.out k _).mono ?_
   rw [h]
   rintro e w1 ⟨rfl,h1⟩
   have HM1 := hQQ (HM.out.trans h1)
   clear h1
   go_wp2_with fail
   go_ret
   exact ⟨rfl,HW.out.more HM1.out,turned_more HM1.out⟩
 | true =>
   obtain ⟨t0,t1,t2⟩ := tbl_b H h
   obtain ⟨m,hm⟩ : ∃ m : Nat,tblV c.pg c.st k = (m : Int) := ⟨(tblV c.pg c.st k).toNat,by omega⟩
   have hmj : m < ws.length := by omega
   have YT : Hid (∀ W,Calls Tryz.prog 167 #[.agg c.cells,.int .i64 k] W (Gives W (.int .i64 (m : Int)))) := hQQ (fun W => by have := y_rtable R k W; rw [hm] at this; exact this)
   have RM := hQQ (fun W (hW : More w W) => r_mapped R ws H hl g cap k W (hw.more hW))
   have hs := size_1 h
   have e1 : decide (0 < sizeV c.pg k) = true := by simp; omega
   have hT : turnV c.pg c.st k x ws = if mappedV c.pg c.st ws k = decide (x = 1) then (0,ws) else (sizeV c.pg k,ws.set m x) := by unfold turnV; rw [h,hm]; rfl
   rw [hT]
   generalize mappedV c.pg c.st ws k = b at RM ⊢
   by_cases hx : x = 1
   · cases b with
     | false =>
       have d0 : (x == 1) = true := by simp [hx]
       have d1 : decide (x = 1) = true := by simp [hx]
       rw [d1]
       rw [if_neg (by decide)]
       show Calls _ _ _ _ (RowTo w g cap (.bool (decide (0 < sizeV c.pg k))) (ws.set m x))
       rw [e1]
       clear hw R hm t0 t1 t2 hT hs e1 hx d1
       go_enter Tryz.func155,Tryz.ntmps155
       go_wp2_with (refine wpList_load_row rfl 30 _ rfl _ rfl 30 _ _ _ HC.out Tryz.underlying30 rfl (by kernel_rfl) ?_)
       refine (r_there R'.out k _).mono ?_
       rw [h]
       rintro e w1 ⟨rfl,h1⟩
       have HC1 := hQQ (h1.block HC.out)
       have HM1 := hQQ (HM.out.trans h1)
       clear h1
       go_wp2_with (refine wpList_load_rowG rfl 30 _ rfl _ rfl 30 _ _ _ HC1.out Tryz.underlying30 rfl (by kernel_rfl) ?_)
       refine (RM.out _ HM1.out).mono ?_
       rintro e w2 ⟨rfl,h2⟩
       have HC2 := hQQ (h2.block HC1.out)
       have HM2 := hQQ (HM1.out.trans h2)
       clear h2
       go_wp2_with (refine wpList_load_row rfl 30 _ rfl _ rfl 30 _ _ _ HC2.out Tryz.underlying30 rfl (by kernel_rfl) ?_)
       refine (YT.out _).mono ?_
       rintro e w3 ⟨rfl,h3⟩
       have HM3 := hQQ (HM2.out.trans h3)
       have x1 := (HW.out.more HM3.out).cell hmj
       have x2 := (HW.out.more HM3.out).froz m
       have FIN := hQQ (And.intro ((HW.out.more HM3.out).set hmj x) ((turned_more (S:=fun b => b = g) HM3.out).setCell ⟨g,m,none⟩ (.int .i64 x) (fun _ => rfl)))
       clear h3
       go_wp2_with fail
       go_ret
       exact ⟨rfl,FIN.out.1,FIN.out.2⟩
     | true =>
       have d0 : (x == 1) = true := by simp [hx]
       have d1 : decide (x = 1) = true := by simp [hx]
       rw [d1]
       rw [if_pos rfl]
       clear hw R hm t0 t1 t2 hT hs e1 hx d1
       go_enter Tryz.func155,Tryz.ntmps155
       go_wp2_with (refine wpList_load_row rfl 30 _ rfl _ rfl 30 _ _ _ HC.out Tryz.underlying30 rfl (by kernel_rfl) ?_)
       refine (r_there R'.out k _).mono ?_
       rw [h]
       rintro e w1 ⟨rfl,h1⟩
       have HC1 := hQQ (h1.block HC.out)
       have HM1 := hQQ (HM.out.trans h1)
       clear h1
       go_wp2_with (refine wpList_load_rowG rfl 30 _ rfl _ rfl 30 _ _ _ HC1.out Tryz.underlying30 rfl (by kernel_rfl) ?_)
       refine (RM.out _ HM1.out).mono ?_
       rintro e w2 ⟨rfl,h2⟩
       have HC2 := hQQ (h2.block HC1.out)
       have HM2 := hQQ (HM1.out.trans h2)
       clear h2
       go_wp2_with fail
       go_ret
       exact ⟨rfl,HW.out.more HM2.out,turned_more HM2.out⟩
   · cases b with
     | false =>
       have d0 : (x == 1) = false := by simp [hx]
       have d1 : decide (x = 1) = false := by simp [hx]
       rw [d1]
       rw [if_pos rfl]
       clear hw R hm t0 t1 t2 hT hs e1 hx d1
       go_enter Tryz.func155,Tryz.ntmps155
       go_wp2_with (refine wpList_load_row rfl 30 _ rfl _ rfl 30 _ _ _ HC.out Tryz.underlying30 rfl (by kernel_rfl) ?_)
       refine (r_there R'.out k _).mono ?_
       rw [h]
       rintro e w1 ⟨rfl,h1⟩
       have HC1 := hQQ (h1.block HC.out)
       have HM1 := hQQ (HM.out.trans h1)
       clear h1
       go_wp2_with (refine wpList_load_rowG rfl 30 _ rfl _ rfl 30 _ _ _ HC1.out Tryz.underlying30 rfl (by kernel_rfl) ?_)
       refine (RM.out _ HM1.out).mono ?_
       rintro e w2 ⟨rfl,h2⟩
       have HC2 := hQQ (h2.block HC1.out)
       have HM2 := hQQ (HM1.out.trans h2)
       clear h2
       go_wp2_with fail
       go_ret
       exact ⟨rfl,HW.out.more HM2.out,turned_more HM2.out⟩
     | true =>
       have d0 : (x == 1) = false := by simp [hx]
       have d1 : decide (x = 1) = false := by simp [hx]
       rw [d1]
       rw [if_neg (by decide)]
       show Calls _ _ _ _ (RowTo w g cap (.bool (decide (0 < sizeV c.pg k))) (ws.set m x))
       rw [e1]
       clear hw R hm t0 t1 t2 hT hs e1 hx d1
       go_enter Tryz.func155,Tryz.ntmps155
       go_wp2_with (refine wpList_load_row rfl 30 _ rfl _ rfl 30 _ _ _ HC.out Tryz.underlying30 rfl (by kernel_rfl) ?_)
       refine (r_there R'.out k _).mono ?_
       rw [h]
       rintro e w1 ⟨rfl,h1⟩
       have HC1 := hQQ (h1.block HC.out)
       have HM1 := hQQ (HM.out.trans h1)
       clear h1
       go_wp2_with (refine wpList_load_rowG rfl 30 _ rfl _ rfl 30 _ _ _ HC1.out Tryz.underlying30 rfl (by kernel_rfl) ?_)
       refine (RM.out _ HM1.out).mono ?_
       rintro e w2 ⟨rfl,h2⟩
       have HC2 := hQQ (h2.block HC1.out)
       have HM2 := hQQ (HM1.out.trans h2)
       clear h2
       go_wp2_with (refine wpList_load_row rfl 30 _ rfl _ rfl 30 _ _ _ HC2.out Tryz.underlying30 rfl (by kernel_rfl) ?_)
       refine (YT.out _).mono ?_
       rintro e w3 ⟨rfl,h3⟩
       have HM3 := hQQ (HM2.out.trans h3)
       have x1 := (HW.out.more HM3.out).cell hmj
       have x2 := (HW.out.more HM3.out).froz m
       have FIN := hQQ (And.intro ((HW.out.more HM3.out).set hmj x) ((turned_more (S:=fun b => b = g) HM3.out).setCell ⟨g,m,none⟩ (.int .i64 x) (fun _ => rfl)))
       clear h3
       go_wp2_with fail
       go_ret
       exact ⟨rfl,FIN.out.1,FIN.out.2⟩
theorem of_page {p : Int} (h : 0 ≤ p) : ofV p = p / 4 := if_neg (by omega)
theorem r_of_more (p : Int) (h0 : -9223372036854775808 ≤ p) (h1 : p ≤ 9223372036854775807) (w : World) : Calls Tryz.prog 152 #[.int .i64 p] w (Gives w (.int .i64 (ofV p))) := by
 refine (r_of p h0 h1 w).mono ?_
 rintro e w' ⟨rfl,rfl⟩
 exact ⟨rfl,More.refl _⟩
theorem r_count {c : Cfg} (R : c.Ok) (ws : List Int) (H : TblIn c.pg c.st ws.length) (hl : ws.length ≤ 1000) (g cap : Nat) (w : World) (hw : Ws w g cap ws) :
   Calls Tryz.prog 154 #[.agg c.cells,.slice (some ⟨g,0,none⟩) ws.length cap] w (Gives w (.int .i64 (countW c.pg c.st ws))) := by
 have HC := hQQ (row_new w c.cells 30)
 have HM : Hid (More w (w.alloc (.cells c.cells 30))) := (More.refl w).alloc _
 have p1 := R.pg1
 have p2 := R.pg2
 rw [← count_pages c.pg c.st ws p1]
 have RM := hQQ (fun k W (hW : More w W) => r_mapped R ws H hl g cap k W (hw.more hW))
 have CB := hQQ (pagesC_b c.pg c.st ws)
 clear R H hw
 go_enter Tryz.func154,Tryz.ntmps154
 go_wp2_with fail
 go_loopw [5,6] (fun nv pv wr => ∃ p : Nat,(p : Int) ≤ c.pg ∧ pv = .int .i64 p ∧ nv = .int .i64 (pagesC c.pg c.st ws p) ∧ More (w.alloc (.cells c.cells 30)) wr) (fun _ pv _ => c.pg.toNat - (intOf pv).toNat)
 case atStart => exact ⟨0,by omega,rfl,rfl,More.refl _⟩
 case round =>
   obtain ⟨p,hp,rfl,rfl,ht⟩ := hrel
   have hc := ht.block HC.out
   have x2 : wr.cell? ⟨w.heap.size,2,none⟩ = some (.int .i64 c.pg) := cell_more hc (More.refl _) rfl
   have HC1 := hQQ hc
   have HT := hQQ ht
   have cb := CB.out p
   clear hc ht
   by_cases hlt : (p : Int) < c.pg
   · have d0 : decide ((p : Int) < c.pg) = true := by simp [hlt]
     have hq : ofV (p : Int) = (p : Int) / 4 := of_page (by omega)
     have q1 : IntKind.i64.wrap ((p : Int) + 1) = (p : Int) + 1 := wrap_in (by omega) (by omega)
     have q2 : IntKind.i64.wrap (pagesC c.pg c.st ws p + 1) = pagesC c.pg c.st ws p + 1 := wrap_in (by omega) (by omega)
     have OF := hQQ (fun W => by have := r_of_more (p : Int) (by omega) (by omega) W; rw [hq] at this; exact this)
     have hs : pagesC c.pg c.st ws (p + 1) = pagesC c.pg c.st ws p + if mappedV c.pg c.st ws ((p : Int) / 4) then 1 else 0 := rfl
     have RK := hQQ (RM.out ((p : Int) / 4))
     have HLT := hQQ hlt
     generalize mappedV c.pg c.st ws ((p : Int) / 4) = b at RK hs
     have HS := hQQ hs
     have CB0 := hQQ cb
     generalize pagesC c.pg c.st ws p = z at HS q2 CB0 ⊢
     clear hq hs hlt cb
     go_wp2_with fail
     refine wp_region_more (by kernel_rfl) (by kernel_rfl) ?_
     iterate 5
       first
       | (refine wpQuiet_load_row rfl 30 _ rfl _ rfl 30 _ _ _ (fun W hW => hW.block HC1.out) Tryz.underlying30 rfl (by kernel_rfl) ?_)
       | (with_reducible refine wpQuiet_step (fun K hK => ?_)
          go_simp
          first
          | (refine hK _ ?_; clear hK K)
          | (apply Exists.intro
             refine ⟨fun W hW => ?_,hK _ ?_⟩
             first
             | (go_at_call 152; exact Calls.more hW (OF.out W))
             | (go_at_call 151; exact Calls.more hW (RK.out W ((HM.out.trans HT.out).trans hW)))
             | ((try go_simp); try rfl)
             clear hK K))
     refine wpQuiet_nil ?_
     intro w2 m2
     have T2 := hQQ (HT.out.trans m2)
     clear m2
     cases b with
     | true =>
       go_wp2_with fail
       exact ⟨⟨p + 1,by have := HLT.out; omega,by go_num,by rw [HS.out]; rfl,T2.out⟩,by have := HLT.out; simp [intOf]; omega⟩
     | false =>
       go_wp2_with fail
       exact ⟨⟨p + 1,by have := HLT.out; omega,by go_num,by rw [HS.out]; simp,T2.out⟩,by have := HLT.out; simp [intOf]; omega⟩
   · have d0 : decide ((p : Int) < c.pg) = false := by simp [hlt]
     have hpe : p = c.pg.toNat := by omega
     have FIN := hQQ (HM.out.trans HT.out)
     have HE : Hid (pagesC c.pg c.st ws p = pagesC c.pg c.st ws c.pg.toNat) := hQQ (by rw [← hpe])
     clear hlt hpe cb
     go_wp2_with fail
     go_ret
     exact ⟨by rw [← HE.out]; rfl,FIN.out⟩
theorem tbl_len {pg st : Int} {n m : Nat} (H : TblIn pg st n) (e : m = n) : TblIn pg st m := e ▸ H
theorem r_ensure {c : Cfg} (R : c.Ok) (ws : List Int) (H : TblIn c.pg c.st ws.length) (hl : ws.length ≤ 1000) (g cap : Nat) (x y : Int) (hx : W64 x) (w : World) (hw : Ws w g cap ws) :
   Calls Tryz.prog 113 #[.agg c.cells,.slice (some ⟨g,0,none⟩) ws.length cap,.int .i64 x,.int .i64 y] w (RowTo w g cap (.int .i64 (ensureW c.pg c.st x y ws).1) (ensureW c.pg c.st x y ws).2) := by
 have HC := hQQ (row_new w c.cells 30)
 have HM : Hid (More w (w.alloc (.cells c.cells 30))) := (More.refl w).alloc _
 have p1 := R.pg1
 have p2 := R.pg2
 have RA := hQQ (fun W => r_all R x y hx W)
 have RCN := hQQ (fun (a : List Int) (e : a.length = ws.length) (W : World) (hW : Ws W g cap a) => by have := r_count R a (tbl_len H e) (by omega) g cap W hW; rw [e] at this; exact this)
 have RT := hQQ (fun (a : List Int) (e : a.length = ws.length) (k : Int) (W : World) (hW : Ws W g cap a) => by have := r_turn R a (tbl_len H e) (by omega) g cap k 1 W hW; rw [e] at this; exact this)
 have HW := hQQ hw
 have HH := hQQ H
 have hgl := hw.lt
 clear R H hw
 cases h : thereB c.pg x y with
 | false =>
   rw [show ensureW c.pg c.st x y ws = (0,ws) by unfold ensureW; rw [h]; rfl]
   rw [h] at RA
   clear h hx
   go_enter Tryz.func113,Tryz.ntmps113
   go_wp2_with (refine wpList_load_row rfl 30 _ rfl _ rfl 30 _ _ _ HC.out Tryz.underlying30 rfl (by kernel_rfl) ?_)
   refine (RA.out _).mono ?_
   rintro e w1 ⟨rfl,h1⟩
   have HM1 := hQQ (HM.out.trans h1)
   clear h1
   go_wp2_with fail
   go_ret
   exact ⟨rfl,HW.out.more HM1.out,turned_more HM1.out⟩
 | true =>
   have hth := h
   obtain ⟨i0,i1,i2⟩ := there_iff.1 h
   rw [h] at RA
   have q3 : IntKind.i64.wrap (x + y) = x + y := wrap_in (by omega) (by omega)
   have cb0 := count_b (st:=c.st) ws p1 p2
   have cb1 := count_b (st:=c.st) (ensureW c.pg c.st x y ws).2 p1 p2
   have hcd := count_ensure HH.out x y ws rfl
   have HTH := hQQ hth
   clear h hx hth
   go_enter Tryz.func113,Tryz.ntmps113
   go_wp2_with (refine wpList_load_row rfl 30 _ rfl _ rfl 30 _ _ _ HC.out Tryz.underlying30 rfl (by kernel_rfl) ?_)
   refine (RA.out _).mono ?_
   rintro e w1 ⟨rfl,h1⟩
   have HC1 := hQQ (h1.block HC.out)
   have HM1 := hQQ (HM.out.trans h1)
   clear h1
   go_wp2_with (refine wpList_load_row rfl 30 _ rfl _ rfl 30 _ _ _ HC1.out Tryz.underlying30 rfl (by kernel_rfl) ?_)
   refine (RCN.out ws rfl _ (HW.out.more HM1.out)).mono ?_
   rintro e w2 ⟨rfl,h2⟩
   have HC2 := hQQ (h2.block HC1.out)
   have HM2 := hQQ (HM1.out.trans h2)
   clear h2
   have HCD := hQQ (And.intro cb0 (And.intro cb1 hcd))
   generalize countW c.pg c.st ws = z0 at HCD ⊢
   clear cb0 cb1 hcd
   go_wp2_with fail
   go_loopw [10] (fun pv wr => ∃ (p : Int) (a : List Int),x ≤ p ∧ p ≤ x + y ∧ pv = .int .i64 p ∧ Ws wr g cap a ∧ Hid (Ones ws a (fun i => ∃ q : Int,x ≤ q ∧ q < p ∧ i = tblV c.pg c.st (q / 4))) ∧ Turned (fun b => b = g) w2 wr) (fun pv _ => (x + y - intOf pv).toNat)
   case atStart => exact ⟨x,ws,by omega,by omega,rfl,HW.out.more HM2.out,hQQ (ones_refl ws _ (fun i => by rintro ⟨q,h0,h1,_⟩; omega)),Turned.refl _ _⟩
   case round =>
     obtain ⟨p,a,hp0,hp1,rfl,hws,hon,ht⟩ := hrel
     have hal := hon.out.len
     have HC3 := hQQ ((ht.block w.heap.size (lt_of_heap HC2.out) (by omega)).trans HC2.out)
     have HT := hQQ ht
     have HWS := hQQ hws
     clear ht hws
     by_cases hlt : p < x + y
     · have d0 : decide (p < x + y) = true := by simp [hlt]
       have hq : ofV p = p / 4 := of_page (by omega)
       have q1 : IntKind.i64.wrap (p + 1) = p + 1 := wrap_in (by omega) (by omega)
       have OF := hQQ (fun W => by have := r_of_more p (by omega) (by omega) W; rw [hq] at this; exact this)
       have hck : isChunk c.pg (p / 4) = true := isChunk_iff.2 (by unfold chunksV; omega)
       have hn1 := ones_turn HH.out hon.out rfl hck
       have HNX : Hid (Ones ws (turnV c.pg c.st (p / 4) 1 a).2 (fun i => ∃ q : Int,x ≤ q ∧ q < p + 1 ∧ i = tblV c.pg c.st (q / 4))) := ⟨hn1.len,fun i h0 => by
         have e : (∃ q : Int,x ≤ q ∧ q < p + 1 ∧ i = tblV c.pg c.st (q / 4)) ↔ ((∃ q : Int,x ≤ q ∧ q < p ∧ i = tblV c.pg c.st (q / 4)) ∨ i = tblV c.pg c.st (p / 4)) := by
           constructor
           · rintro ⟨q,a0,a1,a2⟩
             by_cases e : q = p
             · subst e; exact .inr a2
             · exact .inl ⟨q,a0,by omega,a2⟩
           · rintro (⟨q,a0,a1,a2⟩ | a2)
             · exact ⟨q,a0,by omega,a2⟩
             · exact ⟨p,hp0,by omega,a2⟩
         exact ⟨fun r => (hn1.eq i h0).1 (e.1 r),fun r => (hn1.eq i h0).2 (fun s => r (e.2 s))⟩⟩
       have HB := hQQ (And.intro hp0 (And.intro hp1 hlt))
       have TT := hQQ (fun W (hW : More wr W) => RT.out a hal (p / 4) W (HWS.out.more hW))
       clear hq hck hn1 hlt hp0 hp1 hon hal i1 i2
       go_wp2_with fail
       refine wp_region_more_tail 4 (by kernel_rfl) (by kernel_rfl) ?_
       simp only [List.take_succ_cons,List.take_zero,List.drop_succ_cons,List.drop_zero]
       iterate 4
         first
         | (refine wpQuiet_load_row rfl 30 _ rfl _ rfl 30 _ _ _ (fun W hW => hW.block HC3.out) Tryz.underlying30 rfl (by kernel_rfl) ?_)
         | (with_reducible refine wpQuiet_step (fun K hK => ?_)
            go_simp
            first
            | (refine hK _ ?_; clear hK K)
            | (apply Exists.intro
               refine ⟨fun W hW => ?_,hK _ ?_⟩
               first
               | (go_at_call 152; exact Calls.more hW (OF.out W))
               | ((try go_simp); try rfl)
               clear hK K))
       refine wpQuiet_nil ?_
       intro w4 m4
       have T4 := hQQ (HT.out.trans (turned_more m4))
       have TW := hQQ (TT.out w4 m4)
       clear m4
       go_wp2_with fail
       refine TW.out.mono ?_
       rintro e w5 ⟨rfl,hw5,ht5⟩
       have T5 := hQQ (T4.out.trans ht5)
       have W5 := hQQ hw5
       clear ht5 hw5
       go_wp2_with fail
       exact ⟨⟨p + 1,_,by have := HB.out; omega,by have := HB.out; omega,by go_num,W5.out,HNX,T5.out⟩,by have := HB.out; simp [intOf]; omega⟩
     · have d0 : decide (p < x + y) = false := by simp [hlt]
       obtain rfl : p = x + y := by omega
       have ha : a = (ensureW c.pg c.st x y ws).2 := ones_pages HH.out rfl HTH.out hon.out
       have RC2 := hQQ (RCN.out a hal wr HWS.out)
       have HAE := hQQ ha
       have hz := HCD.out
       rw [← ha] at hz
       have q5 : IntKind.i64.wrap (countW c.pg c.st a - z0) = (ensureW c.pg c.st x y ws).1 := by rw [wrap_in (by omega) (by omega)]; omega
       have FT := hQQ ((turned_more (S:=fun b => b = g) HM2.out).trans HT.out)
       clear hlt hp0 hp1 hon ha hz hal i1 i2
       generalize countW c.pg c.st a = z1 at q5 RC2
       have Q5 := hQQ q5
       go_wp2_with (refine wpList_load_row rfl 30 _ rfl _ rfl 30 _ _ _ HC3.out Tryz.underlying30 rfl (by kernel_rfl) ?_)
       refine RC2.out.mono ?_
       rintro e w6 ⟨rfl,h6⟩
       have FW := hQQ (HWS.out.more h6)
       have FT6 := hQQ (FT.out.trans (turned_more h6))
       clear h6
       go_wp2_with fail
       go_ret
       exact ⟨rfl,by rw [← HAE.out]; exact FW.out,FT6.out⟩
theorem y_rkind {c : Cfg} (R : c.Ok) (k : Int) (w : World) : Calls Tryz.prog 89 #[.agg c.cells,.int .i64 k] w (Gives w (.int .i64 (pageV c.pg c.st 0 k))) := rkind c.wk c.cp c.pg c.st c.tr c.wt c.ck c.pr c.ca c.bi c.ba w k R
theorem y_rcount {c : Cfg} (R : c.Ok) (k : Int) (w : World) : Calls Tryz.prog 79 #[.agg c.cells,.int .i64 k] w (Gives w (.int .i64 (pageV c.pg c.st 1 k))) := rcount c.wk c.cp c.pg c.st c.tr c.wt c.ck c.pr c.ca c.bi c.ba w k R
theorem y_rbits {c : Cfg} (R : c.Ok) (k : Int) (w : World) : Calls Tryz.prog 82 #[.agg c.cells,.int .i64 k] w (Gives w (.int .i64 (pageV c.pg c.st 2 k))) := rbits c.wk c.cp c.pg c.st c.tr c.wt c.ck c.pr c.ca c.bi c.ba w k R
theorem r9_Kind {c : Cfg} (R : c.Ok) (ws : List Int) (H : PgIn c.pg c.st ws.length) (hl : ws.length ≤ 1000) (g cap : Nat) (p : Int) (w : World) (hw : Ws w g cap ws) :
   Calls Tryz.prog 123 #[.agg c.cells,.slice (some ⟨g,0,none⟩) ws.length cap,.int .i64 p] w (Gives w (.int .i64 (kindV c.pg c.st ws p))) := by
 by_cases hp : isPage c.pg p = true
 · obtain ⟨⟨q0,q1,_⟩,_⟩ := page_b H hp
   obtain ⟨b,hb⟩ : ∃ b : Nat,kA c.pg c.st p = (b : Int) := ⟨(kA c.pg c.st p).toNat,by omega⟩
   have hbl : b < ws.length := by omega
   have P := hQQ ((page0 (st:=c.st) hp).trans hb)
   have hv : kindV c.pg c.st ws p = ws.getD b 0 := by rw [kind_in hp,hb]; rfl
   rw [hv]
   obtain ⟨z,hz⟩ : ∃ z,ws.getD b 0 = z := ⟨_,rfl⟩
   rw [hz]
   have hpp := isPage_iff.1 hp
   have hc := row_new w c.cells 30
   have HR := hQQ R
   have HH := hQQ H
   have hgl := hw.lt
   obtain ⟨w1,e1⟩ : ∃ w1,w.alloc (.cells c.cells 30) = w1 := ⟨_,rfl⟩
   have m1 : More w w1 := by rw [← e1]; exact (More.refl w).alloc _
   rw [e1] at hc
   have HC := hQQ hc
   have HM := hQQ m1
   have HW := hQQ (hw.more m1)
   have x2 : w1.cell? ⟨w.heap.size,2,none⟩ = some (.int .i64 c.pg) := cell_more hc (More.refl _) rfl
   have X2 := hQQ x2
   have pg1 := R.pg1
   have pg2 := R.pg2
   clear x2 m1 hw R H hc
   have CZ : Hid (∀ W,More w1 W → W.cell? ⟨g,b,none⟩ = some (.int .i64 z)) := hQQ fun W hW => by rw [← hz]; exact (HW.out.more hW).cell hbl
   have x2 := X2.out
   have d1 : decide (p < 0) = false := by simp; omega
   have d2 : decide (c.pg ≤ p) = false := by simp; omega
   clear hv hz hb q0 q1 hp
   go_enter Tryz.func123,Tryz.ntmps123
   go_wp2_with (refine wpList_load_rowG rfl 30 _ rfl _ rfl 30 _ _ _ HC.out Tryz.underlying30 rfl (by kernel_rfl) ?_)
   clear e1
   refine (y_rkind HR.out p _).mono ?_
   rw [P.out]
   rintro e w3 ⟨rfl,h3⟩
   have cz := CZ.out _ h3
   have M3 := hQQ (HM.out.trans h3)
   clear h3
   go_wp2_with fail
   go_ret
   exact ⟨rfl,M3.out⟩
 · have hp : isPage c.pg p = false := by simpa using hp
   rw [kind_out hp]
   have hpp := isPage_not.1 hp
   have hc := row_new w c.cells 30
   have HR := hQQ R
   have HH := hQQ H
   have hgl := hw.lt
   obtain ⟨w1,e1⟩ : ∃ w1,w.alloc (.cells c.cells 30) = w1 := ⟨_,rfl⟩
   have m1 : More w w1 := by rw [← e1]; exact (More.refl w).alloc _
   rw [e1] at hc
   have HC := hQQ hc
   have HM := hQQ m1
   have HW := hQQ (hw.more m1)
   have x2 : w1.cell? ⟨w.heap.size,2,none⟩ = some (.int .i64 c.pg) := cell_more hc (More.refl _) rfl
   have X2 := hQQ x2
   have pg1 := R.pg1
   have pg2 := R.pg2
   clear x2 m1 hw R H hc
   have x2 := X2.out
   clear hp
   by_cases h0 : p < 0
   · have d1 : decide (p < 0) = true := by simpa using h0
     go_enter Tryz.func123,Tryz.ntmps123
     go_wp2_with fail
     go_ret
     exact ⟨rfl,HM.out⟩
   · have d1 : decide (p < 0) = false := by simpa using h0
     have d2 : decide (c.pg ≤ p) = true := by simp; omega
     go_enter Tryz.func123,Tryz.ntmps123
     go_wp2_with fail
     go_ret
     exact ⟨rfl,HM.out⟩
theorem r9_set {c : Cfg} (R : c.Ok) (ws : List Int) (H : PgIn c.pg c.st ws.length) (hl : ws.length ≤ 1000) (g cap : Nat) (p k x : Int) (hp : isPage c.pg p = true) (w : World) (hw : Ws w g cap ws) :
   Calls Tryz.prog 114 #[.agg c.cells,.slice (some ⟨g,0,none⟩) ws.length cap,.int .i64 p,.int .i64 k,.int .i64 x] w (RowTo w g cap (.tuple #[]) (put3V c.pg c.st p k x ws)) := by
 obtain ⟨⟨q0,q1,_⟩,⟨q2,q3,_⟩,⟨q4,q5,_⟩⟩ := page_b H hp
 obtain ⟨b0,hb0⟩ : ∃ b : Nat,kA c.pg c.st p = (b : Int) := ⟨(kA c.pg c.st p).toNat,by omega⟩
 obtain ⟨b1,hb1⟩ : ∃ b : Nat,cA c.pg c.st p = (b : Int) := ⟨(cA c.pg c.st p).toNat,by omega⟩
 obtain ⟨b2,hb2⟩ : ∃ b : Nat,bA c.pg c.st p = (b : Int) := ⟨(bA c.pg c.st p).toNat,by omega⟩
 have l0 : b0 < ws.length := by omega
 have l1 : b1 < ws.length := by omega
 have l2 : b2 < ws.length := by omega
 have P0 := hQQ ((page0 (st:=c.st) hp).trans hb0)
 have P1 := hQQ ((page1 (st:=c.st) hp).trans hb1)
 have P2 := hQQ ((page2 (st:=c.st) hp).trans hb2)
 have hv : put3V c.pg c.st p k x ws = ((ws.set b0 k).set b1 x).set b2 0 := by unfold put3V; rw [hb0,hb1,hb2]; rfl
 rw [hv]
 clear hv hb0 hb1 hb2 q0 q1 q2 q3 q4 q5 hp
 have hc := row_new w c.cells 30
 have HR := hQQ R
 have HH := hQQ H
 have hgl := hw.lt
 obtain ⟨w1,e1⟩ : ∃ w1,w.alloc (.cells c.cells 30) = w1 := ⟨_,rfl⟩
 have m1 : More w w1 := by rw [← e1]; exact (More.refl w).alloc _
 rw [e1] at hc
 have HC := hQQ hc
 have HM := hQQ m1
 have HW := hQQ (hw.more m1)
 have x2 : w1.cell? ⟨w.heap.size,2,none⟩ = some (.int .i64 c.pg) := cell_more hc (More.refl _) rfl
 have X2 := hQQ x2
 have pg1 := R.pg1
 have pg2 := R.pg2
 clear x2 m1 hw R H hc
 have T1 : Hid (Turned (fun b => b = g) w1 w1) := hQQ (Turned.refl _ _)
 have KC : Hid (∀ W,Turned (fun b => b = g) w1 W → W.heap[w.heap.size]? = some (.cells c.cells 30 (0,0))) := hQQ fun W t => (t.block _ (lt_of_heap HC.out) (by omega)).trans HC.out
 go_enter Tryz.func114,Tryz.ntmps114
 go_wp2_with (refine wpList_load_rowG rfl 30 _ rfl _ rfl 30 _ _ _ HC.out Tryz.underlying30 rfl (by kernel_rfl) ?_)
 clear e1
 refine (y_rkind HR.out p _).mono ?_
 rw [P0.out]
 rintro e wa ⟨rfl,ha⟩
 have Ta : Hid (Turned (fun b => b = g) w1 wa) := hQQ (T1.out.trans (turned_more ha))
 have Xa := hQQ (HW.out.more ha)
 clear ha
 have cb := Xa.out.cell (i:=b0) l0
 have fb := Xa.out.froz b0
 have lb := Xa.out.lt
 obtain ⟨wb,eb⟩ : ∃ wb,World.setCell wa ⟨g,b0,none⟩ (.int .i64 k) = wb := ⟨_,rfl⟩
 have Xb : Hid (Ws wb g cap (ws.set b0 k)) := hQQ (by rw [← eb]; exact Xa.out.set l0 _)
 have Tb : Hid (Turned (fun b => b = g) w1 wb) := hQQ (by rw [← eb]; exact Turned.setCell Ta.out _ _ (fun _ => rfl))
 have HLb := hQQ (KC.out _ Tb.out)
 go_wp2_with (refine wpList_load_rowG rfl 30 _ rfl _ rfl 30 _ _ _ HLb.out Tryz.underlying30 rfl (by kernel_rfl) ?_)
 clear cb fb lb eb
 refine (y_rcount HR.out p _).mono ?_
 rw [P1.out]
 rintro e wc ⟨rfl,hc⟩
 have Tc : Hid (Turned (fun b => b = g) w1 wc) := hQQ (Tb.out.trans (turned_more hc))
 have Xc := hQQ (Xb.out.more hc)
 clear hc
 have cd := Xc.out.cell (i:=b1) (by simp; omega)
 have fd := Xc.out.froz b1
 have ld := Xc.out.lt
 obtain ⟨wd,ed⟩ : ∃ wd,World.setCell wc ⟨g,b1,none⟩ (.int .i64 x) = wd := ⟨_,rfl⟩
 have Xd : Hid (Ws wd g cap ((ws.set b0 k).set b1 x)) := hQQ (by rw [← ed]; exact Xc.out.set (by simp; omega) _)
 have Td : Hid (Turned (fun b => b = g) w1 wd) := hQQ (by rw [← ed]; exact Turned.setCell Tc.out _ _ (fun _ => rfl))
 have HLd := hQQ (KC.out _ Td.out)
 go_wp2_with (refine wpList_load_rowG rfl 30 _ rfl _ rfl 30 _ _ _ HLd.out Tryz.underlying30 rfl (by kernel_rfl) ?_)
 clear cd fd ld ed
 refine (y_rbits HR.out p _).mono ?_
 rw [P2.out]
 rintro e wf ⟨rfl,hf⟩
 have Tf : Hid (Turned (fun b => b = g) w1 wf) := hQQ (Td.out.trans (turned_more hf))
 have Xf := hQQ (Xd.out.more hf)
 clear hf
 have ch := Xf.out.cell (i:=b2) (by simp; omega)
 have fh := Xf.out.froz b2
 have lh := Xf.out.lt
 obtain ⟨wh,eh⟩ : ∃ wh,World.setCell wf ⟨g,b2,none⟩ (.int .i64 0) = wh := ⟨_,rfl⟩
 have Xh : Hid (Ws wh g cap (((ws.set b0 k).set b1 x).set b2 0)) := hQQ (by rw [← eh]; exact Xf.out.set (by simp; omega) _)
 have Th : Hid (Turned (fun b => b = g) w1 wh) := hQQ (by rw [← eh]; exact Turned.setCell Tf.out _ _ (fun _ => rfl))
 go_wp2_with fail
 clear ch fh lh eh
 go_end0
 exact ⟨rfl,Xh.out,(turned_more HM.out).trans Th.out⟩
theorem r9_open {c : Cfg} (R : c.Ok) (ws : List Int) (H : PgIn c.pg c.st ws.length) (hl : ws.length ≤ 1000) (g cap : Nat) (p n : Int) (mp : Bool) (w : World) (hw : Ws w g cap ws) :
   Calls Tryz.prog 112 #[.agg c.cells,.slice (some ⟨g,0,none⟩) ws.length cap,.int .i64 p,.int .i64 n,.bool mp] w (Gives w (.bool (opV c.pg c.st ws p n mp))) := by
 cases ht : thereB c.pg p n with
 | false =>
   rw [show opV c.pg c.st ws p n mp = false by unfold opV; rw [ht]; rfl]
   have hh : ¬ (0 ≤ p ∧ 1 ≤ n ∧ n ≤ c.pg - p) := fun q => by rw [there_iff.2 q] at ht; cases ht
   clear ht
   have hc := row_new w c.cells 30
   have HR := hQQ R
   have HH := hQQ H
   have hgl := hw.lt
   obtain ⟨w1,e1⟩ : ∃ w1,w.alloc (.cells c.cells 30) = w1 := ⟨_,rfl⟩
   have m1 : More w w1 := by rw [← e1]; exact (More.refl w).alloc _
   rw [e1] at hc
   have HC := hQQ hc
   have HM := hQQ m1
   have HW := hQQ (hw.more m1)
   have x2 : w1.cell? ⟨w.heap.size,2,none⟩ = some (.int .i64 c.pg) := cell_more hc (More.refl _) rfl
   have X2 := hQQ x2
   have pg1 := R.pg1
   have pg2 := R.pg2
   clear x2 m1 hw R H hc
   have x2 := X2.out
   by_cases h0 : p < 0
   · have d1 : decide (p < 0) = true := by simpa using h0
     clear hh h0
     go_enter Tryz.func112,Tryz.ntmps112
     go_wp2_with fail
     go_ret
     exact ⟨rfl,HM.out⟩
   · have d1 : decide (p < 0) = false := by simp; omega
     by_cases h1 : c.pg ≤ p
     · have d2 : decide (c.pg ≤ p) = true := by simpa using h1
       clear hh h0 h1
       go_enter Tryz.func112,Tryz.ntmps112
       go_wp2_with fail
       go_ret
       exact ⟨rfl,HM.out⟩
     · have d2 : decide (c.pg ≤ p) = false := by simp; omega
       by_cases h2 : n < 1
       · have d3 : decide (n < 1) = true := by simpa using h2
         clear hh h0 h1 h2
         go_enter Tryz.func112,Tryz.ntmps112
         go_wp2_with fail
         go_ret
         exact ⟨rfl,HM.out⟩
       · have d3 : decide (n < 1) = false := by simp; omega
         have d4 : decide (c.pg - p < n) = true := by simp; omega
         have q4 : IntKind.i64.wrap (c.pg - p) = c.pg - p := wrap_in (by omega) (by omega)
         clear hh h0 h1 h2
         go_enter Tryz.func112,Tryz.ntmps112
         go_wp2_with fail
         go_ret
         exact ⟨rfl,HM.out⟩
 | true =>
   obtain ⟨t0,t1,t2⟩ := there_iff.1 ht
   obtain ⟨res,hres⟩ : ∃ res,opN c.pg c.st ws mp n.toNat p = res := ⟨_,rfl⟩
   rw [show opV c.pg c.st ws p n mp = res by unfold opV; rw [ht,hres]; rfl]
   have HRES := hQQ hres
   clear ht hres
   have hc := row_new w c.cells 30
   have HR := hQQ R
   have HH := hQQ H
   have hgl := hw.lt
   obtain ⟨w1,e1⟩ : ∃ w1,w.alloc (.cells c.cells 30) = w1 := ⟨_,rfl⟩
   have m1 : More w w1 := by rw [← e1]; exact (More.refl w).alloc _
   rw [e1] at hc
   have HC := hQQ hc
   have HM := hQQ m1
   have HW := hQQ (hw.more m1)
   have x2 : w1.cell? ⟨w.heap.size,2,none⟩ = some (.int .i64 c.pg) := cell_more hc (More.refl _) rfl
   have X2 := hQQ x2
   have pg1 := R.pg1
   have pg2 := R.pg2
   clear x2 m1 hw R H hc
   have x2 := X2.out
   have d1 : decide (p < 0) = false := by simp; omega
   have d2 : decide (c.pg ≤ p) = false := by simp; omega
   have d3 : decide (n < 1) = false := by simp; omega
   have d4 : decide (c.pg - p < n) = false := by simp; omega
   have q4 : IntKind.i64.wrap (c.pg - p) = c.pg - p := wrap_in (by omega) (by omega)
   have q5 : IntKind.i64.wrap (p + n) = p + n := wrap_in (by omega) (by omega)
   go_enter Tryz.func112,Tryz.ntmps112
   go_wp2_with fail
   clear e1 x2 d1 d2 d3 d4 q4
   go_loopw [11] (fun v11 wr => ∃ j : Nat,v11 = .int .i64 (p + (j : Int)) ∧ (j : Int) ≤ n ∧ More w1 wr ∧ opN c.pg c.st ws mp (n.toNat - j) (p + (j : Int)) = res) (fun v11 _ => (p + n - intOf v11).toNat)
   case atStart => exact ⟨0,by simp,by omega,More.refl _,by simpa using HRES.out⟩
   case round =>
     clear HRES
     obtain ⟨j,rfl,hj,htw,hrest⟩ := hrel
     have HT := hQQ htw
     have HC1 := hQQ (htw.block HC.out)
     have HW1 := hQQ (HW.out.more htw)
     clear htw
     obtain ⟨i,hi⟩ : ∃ i : Int,p + (j : Int) = i := ⟨_,rfl⟩
     rw [hi]
     have hi1 : i = p + (j : Int) := hi.symm
     by_cases hlt : i < p + n
     · have d1 : decide (i < p + n) = true := by simpa using hlt
       rw [show n.toNat - j = (n.toNat - (j + 1)) + 1 by omega,hi] at hrest
       have REST := hQQ (show ((decide (kindV c.pg c.st ws i = 0) && (!mp || mappedV c.pg c.st ws (ofV i))) && opN c.pg c.st ws mp (n.toNat - (j + 1)) (i + 1)) = res from hrest)
       have q6 : IntKind.i64.wrap (i + 1) = i + 1 := wrap_in (by omega) (by omega)
       have OF := hQQ (fun W => r_of_more i (by omega) (by omega) W)
       have KD := hQQ (fun W (hW : More wr W) => r9_Kind HR.out ws HH.out hl g cap i W (HW1.out.more hW))
       have MD := hQQ (fun W (hW : More wr W) => r_mapped HR.out ws HH.out.toTblIn hl g cap (ofV i) W (HW1.out.more hW))
       have HI := hQQ hi1
       clear hrest hi hi1
       by_cases hk : kindV c.pg c.st ws i = 0
       · have dk : (kindV c.pg c.st ws i != 0) = false := by simp [hk]
         cases mp with
         | false =>
           have R3 := hQQ (show opN c.pg c.st ws false (n.toNat - (j + 1)) (i + 1) = res from by have h := REST.out; simpa [hk] using h)
           clear hk REST
           go_wp2_with fail
           refine wp_region_more (by kernel_rfl) (by kernel_rfl) ?_
           refine wpQuiet_load_row rfl 30 _ rfl _ rfl 30 _ _ _ (fun W hW => hW.block HC1.out) Tryz.underlying30 rfl (by kernel_rfl) ?_
           iterate 7
             with_reducible refine wpQuiet_step (fun K hK => ?_)
             go_simp
             first
             | (refine hK _ ?_; clear hK K)
             | (apply Exists.intro
                refine ⟨fun W hW => ?_,hK _ ?_⟩
                first
                | (go_at_call 123; exact Calls.more hW (KD.out W hW))
                | (go_simp; try rfl)
                clear hK K)
           iterate 8
             with_reducible refine wpQuiet_step (fun K hK => ?_)
             go_simp
             first
             | (refine hK _ ?_; clear hK K)
             | (apply Exists.intro
                refine ⟨fun W hW => ?_,hK _ ?_⟩
                first
                | (go_simp; try rfl)
                clear hK K)
           refine wpQuiet_nil ?_
           intro w4 m4
           have M4 := hQQ (HT.out.trans m4)
           clear m4
           go_wp2_with fail
           go_roundw
           case rel => exact ⟨j + 1,by rw [HI.out]; go_num,by have := HI.out; omega,M4.out,by have := HI.out; rw [show p + ((j + 1 : Nat) : Int) = i + 1 by omega]; exact R3.out⟩
           case measure => simp [intOf]; omega
         | true =>
           cases hm : mappedV c.pg c.st ws (ofV i) with
           | true =>
             rw [hm] at MD
             have R3 := hQQ (show opN c.pg c.st ws true (n.toNat - (j + 1)) (i + 1) = res from by have h := REST.out; simpa [hk,hm] using h)
             clear hk hm REST
             go_wp2_with fail
             refine wp_region_more (by kernel_rfl) (by kernel_rfl) ?_
             refine wpQuiet_load_row rfl 30 _ rfl _ rfl 30 _ _ _ (fun W hW => hW.block HC1.out) Tryz.underlying30 rfl (by kernel_rfl) ?_
             iterate 7
               with_reducible refine wpQuiet_step (fun K hK => ?_)
               go_simp
               first
               | (refine hK _ ?_; clear hK K)
               | (apply Exists.intro
                  refine ⟨fun W hW => ?_,hK _ ?_⟩
                  first
                  | (go_at_call 123; exact Calls.more hW (KD.out W hW))
                  | (go_simp; try rfl)
                  clear hK K)
             refine wpQuiet_load_row rfl 30 _ rfl _ rfl 30 _ _ _ (fun W hW => hW.block HC1.out) Tryz.underlying30 rfl (by kernel_rfl) ?_
             iterate 7
               with_reducible refine wpQuiet_step (fun K hK => ?_)
               go_simp
               first
               | (refine hK _ ?_; clear hK K)
               | (apply Exists.intro
                  refine ⟨fun W hW => ?_,hK _ ?_⟩
                  first
                  | (go_at_call 152; exact Calls.more hW (OF.out W))
                  | (go_at_call 151; exact Calls.more hW (MD.out W hW))
                  | (go_simp; try rfl)
                  clear hK K)
             refine wpQuiet_nil ?_
             intro w4 m4
             have M4 := hQQ (HT.out.trans m4)
             clear m4
             go_wp2_with fail
             go_roundw
             case rel => exact ⟨j + 1,by rw [HI.out]; go_num,by have := HI.out; omega,M4.out,by have := HI.out; rw [show p + ((j + 1 : Nat) : Int) = i + 1 by omega]; exact R3.out⟩
             case measure => simp [intOf]; omega
           | false =>
             rw [hm] at MD
             have HF := hQQ (show false = res from by have h := REST.out; simpa [hk,hm] using h)
             clear hk hm REST
             go_wp2_with fail
             refine wp_region_more (by kernel_rfl) (by kernel_rfl) ?_
             refine wpQuiet_load_row rfl 30 _ rfl _ rfl 30 _ _ _ (fun W hW => hW.block HC1.out) Tryz.underlying30 rfl (by kernel_rfl) ?_
             iterate 7
               with_reducible refine wpQuiet_step (fun K hK => ?_)
               go_simp
               first
               | (refine hK _ ?_; clear hK K)
               | (apply Exists.intro
                  refine ⟨fun W hW => ?_,hK _ ?_⟩
                  first
                  | (go_at_call 123; exact Calls.more hW (KD.out W hW))
                  | (go_simp; try rfl)
                  clear hK K)
             refine wpQuiet_load_row rfl 30 _ rfl _ rfl 30 _ _ _ (fun W hW => hW.block HC1.out) Tryz.underlying30 rfl (by kernel_rfl) ?_
             iterate 7
               with_reducible refine wpQuiet_step (fun K hK => ?_)
               go_simp
               first
               | (refine hK _ ?_; clear hK K)
               | (apply Exists.intro
                  refine ⟨fun W hW => ?_,hK _ ?_⟩
                  first
                  | (go_at_call 152; exact Calls.more hW (OF.out W))
                  | (go_at_call 151; exact Calls.more hW (MD.out W hW))
                  | (go_simp; try rfl)
                  clear hK K)
             refine wpQuiet_nil ?_
             intro w4 m4
             have M4 := hQQ (HT.out.trans m4)
             clear m4
             go_wp2_with fail
             go_ret
             exact ⟨by have h := HF.out; subst h; rfl,HM.out.trans M4.out⟩
       · have dk : (kindV c.pg c.st ws i != 0) = true := by simpa using hk
         have HF := hQQ (show false = res from by have h := REST.out; simpa [hk] using h)
         clear hk REST
         go_wp2_with fail
         refine wp_region_more (by kernel_rfl) (by kernel_rfl) ?_
         refine wpQuiet_load_row rfl 30 _ rfl _ rfl 30 _ _ _ (fun W hW => hW.block HC1.out) Tryz.underlying30 rfl (by kernel_rfl) ?_
         iterate 7
           with_reducible refine wpQuiet_step (fun K hK => ?_)
           go_simp
           first
           | (refine hK _ ?_; clear hK K)
           | (apply Exists.intro
              refine ⟨fun W hW => ?_,hK _ ?_⟩
              first
              | (go_at_call 123; exact Calls.more hW (KD.out W hW))
              | (go_simp; try rfl)
              clear hK K)
         iterate 8
           with_reducible refine wpQuiet_step (fun K hK => ?_)
           go_simp
           first
           | (refine hK _ ?_; clear hK K)
           | (apply Exists.intro
              refine ⟨fun W hW => ?_,hK _ ?_⟩
              first
              | (go_simp; try rfl)
              clear hK K)
         refine wpQuiet_nil ?_
         intro w4 m4
         have M4 := hQQ (HT.out.trans m4)
         clear m4
         go_wp2_with fail
         go_ret
         exact ⟨by have h := HF.out; subst h; rfl,HM.out.trans M4.out⟩
     · have d1 : decide (i < p + n) = false := by simpa using hlt
       rw [show n.toNat - j = 0 by omega] at hrest
       have he : true = res := hrest
       subst he
       have FIN := hQQ (HM.out.trans HT.out)
       clear hrest hi hi1
       go_wp2_with fail
       go_ret
       exact ⟨rfl,FIN.out⟩
section
variable {c : Cfg} {ws : List Int} {n step res : Int}
theorem FIN1 (n1 : 1 ≤ n) (s1 : 1 ≤ step) (hpg : 0 ≤ c.pg) {p : Int} (p0 : 0 ≤ p) (pm : p % step = 0) (ho : opV c.pg c.st ws p n true = true) (hb : ∀ q,0 ≤ q → q < p → q % step = 0 → opV c.pg c.st ws q n true = false) (hres : (if leastV (openB c.pg c.st ws) c.pg n step = -1 then leastV (freeB c.pg c.st ws) c.pg n step else leastV (openB c.pg c.st ws) c.pg n step) = res) : p = res := by
 have h : leastV (openB c.pg c.st ws) c.pg n step = p := find_first n1 s1 hpg p0 pm true ho hb
 rw [h,if_neg (by omega)] at hres
 exact hres
theorem FIN2 (n1 : 1 ≤ n) (s1 : 1 ≤ step) (hpg : 0 ≤ c.pg) (hn : ∀ q,0 ≤ q → q < c.pg → q % step = 0 → opV c.pg c.st ws q n true = false) {p : Int} (p0 : 0 ≤ p) (pm : p % step = 0) (ho : opV c.pg c.st ws p n false = true) (hb : ∀ q,0 ≤ q → q < p → q % step = 0 → opV c.pg c.st ws q n false = false) (hres : (if leastV (openB c.pg c.st ws) c.pg n step = -1 then leastV (freeB c.pg c.st ws) c.pg n step else leastV (openB c.pg c.st ws) c.pg n step) = res) : p = res := by
 have h0 : leastV (openB c.pg c.st ws) c.pg n step = -1 := find_none n1 s1 hpg true hn
 have h : leastV (freeB c.pg c.st ws) c.pg n step = p := find_first n1 s1 hpg p0 pm false ho hb
 rw [h0,if_pos rfl,h] at hres
 exact hres
theorem FIN3 (n1 : 1 ≤ n) (s1 : 1 ≤ step) (hpg : 0 ≤ c.pg) (hn : ∀ q,0 ≤ q → q < c.pg → q % step = 0 → opV c.pg c.st ws q n true = false) (hb : ∀ q,0 ≤ q → q < c.pg → q % step = 0 → opV c.pg c.st ws q n false = false) (hres : (if leastV (openB c.pg c.st ws) c.pg n step = -1 then leastV (freeB c.pg c.st ws) c.pg n step else leastV (openB c.pg c.st ws) c.pg n step) = res) : -1 = res := by
 have h0 : leastV (openB c.pg c.st ws) c.pg n step = -1 := find_none n1 s1 hpg true hn
 have h : leastV (freeB c.pg c.st ws) c.pg n step = -1 := find_none n1 s1 hpg false hb
 rw [h0,if_pos rfl,h] at hres
 exact hres
end
theorem r9_Find {c : Cfg} (R : c.Ok) (ws : List Int) (H : PgIn c.pg c.st ws.length) (hl : ws.length ≤ 1000) (g cap : Nat) (n step : Int) (w : World) (hw : Ws w g cap ws) :
   Calls Tryz.prog 76 #[.agg c.cells,.slice (some ⟨g,0,none⟩) ws.length cap,.int .i64 n,.int .i64 step] w (Gives w (.int .i64 (findV c.pg c.st n step ws))) := by
 by_cases hn : 1 ≤ n ∧ 1 ≤ step
 · obtain ⟨n1,s1⟩ := hn
   obtain ⟨res,hres⟩ : ∃ res,(if leastV (openB c.pg c.st ws) c.pg n step = -1 then leastV (freeB c.pg c.st ws) c.pg n step else leastV (openB c.pg c.st ws) c.pg n step) = res := ⟨_,rfl⟩
   rw [show findV c.pg c.st n step ws = res by unfold findV; rw [if_pos ⟨n1,s1⟩,hres]]
   have HRES := hQQ hres
   clear hres
   have hc := row_new w c.cells 30
   have HR := hQQ R
   have HH := hQQ H
   have hgl := hw.lt
   obtain ⟨w1,e1⟩ : ∃ w1,w.alloc (.cells c.cells 30) = w1 := ⟨_,rfl⟩
   have m1 : More w w1 := by rw [← e1]; exact (More.refl w).alloc _
   rw [e1] at hc
   have HC := hQQ hc
   have HM := hQQ m1
   have HW := hQQ (hw.more m1)
   have x2 : w1.cell? ⟨w.heap.size,2,none⟩ = some (.int .i64 c.pg) := cell_more hc (More.refl _) rfl
   have X2 := hQQ x2
   have pg1 := R.pg1
   have pg2 := R.pg2
   clear x2 m1 hw R H hc
   have d2 : decide (n < 1) = false := by simp; omega
   have d3 : decide (step < 1) = false := by simp; omega
   have nz : (step == 0) = false := by simp; omega
   have nz1 : (step == -1) = false := by simp; omega
   go_enter Tryz.func76,Tryz.ntmps76
   go_wp2_with fail
   clear e1 d2 d3
   go_loopw [9] (fun v wr => ∃ j : Nat,v = .int .i64 (j : Int) ∧ (j : Int) ≤ c.pg ∧ More w1 wr ∧ ∀ q,0 ≤ q → q < (j : Int) → q % step = 0 → opV c.pg c.st ws q n true = false) (fun v _ => c.pg.toNat - (intOf v).toNat)
   case atStart => exact ⟨0,rfl,by omega,(More.refl _),fun q h0 h1 => by omega⟩
   case round =>
     obtain ⟨j,rfl,hj,htw,hno⟩ := hrel
     have HT := hQQ htw
     have HC1 := hQQ (htw.block HC.out)
     have X21 := hQQ (htw.cell X2.out)
     have HW1 := hQQ (HW.out.more htw)
     have q6 : IntKind.i64.wrap ((j : Int) + 1) = (j : Int) + 1 := wrap_in (by omega) (by omega)
     have HNO := hQQ hno
     clear htw hno
     by_cases hlt : (j : Int) < c.pg
     · have d1 : decide ((j : Int) < c.pg) = true := by simpa using hlt
       by_cases z : (j : Int).tmod step = 0
       · have dz : ((j : Int).tmod step == 0) = true := by simp [z]
         have z3 : (j : Int) % step = 0 := by rwa [Int.tmod_eq_emod_of_nonneg (by omega)] at z
         have Z3 := hQQ z3
         clear z dz
         go_wp2_with (first | (refine wpList_load_rowG rfl 30 _ rfl _ rfl 30 _ _ _ HC1.out Tryz.underlying30 rfl (by kernel_rfl) ?_) | (refine wpList_load_int rfl 3 _ rfl w.heap.size _ rfl .i64 Tryz.underlying3 _ X21.out ?_))
         refine (r9_open HR.out ws HH.out hl g cap (j : Int) n true wr HW1.out).mono ?_
         cases ho : opV c.pg c.st ws (j : Int) n true with
         | true =>
           rintro e w3 ⟨rfl,h3⟩
           have M3 := hQQ (HM.out.trans (HT.out.trans h3))
           have hfin := FIN1 n1 s1 (by omega) (by omega) Z3.out ho HNO.out HRES.out
           have HF := hQQ hfin
           clear h3 ho hfin
           go_wp2_with fail
           go_ret
           exact ⟨by have h := HF.out; subst h; rfl,M3.out⟩
         | false =>
           rintro e w3 ⟨rfl,h3⟩
           have M3 := hQQ (HT.out.trans h3)
           have NO := hQQ (show ∀ q,0 ≤ q → q < ((j + 1 : Nat) : Int) → q % step = 0 → opV c.pg c.st ws q n true = false from fun q h0 h1 hq => by
             by_cases e : q = (j : Int)
             · rw [e]; exact ho
             · exact HNO.out q h0 (by omega) hq)
           clear h3 ho
           go_wp2_with fail
           go_roundw
           case rel => exact ⟨j + 1,by go_num,by omega,M3.out,NO.out⟩
           case measure => simp [intOf]; omega
       · have dz : ((j : Int).tmod step == 0) = false := by simp [z]
         have z3 : ¬ (j : Int) % step = 0 := by rwa [Int.tmod_eq_emod_of_nonneg (by omega)] at z
         have NO := hQQ (show ∀ q,0 ≤ q → q < ((j + 1 : Nat) : Int) → q % step = 0 → opV c.pg c.st ws q n true = false from fun q h0 h1 hq => by
           by_cases e : q = (j : Int)
           · rw [e] at hq; exact absurd hq z3
           · exact HNO.out q h0 (by omega) hq)
         have dz1 : ((j : Int) % step == 0) = false := by simpa using z3
         have dz2 : decide ((j : Int) % step = 0) = false := by simpa using z3
         clear z dz
         go_wp2_with (refine wpList_load_int rfl 3 _ rfl w.heap.size _ rfl .i64 Tryz.underlying3 _ X21.out ?_)
         go_roundw
         case rel => exact ⟨j + 1,by go_num,by omega,HT.out,NO.out⟩
         case measure => simp [intOf]; omega
     · have d1 : decide ((j : Int) < c.pg) = false := by simpa using hlt
       have NO := hQQ (show ∀ q,0 ≤ q → q < c.pg → q % step = 0 → opV c.pg c.st ws q n true = false from fun q h0 h1 hq => HNO.out q h0 (by omega) hq)
       have TT := hQQ HT.out
       clear hlt
       skip
       clear HNO HT HC1 HW1 q6
       have NO1 := NO
       go_wp2_with (refine wpList_load_int rfl 3 _ rfl w.heap.size _ rfl .i64 Tryz.underlying3 _ X21.out ?_)
       clear d1 NO X21
       go_loopw [10] (fun v wr => ∃ j : Nat,v = .int .i64 (j : Int) ∧ (j : Int) ≤ c.pg ∧ More w1 wr ∧ ∀ q,0 ≤ q → q < (j : Int) → q % step = 0 → opV c.pg c.st ws q n false = false) (fun v _ => c.pg.toNat - (intOf v).toNat)
       case atStart => exact ⟨0,rfl,by omega,TT.out,fun q h0 h1 => by omega⟩
       case round =>
         obtain ⟨j,rfl,hj,htw,hno⟩ := hrel
         have HT := hQQ htw
         have HC1 := hQQ (htw.block HC.out)
         have X21 := hQQ (htw.cell X2.out)
         have HW1 := hQQ (HW.out.more htw)
         have q6 : IntKind.i64.wrap ((j : Int) + 1) = (j : Int) + 1 := wrap_in (by omega) (by omega)
         have HNO := hQQ hno
         clear htw hno
         by_cases hlt : (j : Int) < c.pg
         · have d1 : decide ((j : Int) < c.pg) = true := by simpa using hlt
           by_cases z : (j : Int).tmod step = 0
           · have dz : ((j : Int).tmod step == 0) = true := by simp [z]
             have z3 : (j : Int) % step = 0 := by rwa [Int.tmod_eq_emod_of_nonneg (by omega)] at z
             have Z3 := hQQ z3
             clear z dz
             go_wp2_with (first | (refine wpList_load_rowG rfl 30 _ rfl _ rfl 30 _ _ _ HC1.out Tryz.underlying30 rfl (by kernel_rfl) ?_) | (refine wpList_load_int rfl 3 _ rfl w.heap.size _ rfl .i64 Tryz.underlying3 _ X21.out ?_))
             refine (r9_open HR.out ws HH.out hl g cap (j : Int) n false wr HW1.out).mono ?_
             cases ho : opV c.pg c.st ws (j : Int) n false with
             | true =>
               rintro e w3 ⟨rfl,h3⟩
               have M3 := hQQ (HM.out.trans (HT.out.trans h3))
               have hfin := FIN2 n1 s1 (by omega) NO1.out (by omega) Z3.out ho HNO.out HRES.out
               have HF := hQQ hfin
               clear h3 ho hfin
               go_wp2_with fail
               go_ret
               exact ⟨by have h := HF.out; subst h; rfl,M3.out⟩
             | false =>
               rintro e w3 ⟨rfl,h3⟩
               have M3 := hQQ (HT.out.trans h3)
               have NO := hQQ (show ∀ q,0 ≤ q → q < ((j + 1 : Nat) : Int) → q % step = 0 → opV c.pg c.st ws q n false = false from fun q h0 h1 hq => by
                 by_cases e : q = (j : Int)
                 · rw [e]; exact ho
                 · exact HNO.out q h0 (by omega) hq)
               clear h3 ho
               go_wp2_with fail
               go_roundw
               case rel => exact ⟨j + 1,by go_num,by omega,M3.out,NO.out⟩
               case measure => simp [intOf]; omega
           · have dz : ((j : Int).tmod step == 0) = false := by simp [z]
             have z3 : ¬ (j : Int) % step = 0 := by rwa [Int.tmod_eq_emod_of_nonneg (by omega)] at z
             have NO := hQQ (show ∀ q,0 ≤ q → q < ((j + 1 : Nat) : Int) → q % step = 0 → opV c.pg c.st ws q n false = false from fun q h0 h1 hq => by
               by_cases e : q = (j : Int)
               · rw [e] at hq; exact absurd hq z3
               · exact HNO.out q h0 (by omega) hq)
             have dz1 : ((j : Int) % step == 0) = false := by simpa using z3
             have dz2 : decide ((j : Int) % step = 0) = false := by simpa using z3
             clear z dz
             go_wp2_with (refine wpList_load_int rfl 3 _ rfl w.heap.size _ rfl .i64 Tryz.underlying3 _ X21.out ?_)
             go_roundw
             case rel => exact ⟨j + 1,by go_num,by omega,HT.out,NO.out⟩
             case measure => simp [intOf]; omega
         · have d1 : decide ((j : Int) < c.pg) = false := by simpa using hlt
           have NO := hQQ (show ∀ q,0 ≤ q → q < c.pg → q % step = 0 → opV c.pg c.st ws q n false = false from fun q h0 h1 hq => HNO.out q h0 (by omega) hq)
           have TT := hQQ HT.out
           clear hlt
           skip
           have HF := hQQ (FIN3 n1 s1 (by omega) NO1.out NO.out HRES.out)
           go_wp2_with (refine wpList_load_int rfl 3 _ rfl w.heap.size _ rfl .i64 Tryz.underlying3 _ X21.out ?_)
           go_ret
           exact ⟨by have h := HF.out; subst h; rfl,HM.out.trans TT.out⟩
 · have d : n < 1 ∨ step < 1 := by omega
   rw [show findV c.pg c.st n step ws = -1 by unfold findV; rw [if_neg hn]]
   clear hn
   have hc := row_new w c.cells 30
   have HR := hQQ R
   have HH := hQQ H
   have hgl := hw.lt
   obtain ⟨w1,e1⟩ : ∃ w1,w.alloc (.cells c.cells 30) = w1 := ⟨_,rfl⟩
   have m1 : More w w1 := by rw [← e1]; exact (More.refl w).alloc _
   rw [e1] at hc
   have HC := hQQ hc
   have HM := hQQ m1
   have HW := hQQ (hw.more m1)
   have x2 : w1.cell? ⟨w.heap.size,2,none⟩ = some (.int .i64 c.pg) := cell_more hc (More.refl _) rfl
   have X2 := hQQ x2
   have pg1 := R.pg1
   have pg2 := R.pg2
   clear x2 m1 hw R H hc
   by_cases h0 : n < 1
   · have d2 : decide (n < 1) = true := by simpa using h0
     go_enter Tryz.func76,Tryz.ntmps76
     go_wp2_with fail
     go_ret
     exact ⟨rfl,HM.out⟩
   · have d2 : decide (n < 1) = false := by simpa using h0
     have d3 : decide (step < 1) = true := by simp; omega
     go_enter Tryz.func76,Tryz.ntmps76
     go_wp2_with fail
     go_ret
     exact ⟨rfl,HM.out⟩
theorem r9_Take {c : Cfg} (R : c.Ok) (ws : List Int) (H : PgIn c.pg c.st ws.length) (hl : ws.length ≤ 1000) (g cap : Nat) (p n k : Int) (hp64 : W64 p) (w : World) (hw : Ws w g cap ws) :
   Calls Tryz.prog 77 #[.agg c.cells,.slice (some ⟨g,0,none⟩) ws.length cap,.int .i64 p,.int .i64 n,.int .i64 k] w (RowTo w g cap (.bool (takeV c.pg c.st p n k ws).1) (takeV c.pg c.st p n k ws).2) := by
 have OP := hQQ (fun W hW => by have := r9_open R ws H hl g cap p n false W hW; rw [opV_vac] at this; exact this)
 cases hv : vacB c.pg c.st p n ws with
 | false =>
   rw [show takeV c.pg c.st p n k ws = (false,ws) by unfold takeV; rw [hv,Bool.and_false]; rfl]
   rw [hv] at OP
   clear hv
   have hc := row_new w c.cells 30
   have HR := hQQ R
   have HH := hQQ H
   have hgl := hw.lt
   obtain ⟨w1,e1⟩ : ∃ w1,w.alloc (.cells c.cells 30) = w1 := ⟨_,rfl⟩
   have m1 : More w w1 := by rw [← e1]; exact (More.refl w).alloc _
   rw [e1] at hc
   have HC := hQQ hc
   have HM := hQQ m1
   have HW := hQQ (hw.more m1)
   have x2 : w1.cell? ⟨w.heap.size,2,none⟩ = some (.int .i64 c.pg) := cell_more hc (More.refl _) rfl
   have X2 := hQQ x2
   have pg1 := R.pg1
   have pg2 := R.pg2
   clear x2 m1 hw R H hc
   go_enter Tryz.func77,Tryz.ntmps77
   go_wp2_with (refine wpList_load_rowG rfl 30 _ rfl _ rfl 30 _ _ _ HC.out Tryz.underlying30 rfl (by kernel_rfl) ?_)
   clear e1
   refine (OP.out _ HW.out).mono ?_
   rintro e w3 ⟨rfl,h3⟩
   have M3 := hQQ h3
   clear h3
   go_wp2_with fail
   go_ret
   exact ⟨rfl,HW.out.more M3.out,turned_more (HM.out.trans M3.out)⟩
 | true =>
   have HV := hQQ hv
   rw [hv] at OP
   cases hf : fitB k n with
   | false =>
     rw [show takeV c.pg c.st p n k ws = (false,ws) by unfold takeV; rw [hf,Bool.false_and]; rfl]
     have hf2 : ¬ (k = 6 ∨ (1 ≤ k ∧ k ≤ 5 ∧ n = 1)) := fun q => by rw [fit_iff.2 q] at hf; cases hf
     clear hv hf
     have hc := row_new w c.cells 30
     have HR := hQQ R
     have HH := hQQ H
     have hgl := hw.lt
     obtain ⟨w1,e1⟩ : ∃ w1,w.alloc (.cells c.cells 30) = w1 := ⟨_,rfl⟩
     have m1 : More w w1 := by rw [← e1]; exact (More.refl w).alloc _
     rw [e1] at hc
     have HC := hQQ hc
     have HM := hQQ m1
     have HW := hQQ (hw.more m1)
     have x2 : w1.cell? ⟨w.heap.size,2,none⟩ = some (.int .i64 c.pg) := cell_more hc (More.refl _) rfl
     have X2 := hQQ x2
     have pg1 := R.pg1
     have pg2 := R.pg2
     clear x2 m1 hw R H hc
     by_cases k1 : k < 1
     · have d1 : decide (k < 1) = true := by simpa using k1
       clear k1 hf2
       go_enter Tryz.func77,Tryz.ntmps77
       go_wp2_with (refine wpList_load_rowG rfl 30 _ rfl _ rfl 30 _ _ _ HC.out Tryz.underlying30 rfl (by kernel_rfl) ?_)
       clear e1
       refine (OP.out _ HW.out).mono ?_
       rintro e w3 ⟨rfl,h3⟩
       have M3 := hQQ h3
       clear h3
       go_wp2_with fail
       go_ret
       exact ⟨rfl,HW.out.more M3.out,turned_more (HM.out.trans M3.out)⟩
     · have d1 : decide (k < 1) = false := by simp; omega
       by_cases k6 : 6 < k
       · have d2 : decide (6 < k) = true := by simpa using k6
         clear k1 k6 hf2
         go_enter Tryz.func77,Tryz.ntmps77
         go_wp2_with (refine wpList_load_rowG rfl 30 _ rfl _ rfl 30 _ _ _ HC.out Tryz.underlying30 rfl (by kernel_rfl) ?_)
         clear e1
         refine (OP.out _ HW.out).mono ?_
         rintro e w3 ⟨rfl,h3⟩
         have M3 := hQQ h3
         clear h3
         go_wp2_with fail
         go_ret
         exact ⟨rfl,HW.out.more M3.out,turned_more (HM.out.trans M3.out)⟩
       · have d2 : decide (6 < k) = false := by simp; omega
         have d3 : decide (k < 6) = true := by simp; omega
         have d4 : (n != 1) = true := by simp; omega
         clear k1 k6 hf2
         go_enter Tryz.func77,Tryz.ntmps77
         go_wp2_with (refine wpList_load_rowG rfl 30 _ rfl _ rfl 30 _ _ _ HC.out Tryz.underlying30 rfl (by kernel_rfl) ?_)
         clear e1
         refine (OP.out _ HW.out).mono ?_
         rintro e w3 ⟨rfl,h3⟩
         have M3 := hQQ h3
         clear h3
         go_wp2_with fail
         go_ret
         exact ⟨rfl,HW.out.more M3.out,turned_more (HM.out.trans M3.out)⟩
   | true =>
     have hf2 := fit_iff.1 hf
     have hth := (vacB_iff.1 hv).1
     obtain ⟨t0,t1,t2⟩ := there_iff.1 hth
     obtain ⟨a0,ha0⟩ : ∃ a0,(ensureW c.pg c.st p n ws).2 = a0 := ⟨_,rfl⟩
     have al : a0.length = ws.length := by rw [← ha0]; exact (tab_ens H hth rfl).len
     have TK : Hid (takeV c.pg c.st p n k ws = (true,put3V c.pg c.st p k (if k = 6 then n else 0) (putNV c.pg c.st 7 n.toNat p a0))) := hQQ (by
       unfold takeV
       rw [hf,hv,take_same H al hth,ha0]
       rfl)
     have ST := hQQ (fun (a : List Int) (e : a.length = ws.length) (q : Int) (hq : isPage c.pg q = true) (k x : Int) (W : World) (hW : Ws W g cap a) => by have := r9_set R a (by rw [e]; exact H) (by omega) g cap q k x hq W hW; rw [e] at this; exact this)
     have EN := hQQ (fun W hW => by have := r_ensure R ws H.toTblIn hl g cap p n hp64 W hW; rw [ha0] at this; exact this)
     have HA : Hid (∀ m : Nat,(putNV c.pg c.st 7 m p a0).length = ws.length) := hQQ fun m => (putN_len H 7 m p a0).trans al
     have HAL := hQQ al
     rw [TK.out]
     have q5 : IntKind.i64.wrap (p + n) = p + n := by have := R.pg2; exact wrap_in (by omega) (by omega)
     clear ha0 al hv hf hth
     have SN := hQQ (fun (j : Nat) => putN_snoc H 7 j p a0)
     clear TK
     have hc := row_new w c.cells 30
     have HR := hQQ R
     have HH := hQQ H
     have hgl := hw.lt
     obtain ⟨w1,e1⟩ : ∃ w1,w.alloc (.cells c.cells 30) = w1 := ⟨_,rfl⟩
     have m1 : More w w1 := by rw [← e1]; exact (More.refl w).alloc _
     rw [e1] at hc
     have HC := hQQ hc
     have HM := hQQ m1
     have HW := hQQ (hw.more m1)
     have x2 : w1.cell? ⟨w.heap.size,2,none⟩ = some (.int .i64 c.pg) := cell_more hc (More.refl _) rfl
     have X2 := hQQ x2
     have pg1 := R.pg1
     have pg2 := R.pg2
     clear x2 m1 hw R H hc
     have KC : Hid (∀ W,Turned (fun b => b = g) w1 W → W.heap[w.heap.size]? = some (.cells c.cells 30 (0,0))) := hQQ fun W t => (t.block _ (lt_of_heap HC.out) (by omega)).trans HC.out
     have d1 : decide (k < 1) = false := by simp; omega
     have d2 : decide (6 < k) = false := by simp; omega
     obtain ⟨b3,hb3⟩ : ∃ b3,decide (k < 6) = b3 := ⟨_,rfl⟩
     have d4 : b3 = true → (n != 1) = false := fun e => by rw [← hb3] at e; have := of_decide_eq_true e; simp; omega
     go_enter Tryz.func77,Tryz.ntmps77
     cases b3 with
     | true =>
       have d4 := d4 rfl
       have hk : (k == 6) = false := by have := of_decide_eq_true hb3; simp; omega
       have hx : (if k = 6 then n else 0) = 0 := if_neg (by have := of_decide_eq_true hb3; omega)
       rw [hx]
       clear hx
       go_wp2_with (refine wpList_load_rowG rfl 30 _ rfl _ rfl 30 _ _ _ HC.out Tryz.underlying30 rfl (by kernel_rfl) ?_)
       clear e1
       refine (OP.out _ HW.out).mono ?_
       rintro e w3 ⟨rfl,h3⟩
       have M3 := hQQ h3
       have HC3 := hQQ (h3.block HC.out)
       clear h3
       go_wp2_with (refine wpList_load_rowG rfl 30 _ rfl _ rfl 30 _ _ _ HC3.out Tryz.underlying30 rfl (by kernel_rfl) ?_)
       refine (EN.out _ (HW.out.more M3.out)).mono ?_
       rintro e w4 ⟨rfl,hw4,ht4⟩
       have W4 := hQQ hw4
       have T4 : Hid (Turned (fun b => b = g) w1 w4) := hQQ ((turned_more M3.out).trans ht4)
       clear hw4 ht4
       go_wp2_with fail
       go_loopw [11] (fun v11 wr => ∃ j : Nat,v11 = .int .i64 (p + (j : Int)) ∧ (j : Int) ≤ n ∧ Ws wr g cap (putNV c.pg c.st 7 j p a0) ∧ Turned (fun b => b = g) w1 wr) (fun v11 _ => (p + n - intOf v11).toNat)
       case atStart => exact ⟨0,by simp,by omega,W4.out,T4.out⟩
       case round =>
         obtain ⟨j,rfl,hj,hwr,htr⟩ := hrel
         have WR := hQQ hwr
         have TR := hQQ htr
         have HC5 := hQQ (KC.out _ htr)
         clear hwr htr
         obtain ⟨i,hi⟩ : ∃ i : Int,p + (j : Int) = i := ⟨_,rfl⟩
         rw [hi]
         by_cases hlt : i < p + n
         · have d5 : decide (i < p + n) = true := by simpa using hlt
           have q6 : IntKind.i64.wrap (i + 1) = i + 1 := wrap_in (by omega) (by omega)
           have SJ := hQQ (SN.out j)
           have HI := hQQ hi
           rw [hi] at SJ
           clear hi
           go_wp2_with (refine wpList_load_rowG rfl 30 _ rfl _ rfl 30 _ _ _ HC5.out Tryz.underlying30 rfl (by kernel_rfl) ?_)
           refine (ST.out _ (HA.out j) i (isPage_iff.2 ⟨by have := HI.out; omega,by omega⟩) 7 0 wr WR.out).mono ?_
           rintro e w5 ⟨rfl,hw5,ht5⟩
           have W5 := hQQ hw5
           have T5 := hQQ (TR.out.trans ht5)
           clear hw5 ht5
           go_wp2_with fail
           go_roundw
           case rel => exact ⟨j + 1,by rw [show p + ((j + 1 : Nat) : Int) = i + 1 by have := HI.out; omega],by have := HI.out; omega,by rw [SJ.out]; exact W5.out,T5.out⟩
           case measure => simp [intOf]; omega
         · have d5 : decide (i < p + n) = false := by simpa using hlt
           have hjn : j = n.toNat := by omega
           clear hi hlt
           subst hjn
           go_wp2_with (refine wpList_load_rowG rfl 30 _ rfl _ rfl 30 _ _ _ HC5.out Tryz.underlying30 rfl (by kernel_rfl) ?_)
           refine (ST.out _ (HA.out _) p (isPage_iff.2 ⟨by omega,by omega⟩) k 0 wr WR.out).mono ?_
           rintro e w5 ⟨rfl,hw5,ht5⟩
           have W5 := hQQ hw5
           have T5 := hQQ (TR.out.trans ht5)
           clear hw5 ht5
           go_wp2_with fail
           go_ret
           exact ⟨rfl,W5.out,(turned_more HM.out).trans T5.out⟩
     | false =>
       clear d4
       have hk6 : k = 6 := by have := of_decide_eq_false hb3; omega
       have hk : (k == 6) = true := by simp [hk6]
       rw [if_pos hk6]
       clear hk6
       go_wp2_with (refine wpList_load_rowG rfl 30 _ rfl _ rfl 30 _ _ _ HC.out Tryz.underlying30 rfl (by kernel_rfl) ?_)
       clear e1
       refine (OP.out _ HW.out).mono ?_
       rintro e w3 ⟨rfl,h3⟩
       have M3 := hQQ h3
       have HC3 := hQQ (h3.block HC.out)
       clear h3
       go_wp2_with (refine wpList_load_rowG rfl 30 _ rfl _ rfl 30 _ _ _ HC3.out Tryz.underlying30 rfl (by kernel_rfl) ?_)
       refine (EN.out _ (HW.out.more M3.out)).mono ?_
       rintro e w4 ⟨rfl,hw4,ht4⟩
       have W4 := hQQ hw4
       have T4 : Hid (Turned (fun b => b = g) w1 w4) := hQQ ((turned_more M3.out).trans ht4)
       clear hw4 ht4
       go_wp2_with fail
       go_loopw [11] (fun v11 wr => ∃ j : Nat,v11 = .int .i64 (p + (j : Int)) ∧ (j : Int) ≤ n ∧ Ws wr g cap (putNV c.pg c.st 7 j p a0) ∧ Turned (fun b => b = g) w1 wr) (fun v11 _ => (p + n - intOf v11).toNat)
       case atStart => exact ⟨0,by simp,by omega,W4.out,T4.out⟩
       case round =>
         obtain ⟨j,rfl,hj,hwr,htr⟩ := hrel
         have WR := hQQ hwr
         have TR := hQQ htr
         have HC5 := hQQ (KC.out _ htr)
         clear hwr htr
         obtain ⟨i,hi⟩ : ∃ i : Int,p + (j : Int) = i := ⟨_,rfl⟩
         rw [hi]
         by_cases hlt : i < p + n
         · have d5 : decide (i < p + n) = true := by simpa using hlt
           have q6 : IntKind.i64.wrap (i + 1) = i + 1 := wrap_in (by omega) (by omega)
           have SJ := hQQ (SN.out j)
           have HI := hQQ hi
           rw [hi] at SJ
           clear hi
           go_wp2_with (refine wpList_load_rowG rfl 30 _ rfl _ rfl 30 _ _ _ HC5.out Tryz.underlying30 rfl (by kernel_rfl) ?_)
           refine (ST.out _ (HA.out j) i (isPage_iff.2 ⟨by have := HI.out; omega,by omega⟩) 7 0 wr WR.out).mono ?_
           rintro e w5 ⟨rfl,hw5,ht5⟩
           have W5 := hQQ hw5
           have T5 := hQQ (TR.out.trans ht5)
           clear hw5 ht5
           go_wp2_with fail
           go_roundw
           case rel => exact ⟨j + 1,by rw [show p + ((j + 1 : Nat) : Int) = i + 1 by have := HI.out; omega],by have := HI.out; omega,by rw [SJ.out]; exact W5.out,T5.out⟩
           case measure => simp [intOf]; omega
         · have d5 : decide (i < p + n) = false := by simpa using hlt
           have hjn : j = n.toNat := by omega
           clear hi hlt
           subst hjn
           go_wp2_with (refine wpList_load_rowG rfl 30 _ rfl _ rfl 30 _ _ _ HC5.out Tryz.underlying30 rfl (by kernel_rfl) ?_)
           refine (ST.out _ (HA.out _) p (isPage_iff.2 ⟨by omega,by omega⟩) k n wr WR.out).mono ?_
           rintro e w5 ⟨rfl,hw5,ht5⟩
           have W5 := hQQ hw5
           have T5 := hQQ (TR.out.trans ht5)
           clear hw5 ht5
           go_wp2_with fail
           go_ret
           exact ⟨rfl,W5.out,(turned_more HM.out).trans T5.out⟩
theorem r9_Drop {c : Cfg} (R : c.Ok) (ws : List Int) (H : PgIn c.pg c.st ws.length) (hl : ws.length ≤ 1000) (wf : Wf c.pg c.st ws) (g cap : Nat) (p : Int) (w : World) (hw : Ws w g cap ws) :
   Calls Tryz.prog 88 #[.agg c.cells,.slice (some ⟨g,0,none⟩) ws.length cap,.int .i64 p] w (RowTo w g cap (.int .i64 (dropV c.pg c.st p ws).1) (dropV c.pg c.st p ws).2) := by
 have KD := hQQ (fun (a : List Int) (e : a.length = ws.length) (q : Int) (W : World) (hW : Ws W g cap a) => by have := r9_Kind R a (by rw [e]; exact H) (by omega) g cap q W hW; rw [e] at this; exact this)
 have ST := hQQ (fun (a : List Int) (e : a.length = ws.length) (q : Int) (hq : isPage c.pg q = true) (k x : Int) (W : World) (hW : Ws W g cap a) => by have := r9_set R a (by rw [e]; exact H) (by omega) g cap q k x hq W hW; rw [e] at this; exact this)
 have K0 := hQQ (fun W hW => KD.out ws rfl p W hW)
 have S0 := hQQ (fun hq W hW => ST.out ws rfl p hq 0 0 W hW)
 obtain ⟨k,hk⟩ : ∃ k,kindV c.pg c.st ws p = k := ⟨_,rfl⟩
 rw [hk] at K0
 by_cases k1 : k < 1
 · rw [show dropV c.pg c.st p ws = (0,ws) by unfold dropV lenV; rw [hk,show clsB k = false by unfold clsB; simp; omega,if_neg (by simp),if_neg (by omega)]; rfl]
   clear hk wf
   have hc := row_new w c.cells 30
   have HR := hQQ R
   have HH := hQQ H
   have hgl := hw.lt
   obtain ⟨w1,e1⟩ : ∃ w1,w.alloc (.cells c.cells 30) = w1 := ⟨_,rfl⟩
   have m1 : More w w1 := by rw [← e1]; exact (More.refl w).alloc _
   rw [e1] at hc
   have HC := hQQ hc
   have HM := hQQ m1
   have HW := hQQ (hw.more m1)
   have x2 : w1.cell? ⟨w.heap.size,2,none⟩ = some (.int .i64 c.pg) := cell_more hc (More.refl _) rfl
   have X2 := hQQ x2
   have pg1 := R.pg1
   have pg2 := R.pg2
   clear x2 m1 hw R H hc
   have d1 : decide (k < 1) = true := by simpa using k1
   clear k1
   go_enter Tryz.func88,Tryz.ntmps88
   go_wp2_with (refine wpList_load_rowG rfl 30 _ rfl _ rfl 30 _ _ _ HC.out Tryz.underlying30 rfl (by kernel_rfl) ?_)
   clear e1
   refine (K0.out _ HW.out).mono ?_
   rintro e w3 ⟨rfl,h3⟩
   have M3 := hQQ h3
   clear h3
   go_wp2_with fail
   go_ret
   exact ⟨rfl,HW.out.more M3.out,turned_more (HM.out.trans M3.out)⟩
 · by_cases k6 : 6 < k
   · rw [show dropV c.pg c.st p ws = (0,ws) by unfold dropV lenV; rw [hk,show clsB k = false by unfold clsB; simp; omega,if_neg (by simp),if_neg (by omega)]; rfl]
     clear hk wf
     have hc := row_new w c.cells 30
     have HR := hQQ R
     have HH := hQQ H
     have hgl := hw.lt
     obtain ⟨w1,e1⟩ : ∃ w1,w.alloc (.cells c.cells 30) = w1 := ⟨_,rfl⟩
     have m1 : More w w1 := by rw [← e1]; exact (More.refl w).alloc _
     rw [e1] at hc
     have HC := hQQ hc
     have HM := hQQ m1
     have HW := hQQ (hw.more m1)
     have x2 : w1.cell? ⟨w.heap.size,2,none⟩ = some (.int .i64 c.pg) := cell_more hc (More.refl _) rfl
     have X2 := hQQ x2
     have pg1 := R.pg1
     have pg2 := R.pg2
     clear x2 m1 hw R H hc
     have d1 : decide (k < 1) = false := by simpa using k1
     have d2 : decide (6 < k) = true := by simpa using k6
     clear k1 k6
     go_enter Tryz.func88,Tryz.ntmps88
     go_wp2_with (refine wpList_load_rowG rfl 30 _ rfl _ rfl 30 _ _ _ HC.out Tryz.underlying30 rfl (by kernel_rfl) ?_)
     clear e1
     refine (K0.out _ HW.out).mono ?_
     rintro e w3 ⟨rfl,h3⟩
     have M3 := hQQ h3
     clear h3
     go_wp2_with fail
     go_ret
     exact ⟨rfl,HW.out.more M3.out,turned_more (HM.out.trans M3.out)⟩
   · have hpp := page_of (pg:=c.pg) (st:=c.st) (ws:=ws) (p:=p) (by omega)
     have hp := isPage_iff.2 hpp
     have d1 : decide (k < 1) = false := by simpa using k1
     have d2 : decide (6 < k) = false := by simpa using k6
     by_cases e6 : k = 6
     · obtain ⟨r1,r2,r3,r4⟩ := wf.run p (hk.trans e6)
       obtain ⟨m,hm⟩ : ∃ m : Nat,cntV c.pg c.st ws p = (m : Int) := ⟨(cntV c.pg c.st ws p).toNat,by omega⟩
       rw [hm] at r1 r2 r3 r4
       have HD : Hid (dropV c.pg c.st p ws = ((m : Int),putNV c.pg c.st 0 m p ws)) := hQQ (by
         have hlen : lenV c.pg c.st p ws = (m : Int) := by
           unfold lenV
           rw [hk,e6,show clsB 6 = false by decide,if_neg (by simp),if_pos rfl,hm]
           omega
         unfold dropV
         rw [hlen]
         simp)
       rw [HD.out]
       have SN := hQQ (fun (j : Nat) => putN_snoc H 0 j p ws)
       have HA : Hid (∀ j : Nat,(putNV c.pg c.st 0 j p ws).length = ws.length) := hQQ fun j => putN_len H 0 j p ws
       have KN : Hid (∀ j : Nat,(j : Int) ≤ m → kindV c.pg c.st (putNV c.pg c.st 0 j p ws) (p + (j : Int)) = kindV c.pg c.st ws (p + (j : Int))) := hQQ fun j hj => by
         rw [kind_putN H 0 j p ws rfl (fun i hi => isPage_iff.2 ⟨by omega,by omega⟩) (p + (j : Int)),if_neg (by omega)]
       have RUN := hQQ (And.intro r3 r4)
       have dk : (k == 6) = true := by simp [e6]
       clear HD hk hm wf r3 r4 k1 k6 e6
       have HP := hQQ hp
       clear hp
       have hc := row_new w c.cells 30
       have HR := hQQ R
       have HH := hQQ H
       have hgl := hw.lt
       obtain ⟨w1,e1⟩ : ∃ w1,w.alloc (.cells c.cells 30) = w1 := ⟨_,rfl⟩
       have m1 : More w w1 := by rw [← e1]; exact (More.refl w).alloc _
       rw [e1] at hc
       have HC := hQQ hc
       have HM := hQQ m1
       have HW := hQQ (hw.more m1)
       have x2 : w1.cell? ⟨w.heap.size,2,none⟩ = some (.int .i64 c.pg) := cell_more hc (More.refl _) rfl
       have X2 := hQQ x2
       have pg1 := R.pg1
       have pg2 := R.pg2
       clear x2 m1 hw R H hc
       have KC : Hid (∀ W,Turned (fun b => b = g) w1 W → W.heap[w.heap.size]? = some (.cells c.cells 30 (0,0))) := hQQ fun W t => (t.block _ (lt_of_heap HC.out) (by omega)).trans HC.out
       go_enter Tryz.func88,Tryz.ntmps88
       go_wp2_with (refine wpList_load_rowG rfl 30 _ rfl _ rfl 30 _ _ _ HC.out Tryz.underlying30 rfl (by kernel_rfl) ?_)
       clear e1
       refine (K0.out _ HW.out).mono ?_
       rintro e w3 ⟨rfl,h3⟩
       have M3 := hQQ h3
       have HC3 := hQQ (h3.block HC.out)
       clear h3
       go_wp2_with (refine wpList_load_rowG rfl 30 _ rfl _ rfl 30 _ _ _ HC3.out Tryz.underlying30 rfl (by kernel_rfl) ?_)
       refine (S0.out HP.out _ (HW.out.more M3.out)).mono ?_
       rintro e w4 ⟨rfl,hw4,ht4⟩
       have W4 := hQQ hw4
       have T4 : Hid (Turned (fun b => b = g) w1 w4) := hQQ ((turned_more M3.out).trans ht4)
       clear hw4 ht4
       go_wp2_with fail
       go_loopw [8] (fun v8 wr => ∃ j : Nat,v8 = .int .i64 (j : Int) ∧ 1 ≤ j ∧ j ≤ m ∧ Ws wr g cap (putNV c.pg c.st 0 j p ws) ∧ Turned (fun b => b = g) w1 wr) (fun v8 _ => m - (intOf v8).toNat)
       case atStart => exact ⟨1,rfl,by omega,by omega,W4.out,T4.out⟩
       case round =>
         obtain ⟨j,rfl,hj1,hj,hwr,htr⟩ := hrel
         have WR := hQQ hwr
         have TR := hQQ htr
         have HC5 := hQQ (KC.out _ htr)
         have q5 : IntKind.i64.wrap (p + (j : Int)) = p + (j : Int) := wrap_in (by omega) (by omega)
         have q6 : IntKind.i64.wrap ((j : Int) + 1) = (j : Int) + 1 := wrap_in (by omega) (by omega)
         have KJ := hQQ (fun W hW => by have := KD.out _ (HA.out j) (p + (j : Int)) W hW; rw [KN.out j (by omega)] at this; exact this)
         clear hwr htr
         by_cases hlt : j < m
         · have h7 := RUN.out.1 (p + (j : Int)) (by omega) (by omega)
           rw [h7] at KJ
           have SJ := hQQ (SN.out j)
           clear h7
           go_wp2_with (refine wpList_load_rowG rfl 30 _ rfl _ rfl 30 _ _ _ HC5.out Tryz.underlying30 rfl (by kernel_rfl) ?_)
           refine (KJ.out wr WR.out).mono ?_
           rintro e w5 ⟨rfl,h5⟩
           have W5 := hQQ (WR.out.more h5)
           have T5 := hQQ (TR.out.trans (turned_more h5))
           have HC6 := hQQ (KC.out _ T5.out)
           clear h5
           go_wp2_with (refine wpList_load_rowG rfl 30 _ rfl _ rfl 30 _ _ _ HC6.out Tryz.underlying30 rfl (by kernel_rfl) ?_)
           refine (ST.out _ (HA.out j) (p + (j : Int)) (isPage_iff.2 ⟨by omega,by omega⟩) 0 0 w5 W5.out).mono ?_
           rintro e w6 ⟨rfl,hw6,ht6⟩
           have W6 := hQQ hw6
           have T6 := hQQ (T5.out.trans ht6)
           clear hw6 ht6
           go_wp2_with fail
           go_roundw
           case rel => exact ⟨j + 1,by go_num,by omega,by omega,by rw [SJ.out]; exact W6.out,T6.out⟩
           case measure => simp [intOf]; omega
         · obtain rfl : j = m := by omega
           have h7 : (kindV c.pg c.st ws (p + (j : Int)) == 7) = false := by simpa using RUN.out.2
           clear hlt
           go_wp2_with (refine wpList_load_rowG rfl 30 _ rfl _ rfl 30 _ _ _ HC5.out Tryz.underlying30 rfl (by kernel_rfl) ?_)
           refine (KJ.out wr WR.out).mono ?_
           rintro e w5 ⟨rfl,h5⟩
           have W5 := hQQ (WR.out.more h5)
           have T5 := hQQ (TR.out.trans (turned_more h5))
           clear h5
           go_wp2_with fail
           go_ret
           exact ⟨rfl,W5.out,(turned_more HM.out).trans T5.out⟩
     · rw [show dropV c.pg c.st p ws = (1,put3V c.pg c.st p 0 0 ws) by unfold dropV lenV; rw [hk,show clsB k = true by unfold clsB; simp; omega,if_pos rfl]; rfl]
       have dk : (k == 6) = false := by simp; omega
       clear hk wf k1 k6 e6
       have HP := hQQ hp
       clear hp
       have hc := row_new w c.cells 30
       have HR := hQQ R
       have HH := hQQ H
       have hgl := hw.lt
       obtain ⟨w1,e1⟩ : ∃ w1,w.alloc (.cells c.cells 30) = w1 := ⟨_,rfl⟩
       have m1 : More w w1 := by rw [← e1]; exact (More.refl w).alloc _
       rw [e1] at hc
       have HC := hQQ hc
       have HM := hQQ m1
       have HW := hQQ (hw.more m1)
       have x2 : w1.cell? ⟨w.heap.size,2,none⟩ = some (.int .i64 c.pg) := cell_more hc (More.refl _) rfl
       have X2 := hQQ x2
       have pg1 := R.pg1
       have pg2 := R.pg2
       clear x2 m1 hw R H hc
       have KC : Hid (∀ W,Turned (fun b => b = g) w1 W → W.heap[w.heap.size]? = some (.cells c.cells 30 (0,0))) := hQQ fun W t => (t.block _ (lt_of_heap HC.out) (by omega)).trans HC.out
       go_enter Tryz.func88,Tryz.ntmps88
       go_wp2_with (refine wpList_load_rowG rfl 30 _ rfl _ rfl 30 _ _ _ HC.out Tryz.underlying30 rfl (by kernel_rfl) ?_)
       clear e1
       refine (K0.out _ HW.out).mono ?_
       rintro e w3 ⟨rfl,h3⟩
       have M3 := hQQ h3
       have HC3 := hQQ (h3.block HC.out)
       clear h3
       go_wp2_with (refine wpList_load_rowG rfl 30 _ rfl _ rfl 30 _ _ _ HC3.out Tryz.underlying30 rfl (by kernel_rfl) ?_)
       refine (S0.out HP.out _ (HW.out.more M3.out)).mono ?_
       rintro e w4 ⟨rfl,hw4,ht4⟩
       have W4 := hQQ hw4
       have T4 : Hid (Turned (fun b => b = g) w1 w4) := hQQ ((turned_more M3.out).trans ht4)
       clear hw4 ht4
       go_wp2_with fail
       go_loopw [8] (fun v8 wr => v8 = .int .i64 1 ∧ Ws wr g cap (put3V c.pg c.st p 0 0 ws) ∧ Turned (fun b => b = g) w1 wr) (fun _ _ => 0)
       case atStart => exact ⟨rfl,W4.out,T4.out⟩
       case round =>
         obtain ⟨rfl,hwr,htr⟩ := hrel
         have WR := hQQ hwr
         have TR := hQQ htr
         clear hwr htr
         go_wp2_with fail
         go_ret
         exact ⟨rfl,WR.out,(turned_more HM.out).trans TR.out⟩
end Go.Proofs.YtflihdcliknggaaGreatDoor
