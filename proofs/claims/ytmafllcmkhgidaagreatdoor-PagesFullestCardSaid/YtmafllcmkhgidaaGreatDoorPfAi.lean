/-
  The landed package plist: what a word leads to, joining two pages.
-/
import Derived.Test.YtmafllcmkhgidaaGreatDoorPfAh
import Derived.Test.YtmafllcmkhgidaaGreatDoorPfAe
import Derived.ScopeJumps
import Derived.WalkMore
set_option maxRecDepth 100000
set_option maxHeartbeats 8000000
set_option linter.unusedVariables false
set_option linter.unusedSimpArgs false
set_option linter.unusedSectionVars false
namespace Go.Proofs.YtmafllcmkhgidaaGreatDoor
open Go.RowKit Go.Sort Go.Maps Go.Shelf
theorem y_next {c : Cfg} (R : c.Ok) (w : World) (k : Int) : Calls Tryz.prog 95 #[.agg c.arr,.int .i64 k] w (Gives w (.int .i64 (pageV c.pg c.st 3 k))) := xnext R w k
theorem y_prev {c : Cfg} (R : c.Ok) (w : World) (k : Int) : Calls Tryz.prog 96 #[.agg c.arr,.int .i64 k] w (Gives w (.int .i64 (pageV c.pg c.st 4 k))) := xprev R w k
theorem y_head {c : Cfg} (R : c.Ok) (w : World) (k f : Int) : Calls Tryz.prog 59 #[.agg c.arr,.int .i64 k,.int .i64 f] w (Gives w (.int .i64 (headV c.pg c.st k f))) := xhead R w k f
theorem pl_there {c : Cfg} (R : c.Ok) {n : Nat} (H : HdIn c.pg c.st n) (q : Int) (w : World) : Calls Tryz.prog 79 #[.agg c.arr,.int .i64 q] w (Gives w (.bool (isPage c.pg q))) := by
 have hz : (pageV c.pg c.st 3 q != 0) = isPage c.pg q := by
   cases h : isPage c.pg q with
   | true => rw [page3 h]; have := (nv_b H h).1.1; simp; omega
   | false => rw [pageN h]; rfl
 obtain ⟨w1,e1,hl1,m1,s1⟩ := entry1 w (.cells c.arr 28)
 have L0 := hQQ hl1
 have MM := hQQ m1
 have HR := hQQ R
 clear hl1 m1 R H
 go_enter Tryz.func79,Tryz.ntmps79
 go_wp2_with (refine wpList_load_rowG rfl 28 _ rfl _ rfl 28 _ _ _ L0.out Tryz.underlying28 rfl (by kernel_rfl) ?_)
 refine (y_next HR.out _ q).mono ?_
 rintro e w2 ⟨rfl,h2⟩
 have H2 := hQQ (MM.out.trans h2)
 clear h2
 go_wp2_with fail
 go_ret
 first
 | exact ⟨rfl,H2.out⟩
 | exact ⟨by rw [← hz],H2.out⟩
theorem pl_leads {c : Cfg} (R : c.Ok) {n : Nat} (H : HdIn c.pg c.st n) (F : Nat → Prop) (p : Nat) (kn : Int → Option Int) (D : List KV) (a : Int) (ha : W64 a) (hn : a < n) (w : World) (hv : ViewAt w F p kn D) (hk : OkK kn) (hD : InvD n D) :
   Calls Tryz.prog 58 #[.pointer (some ⟨p,0,none⟩),.agg c.arr,.int .i64 a] w (WentV w F p kn (fun x => .int .i64 x) (plLeadP c.pg a kn D)) := by
 obtain ⟨Rr,hRr⟩ : ∃ Rr,plLeadP c.pg a kn D = Rr := ⟨_,rfl⟩
 rw [hRr]
 obtain ⟨w1,e1,hl1,m1,s1⟩ := entry1 w (.cells c.arr 28)
 have nFl : ¬ F w.heap.size := fun q => by have := hv.lt _ q; omega
 have MM := hQQ m1
 have L0 := hQQ hl1
 have M0 : Hid (MidV w1 w1 F (fun _ => False) p kn n D F) := hQQ (MidV.begin (hv.more m1) hD)
 have KL : Hid (∀ wr D' F',MidV w1 wr F (fun _ => False) p kn n D' F' → wr.heap[w.heap.size]? = some (.cells c.arr 28 (0,0))) := hQQ fun wr D' F' h => mid_own h L0.out nFl (fun q => q)
 have NEED : Hid (∀ a w2,Rr = .need a → DeadAt w2 p a → Turned (fun b => F b ∨ False) w1 w2 → WentV w F p kn (fun x : Int => Value.int .i64 x) Rr (.panicked (endOf p)) w2) := hQQ fun a w2 e hd ht => mid_need MM.out (fun _ q => q.elim) e hd ht
 have DONE : Hid (∀ x w2 D' F',Rr = .ok x D' → MidV w1 w2 F (fun _ => False) p kn n D' F' → WentV w F p kn (fun x : Int => Value.int .i64 x) Rr (.returned ((fun x : Int => Value.int .i64 x) x)) w2) := hQQ fun x w2 D' F' e h => mid_done MM.out (fun _ q => q.elim) h e
 have HK := hQQ hk
 have HR := hQQ R
 have HH := hQQ H
 clear hl1 m1 hv hD hk R H nFl
 unfold plLeadP at hRr
 by_cases a0 : a = 0
 · rw [if_pos a0] at hRr
   have d0 : (a == 0) = true := by simp [a0]
   have FIN := hQQ (DONE.out (-1) w1 D F hRr.symm M0.out)
   clear hRr a0
   go_enter Tryz.func58,Tryz.ntmps58
   go_wp2_with fail
   go_ret
   exact FIN.out
 · rw [if_neg a0] at hRr
   have d0 : (a == 0) = false := by simp [a0]
   have HRr := hQQ hRr
   clear hRr a0
   go_enter Tryz.func58,Tryz.ntmps58
   go_wp2_with fail
   refine (read_any F p kn D a w1 M0.out.view ha).mono ?_
   intro e w2 he
   rcases M0.out.step (More.refl _) HK.out (good_read n hn) he with ⟨a',hE,rfl,hd',ht',_⟩ | ⟨x2,D2,F2,hE,rfl,M2,hq2,_,_⟩
   · exact ⟨rfl,NEED.out a' w2 (HRr.out.symm.trans (bindP_need hE)) hd' ht'⟩
   have L2 := hQQ (KL.out _ _ _ M2)
   have R2 := hQQ ((bindP_ok hE).symm.trans HRr.out)
   have M2 := hQQ M2
   clear he hE
   have HV := hQQ (show Rr = .ok (plWord c.pg x2) D2 from R2.out.symm)
   clear R2
   unfold plWord at HV
   obtain ⟨y,qy⟩ : ∃ y,IntKind.i64.wrap (x2 - 1) = y := ⟨_,rfl⟩
   rw [qy] at HV
   go_wp2_with (refine wpList_load_rowG rfl 28 _ rfl _ rfl 28 _ _ _ L2.out Tryz.underlying28 rfl (by kernel_rfl) ?_)
   clear qy
   refine (pl_there HR.out HH.out y _).mono ?_
   rintro e w3 ⟨rfl,h3⟩
   have M3 := hQQ (M2.out.more h3)
   clear h3
   cases hb : isPage c.pg y with
   | true =>
     have FIN := hQQ (DONE.out y w3 D2 F2 (by have := HV.out; rw [if_pos hb] at this; exact this) M3.out)
     clear HV hb
     go_wp2_with fail
     go_ret
     exact FIN.out
   | false =>
     have FIN := hQQ (DONE.out (-1) w3 D2 F2 (by have := HV.out; rw [if_neg (by rw [hb]; simp)] at this; exact this) M3.out)
     clear HV hb
     go_wp2_with fail
     go_ret
     exact FIN.out
theorem pl_join {c : Cfg} (R : c.Ok) {n : Nat} (H : HdIn c.pg c.st n) (hn : n ≤ 10000) (F : Nat → Prop) (p : Nat) (kn : Int → Option Int) (D : List KV) (h x y : Int) (h1 : W64 h) (h2 : h < n) (hx : x = -1 ∨ isPage c.pg x = true) (hy : y = -1 ∨ isPage c.pg y = true) (w : World) (hv : ViewAt w F p kn D) (hk : OkK kn) (hD : InvD n D) :
   Calls Tryz.prog 94 #[.pointer (some ⟨p,0,none⟩),.agg c.arr,.int .i64 h,.int .i64 x,.int .i64 y] w (WentV w F p kn (fun _ : Unit => .tuple #[]) (plJoinP c.pg c.st h x y kn D)) := by
 obtain ⟨Rr,hRr⟩ : ∃ Rr,plJoinP c.pg c.st h x y kn D = Rr := ⟨_,rfl⟩
 rw [hRr]
 obtain ⟨w1,e1,hl1,m1,s1⟩ := entry1 w (.cells c.arr 28)
 have nFl : ¬ F w.heap.size := fun q => by have := hv.lt _ q; omega
 have MM := hQQ m1
 have L0 := hQQ hl1
 have M0 : Hid (MidV w1 w1 F (fun _ => False) p kn n D F) := hQQ (MidV.begin (hv.more m1) hD)
 have KL : Hid (∀ wr D' F',MidV w1 wr F (fun _ => False) p kn n D' F' → wr.heap[w.heap.size]? = some (.cells c.arr 28 (0,0))) := hQQ fun wr D' F' h => mid_own h L0.out nFl (fun q => q)
 have NEED : Hid (∀ a w2,Rr = .need a → DeadAt w2 p a → Turned (fun b => F b ∨ False) w1 w2 → WentV w F p kn (fun _ : Unit => Value.tuple #[]) Rr (.panicked (endOf p)) w2) := hQQ fun a w2 e hd ht => mid_need MM.out (fun _ q => q.elim) e hd ht
 have DONE : Hid (∀ x w2 D' F',Rr = .ok x D' → MidV w1 w2 F (fun _ => False) p kn n D' F' → WentV w F p kn (fun _ : Unit => Value.tuple #[]) Rr (.returned ((fun _ : Unit => Value.tuple #[]) x)) w2) := hQQ fun x w2 D' F' e h => mid_done MM.out (fun _ q => q.elim) h e
 have HK := hQQ hk
 have HR := hQQ R
 have HH := hQQ H
 clear hl1 m1 hv hD hk R H nFl
 unfold plJoinP at hRr
 have pg2 := HR.out.pg2
 have hxw := pageW HH.out hx
 have hyw := pageW HH.out hy
 have qx : IntKind.i64.wrap (x + 1) = x + 1 := wrap_in hxw.1 hxw.2
 have qy : IntKind.i64.wrap (y + 1) = y + 1 := wrap_in hyw.1 hyw.2
 have GX := hQQ hxw
 have GY := hQQ hyw
 have PX := hQQ hx
 have PY := hQQ hy
 have PH := hQQ (And.intro h1 h2)
 clear hxw hyw hx hy h1 h2
 by_cases ex : x = -1
 · have d0 : (x == -1) = true := by simp [ex]
   rw [if_pos ex] at hRr
   have HRr := hQQ hRr
   clear hRr ex
   go_enter Tryz.func94,Tryz.ntmps94
   go_wp2_with fail
   refine (write_any F p kn D h (y + 1) w1 M0.out.view (by have := M0.out.inv.len; omega)).mono ?_
   intro e w2 he
   rcases M0.out.step (More.refl _) HK.out (good_write n PH.out.1 PH.out.2 GY.out) he with ⟨a',hE,rfl,hd',ht',_⟩ | ⟨x2,D2,F2,hE,rfl,M2,hq2,_,_⟩
   · exact ⟨rfl,NEED.out a' w2 (HRr.out.symm.trans (bindP_need hE)) hd' ht'⟩
   have L2 := hQQ (KL.out _ _ _ M2)
   have R2 := hQQ ((bindP_ok hE).symm.trans HRr.out)
   have M2 := hQQ M2
   clear he hE
   by_cases ey : y = -1
   · have d1 : (y != -1) = false := by simp [ey]
     have FIN := hQQ (DONE.out () w2 D2 F2 (by have := R2.out; rw [if_pos ey] at this; exact this.symm) M2.out)
     clear R2 ey
     go_wp2_with fail
     go_end0
     exact FIN.out
   · have d1 : (y != -1) = true := by simp [ey]
     have hpy := PY.out.resolve_left ey
     have P4 := hQQ (page4 (st:=c.st) hpy)
     have NY := hQQ (nv_b HH.out hpy)
     have R2' := hQQ (by have := R2.out; rw [if_neg ey] at this; exact this)
     clear R2 ey hpy
     go_wp2_with (refine wpList_load_rowG rfl 28 _ rfl _ rfl 28 _ _ _ L2.out Tryz.underlying28 rfl (by kernel_rfl) ?_)
     refine (y_prev HR.out _ y).mono ?_
     rw [P4.out]
     rintro e w3 ⟨rfl,h3⟩
     have M3 := hQQ (M2.out.more h3)
     clear h3
     go_wp2_with fail
     refine (write_any F2 p kn D2 _ (x + 1) w3 M3.out.view (by have := M3.out.inv.len; omega)).mono ?_
     intro e w4 he
     rcases M3.out.step (More.refl _) HK.out (good_write n NY.out.2.2.2 NY.out.2.2.1 GX.out) he with ⟨a',hE,rfl,hd',ht',_⟩ | ⟨x4,D4,F4,hE,rfl,M4,hq4,_,_⟩
     · exact ⟨rfl,NEED.out a' w4 (R2'.out.symm.trans hE) hd' ht'⟩
     have FIN := hQQ (DONE.out () w4 D4 F4 (R2'.out.symm.trans hE) M4)
     clear he hE M4
     go_wp2_with fail
     go_end0
     exact FIN.out
 · have d0 : (x == -1) = false := by simp [ex]
   rw [if_neg ex] at hRr
   have hpx := PX.out.resolve_left ex
   have HRr := hQQ hRr
   have P3 := hQQ (page3 (st:=c.st) hpx)
   have NB := hQQ (nv_b HH.out hpx)
   clear hRr ex hpx
   go_enter Tryz.func94,Tryz.ntmps94
   go_wp2_with (refine wpList_load_rowG rfl 28 _ rfl _ rfl 28 _ _ _ L0.out Tryz.underlying28 rfl (by kernel_rfl) ?_)
   refine (y_next HR.out _ x).mono ?_
   rw [P3.out]
   rintro e w5 ⟨rfl,h5⟩
   have M5 := hQQ (M0.out.more h5)
   clear h5
   go_wp2_with fail
   refine (write_any F p kn D _ (y + 1) w5 M5.out.view (by have := M5.out.inv.len; omega)).mono ?_
   intro e w2 he
   rcases M5.out.step (More.refl _) HK.out (good_write n NB.out.1.2.2 NB.out.1.2.1 GY.out) he with ⟨a',hE,rfl,hd',ht',_⟩ | ⟨x2,D2,F2,hE,rfl,M2,hq2,_,_⟩
   · exact ⟨rfl,NEED.out a' w2 (HRr.out.symm.trans (bindP_need hE)) hd' ht'⟩
   have L2 := hQQ (KL.out _ _ _ M2)
   have R2 := hQQ ((bindP_ok hE).symm.trans HRr.out)
   have M2 := hQQ M2
   clear he hE
   by_cases ey : y = -1
   · have d1 : (y != -1) = false := by simp [ey]
     have FIN := hQQ (DONE.out () w2 D2 F2 (by have := R2.out; rw [if_pos ey] at this; exact this.symm) M2.out)
     clear R2 ey
     go_wp2_with fail
     go_end0
     exact FIN.out
   · have d1 : (y != -1) = true := by simp [ey]
     have hpy := PY.out.resolve_left ey
     have P4 := hQQ (page4 (st:=c.st) hpy)
     have NY := hQQ (nv_b HH.out hpy)
     have R2' := hQQ (by have := R2.out; rw [if_neg ey] at this; exact this)
     clear R2 ey hpy
     go_wp2_with (refine wpList_load_rowG rfl 28 _ rfl _ rfl 28 _ _ _ L2.out Tryz.underlying28 rfl (by kernel_rfl) ?_)
     refine (y_prev HR.out _ y).mono ?_
     rw [P4.out]
     rintro e w3 ⟨rfl,h3⟩
     have M3 := hQQ (M2.out.more h3)
     clear h3
     go_wp2_with fail
     refine (write_any F2 p kn D2 _ (x + 1) w3 M3.out.view (by have := M3.out.inv.len; omega)).mono ?_
     intro e w4 he
     rcases M3.out.step (More.refl _) HK.out (good_write n NY.out.2.2.2 NY.out.2.2.1 GX.out) he with ⟨a',hE,rfl,hd',ht',_⟩ | ⟨x4,D4,F4,hE,rfl,M4,hq4,_,_⟩
     · exact ⟨rfl,NEED.out a' w4 (R2'.out.symm.trans hE) hd' ht'⟩
     have FIN := hQQ (DONE.out () w4 D4 F4 (R2'.out.symm.trans hE) M4)
     clear he hE M4
     go_wp2_with fail
     go_end0
     exact FIN.out
end Go.Proofs.YtmafllcmkhgidaaGreatDoor
namespace Go.Proofs.YtmafllcmkhgidaaGreatDoor
open Go.RowKit
def WentR {α : Type} (w : World) (F : Nat → Prop) (p : Nat) (kn : Int → Option Int) (Post : α → Value → World → (Nat → Prop) → Prop) (R : Res α) (e : Ending) (w' : World) : Prop :=
 match R with
 | .need a => Ended w F p a e w'
 | .ok x D => ∃ v F',e = .returned v ∧ Post x v w' F' ∧ ViewAt w' F' p kn D ∧ Turned F w w' ∧ ∀ k,F' k → F k ∨ w.heap.size ≤ k
def OwnR (b : Nat) (F : Nat → Prop) (w : World) (v : Value) (xs : List Int) : Prop := Rw b w v xs ∧ (∀ k,v.ownBlock = some k → ¬ F k ∧ b ≤ k ∧ k < w.heap.size)
theorem OwnR.nil (b : Nat) (F : Nat → Prop) (w : World) : OwnR b F w (.slice none 0 0) [] := ⟨Rw.nil _ _,fun k q => by cases q⟩
theorem Rw.own {b : Nat} {w : World} {v : Value} {xs : List Int} (h : Rw b w v xs) {k : Nat} (q : v.ownBlock = some k) : b ≤ k ∧ k < w.heap.size := by
 rcases h.2 with ⟨rfl,_⟩ | ⟨g,cap,cur,rfl,hb,hg,_⟩
 · cases q
 · have : g = k := by simpa [Value.ownBlock] using q
   subst this
   exact ⟨hb,lt_of_heap hg⟩
theorem Rw.keepT {b : Nat} {S : Nat → Prop} {w w' : World} {v : Value} {xs : List Int} (h : Rw b w v xs) (t : Turned S w w') (hs : ∀ k,v.ownBlock = some k → ¬ S k) : Rw b w' v xs := by
 refine ⟨h.1,?_⟩
 rcases h.2 with q | ⟨g,cap,cur,rfl,hb,hg,r⟩
 · exact .inl q
 · exact .inr ⟨g,cap,cur,rfl,hb,(t.block g (lt_of_heap hg) (hs g rfl)).trans hg,r⟩
theorem OwnR.more {b : Nat} {F : Nat → Prop} {w w' : World} {v : Value} {xs : List Int} (h : OwnR b F w v xs) (m : More w w') : OwnR b F w' v xs :=
 ⟨h.1.more m,fun k q => ⟨(h.2 k q).1,(h.2 k q).2.1,Nat.lt_of_lt_of_le (h.2 k q).2.2 m.size⟩⟩
theorem OwnR.went {b : Nat} {F F' : Nat → Prop} {w w' : World} {v : Value} {xs : List Int} (h : OwnR b F w v xs) (hk : ∀ k o,¬ F k → w.heap[k]? = some o → w'.heap[k]? = some o) (hf : ∀ k,F' k → F k ∨ w.heap.size ≤ k) : OwnR b F' w' v xs := by
 obtain ⟨r,n⟩ := h
 have key : ∀ k,v.ownBlock = some k → ¬ F' k := fun k q z => by
   rcases hf k z with y | y
   · exact (n k q).1 y
   · have := (n k q).2.2; omega
 rcases r with ⟨h1,q | ⟨g,cap,cur,rfl,hb,hg,rest⟩⟩
 · exact ⟨⟨h1,.inl q⟩,fun k q' => by rw [q.1] at q'; cases q'⟩
 · have hg' := hk g _ (n g rfl).1 hg
   exact ⟨⟨h1,.inr ⟨g,cap,cur,rfl,hb,hg',rest⟩⟩,fun k q => by
     have : g = k := by simpa [Value.ownBlock] using q
     subst this
     exact ⟨key g rfl,hb,lt_of_heap hg'⟩⟩
theorem OwnR.mono {b b' : Nat} {F : Nat → Prop} {w : World} {v : Value} {xs : List Int} (h : OwnR b F w v xs) (hb : b' ≤ b) : OwnR b' F w v xs := ⟨h.1.mono hb,fun k q => ⟨(h.2 k q).1,by have := (h.2 k q).2.1; omega,(h.2 k q).2.2⟩⟩
namespace MidV
variable {W wr w1 w2 : World} {F S F' : Nat → Prop} {p n : Nat} {kn : Int → Option Int} {D : List KV}
theorem stepR {α : Type} {Post : α → Value → World → (Nat → Prop) → Prop} {Q : α → Prop} {pr : Prg α} {e : Ending} (h : MidV W wr F S p kn n D F') (m : More wr w1) (hk : OkK kn) (G : Good n Q pr) (he : WentR w1 F' p kn Post (pr kn D) e w2) :
   (∃ a,pr kn D = .need a ∧ e = .panicked (endOf p) ∧ DeadAt w2 p a ∧ Turned (fun b => F b ∨ S b) W w2 ∧ ∀ b o,¬ F' b → wr.heap[b]? = some o → w2.heap[b]? = some o) ∨
   (∃ x D1 F1 v,pr kn D = .ok x D1 ∧ e = .returned v ∧ Post x v w2 F1 ∧ MidV W w2 F S p kn n D1 F1 ∧ Q x ∧ (∀ b o,¬ F' b → wr.heap[b]? = some o → w2.heap[b]? = some o) ∧ ∀ b,F1 b → F' b ∨ wr.heap.size ≤ b) := by
 have hm := h.more m
 have hs := m.size
 have hK : ∀ t,Turned F' w1 t → ∀ b o,¬ F' b → wr.heap[b]? = some o → t.heap[b]? = some o := fun t ht b o nb hb => (ht.block b (lt_of_heap (m.block hb)) nb).trans (m.block hb)
 cases hE : pr kn D with
 | need a =>
   rw [hE] at he
   obtain ⟨h1,h2,h3⟩ := he
   exact .inl ⟨a,rfl,h1,h2,turned_own hm.turn h3 (fun k q => (h.from' k q).imp .inl id),hK _ h3⟩
 | ok x D1 =>
   rw [hE] at he
   obtain ⟨v,F1,h1,hp,hv,ht,hn⟩ := he
   obtain ⟨i1,q1⟩ := G.ok hk h.inv hE
   refine .inr ⟨x,D1,F1,v,rfl,h1,hp,⟨hv,fun k q => ?_,turned_own hm.turn ht (fun k q => (h.from' k q).imp .inl id),i1⟩,q1,hK _ ht,fun b q => (hn b q).imp id (fun r => by omega)⟩
   rcases hn k q with r | r
   · exact h.from' k r
   · have := hm.size; exact .inr (by omega)
theorem grew {v v' : Value} {b : Nat} {xs ys : List Int} (h : MidV W wr F S p kn n D F') (hr : OwnR b F' wr v xs) (hb : W.heap.size ≤ b) (t : Turned (fun k => v.ownBlock = some k) wr w1) (hr' : Rw b w1 v' ys) (hv' : ∀ k,v'.ownBlock = some k → v.ownBlock = some k ∨ k = wr.heap.size) : MidV W w1 F S p kn n D F' ∧ OwnR b F' w1 v' ys := by
 have lt := h.view.lt
 have hnc : ∀ (k : Nat) es cl,v.ownBlock = some k → wr.heap[k]? ≠ some (.map es cl) := fun k es cl q z => by
   rcases hr.1.2 with ⟨q',_⟩ | ⟨g,cap,cur,q',_,hg,_⟩
   · rw [q'] at q; cases q
   · rw [q'] at q
     have : g = k := by simpa [Value.ownBlock] using q
     subst this
     rw [hg] at z; cases z
 refine ⟨⟨h.view.keepS t (fun k q e => (hr.2 k e).1 q) (fun k es cl e q => hnc k es cl e q),h.from',turned_own h.turn t (fun k q => .inr (by have := (hr.2 k q).2.1; omega)),h.inv⟩,hr',fun k q => ?_⟩
 have hl := hr'.own q
 refine ⟨fun z => ?_,hl.1,hl.2⟩
 rcases hv' k q with r | r
 · exact (hr.2 k r).1 z
 · have := lt k z; omega
end MidV
theorem midR_need {α : Type} {w w1 w2 : World} {F S : Nat → Prop} {p : Nat} {kn : Int → Option Int} {Post : α → Value → World → (Nat → Prop) → Prop} {R : Res α} {a : Int} (m : More w w1) (hS : ∀ b,S b → w.heap.size ≤ b) (hR : R = .need a) (hd : DeadAt w2 p a) (ht : Turned (fun b => F b ∨ S b) w1 w2) : WentR w F p kn Post R (.panicked (endOf p)) w2 := by
 subst hR
 exact ⟨rfl,hd,turned_own (Turned.mono m (fun _ _ q => q.elim)) ht (fun k q => q.imp id (hS k))⟩
theorem midR_done {α : Type} {w w1 w2 : World} {F S F' : Nat → Prop} {p n : Nat} {kn : Int → Option Int} {Post : α → Value → World → (Nat → Prop) → Prop} {R : Res α} {x : α} {D : List KV} {v : Value} (m : More w w1) (hS : ∀ b,S b → w.heap.size ≤ b) (h : MidV w1 w2 F S p kn n D F') (hR : R = .ok x D) (hp : Post x v w2 F') : WentR w F p kn Post R (.returned v) w2 := by
 subst hR
 exact ⟨v,F',rfl,hp,h.view,turned_own (Turned.mono m (fun _ _ q => q.elim)) h.turn (fun k q => q.imp id (hS k)),fun k q => (h.from' k q).imp id (fun r => Nat.le_trans m.size r)⟩
end Go.Proofs.YtmafllcmkhgidaaGreatDoor
namespace Go.Proofs.YtmafllcmkhgidaaGreatDoor
open Go.RowKit Go.Sort Go.Maps Go.Shelf
def ThrPost (b : Nat) (r : List Int × Bool) (v : Value) (w : World) (F : Nat → Prop) : Prop := ∃ u,v = .tuple #[u,.bool r.2] ∧ OwnR b F w u r.1
theorem pl_through {c : Cfg} (R : c.Ok) {n : Nat} (H : HdIn c.pg c.st n) (F : Nat → Prop) (p : Nat) (kn : Int → Option Int) (D : List KV) (q cl f : Int) (w : World) (hv : ViewAt w F p kn D) (hk : OkK kn) (hD : InvD n D) :
   Calls Tryz.prog 93 #[.pointer (some ⟨p,0,none⟩),.agg c.arr,.int .i64 q,.int .i64 cl,.int .i64 f] w (WentR w F p kn (ThrPost w.heap.size) (plThrP c.pg c.st q cl f kn D)) := by
 obtain ⟨Rr,hRr⟩ : ∃ Rr,plThrP c.pg c.st q cl f kn D = Rr := ⟨_,rfl⟩
 rw [hRr]
 obtain ⟨w1,e1,hl1,m1,s1⟩ := entry1 w (.cells c.arr 28)
 have nFl : ¬ F w.heap.size := fun q => by have := hv.lt _ q; omega
 have MM := hQQ m1
 have L0 := hQQ hl1
 have M0 : Hid (MidV w1 w1 F (fun _ => False) p kn n D F) := hQQ (MidV.begin (hv.more m1) hD)
 have KL : Hid (∀ wr D' F',MidV w1 wr F (fun _ => False) p kn n D' F' → wr.heap[w.heap.size]? = some (.cells c.arr 28 (0,0))) := hQQ fun wr D' F' h => mid_own h L0.out nFl (fun q => q)
 have NEED : Hid (∀ a w2,Rr = .need a → DeadAt w2 p a → Turned (fun b => F b ∨ False) w1 w2 → WentR w F p kn (ThrPost w.heap.size) Rr (.panicked (endOf p)) w2) := hQQ fun a w2 e hd ht => midR_need MM.out (fun _ q => q.elim) e hd ht
 have DONE : Hid (∀ x v w2 D' F',Rr = .ok x D' → MidV w1 w2 F (fun _ => False) p kn n D' F' → (ThrPost w.heap.size) x v w2 F' → WentR w F p kn (ThrPost w.heap.size) Rr (.returned v) w2) := hQQ fun x v w2 D' F' e h hp => midR_done MM.out (fun _ q => q.elim) h e hp
 have HK := hQQ hk
 have HR := hQQ R
 have HH := hQQ H
 clear hl1 m1 hv hD hk R H nFl
 unfold plThrP at hRr
 have HRr := hQQ hRr
 have hfl := field_pages c
 have pg1 := HR.out.pg1
 have pg2 := HR.out.pg2
 have hw1 : w.heap.size ≤ w1.heap.size := by omega
 clear hRr
 go_enter Tryz.func93,Tryz.ntmps93
 go_wp2_with fail
 refine wp_scope_jumps 0 (fun a' w' => ∃ (v : Value) (b : Bool) (u12 u13 u14 u15 u16 u17 u18 u19 u20 u21 u22 u23 u24 u25 u26 u27 u28 u29 u30 u31 u32 u33 u34 u35 u36 u37 u38 u39 u40 u41 u42 : Value),a' = { tmps := #[.pointer (some ⟨p,0,none⟩),.agg c.arr,.int .i64 q,.int .i64 cl,.int .i64 f,undef,.pointer (some ⟨w.heap.size,0,none⟩),undef,undef,undef,v,.bool b,u12,u13,u14,u15,u16,u17,u18,u19,u20,u21,u22,u23,u24,u25,u26,u27,u28,u29,u30,u31,u32,u33,u34,u35,u36,u37,u38,u39,u40,u41,u42],defers := [] } ∧ ∃ (l : List Int) (D4 : List KV) (F4 : Nat → Prop),Rr = .ok (l,b) D4 ∧ MidV w1 w' F (fun _ => False) p kn n D4 F4 ∧ OwnR w1.heap.size F4 w' v l) (fun _ _ => 0) rfl ?_ ?_
 · go_wp2_with (refine wpList_load_rowG rfl 28 _ rfl _ rfl 28 _ _ _ L0.out Tryz.underlying28 rfl (by kernel_rfl) ?_)
   refine (y_head HR.out _ cl f).mono ?_
   rintro e w2 ⟨rfl,h2⟩
   have M2 := hQQ (M0.out.more h2)
   have L2 := hQQ (KL.out _ _ _ M2.out)
   clear h2
   go_wp2_with (refine wpList_load_rowG rfl 28 _ rfl _ rfl 28 _ _ _ L2.out Tryz.underlying28 rfl (by kernel_rfl) ?_)
   refine (y_config HR.out _).mono ?_
   rintro e w3 ⟨rfl,h3⟩
   have M3 := hQQ (M2.out.more h3)
   clear h3 M2 L2
   go_wp2_with fail
   go_loopw [10,11,12,21] (fun u10 v11 v12 v21 wr => ∃ (v10 : Value) (i : Nat) (a : Int) (l : List Int) (D' : List KV) (F' : Nat → Prop),v10 = u10 ∧ v11 = .bool false ∧ v21 = .int .i64 (i : Int) ∧ (i : Int) ≤ c.pg ∧ v12 = .int .i64 a ∧ W64 a ∧ a < n ∧ MidV w1 wr F (fun _ => False) p kn n D' F' ∧ OwnR w1.heap.size F' wr v10 l ∧ l.length = i ∧ plThrN c.pg c.st q (c.pg.toNat - i) a l kn D' = Rr) (fun _ _ _ v21 _ => c.pg.toNat - (intOf v21).toNat)
   case atStart => exact ⟨_,0,_,[],D,F,rfl,rfl,rfl,by omega,rfl,(head_b HH.out).2.2,(head_b HH.out).2.1,M3.out,OwnR.nil _ _ _,rfl,HRr.out⟩
   case round =>
     clear M3 HRr
     obtain ⟨v10,i,a,l,D',F',rfl,rfl,rfl,hi,rfl,haw,han,MI,RWI,hl,hrest⟩ := hrel
     have MI := hQQ MI
     have RWI := hQQ RWI
     have LI := hQQ (KL.out _ _ _ MI.out)
     have qi : IntKind.i64.wrap ((i : Int) + 1) = (i : Int) + 1 := wrap_in (by omega) (by omega)
     by_cases hlt : (i : Int) < c.pg
     · have d3 : decide ((i : Int) < c.pg) = true := by simp [hlt]
       rw [show c.pg.toNat - i = (c.pg.toNat - (i + 1)) + 1 by omega] at hrest
       have RI := hQQ (show bindP (plLeadP c.pg a) (fun x => if x = q then pureP (l,true) else if x = -1 then pureP (l,false) else plThrN c.pg c.st q (c.pg.toNat - (i + 1)) (nA c.pg c.st x) (l ++ [x])) kn D' = Rr from hrest)
       clear hrest
       go_wp2_with (refine wpList_load_rowG rfl 28 _ rfl _ rfl 28 _ _ _ LI.out Tryz.underlying28 rfl (by kernel_rfl) ?_)
       refine (pl_leads HR.out HH.out F' p kn D' a haw han wr MI.out.view HK.out MI.out.inv).mono ?_
       intro e w4 he
       rcases MI.out.step (More.refl _) HK.out (good_plLead HH.out han) he with ⟨a',hE,rfl,hd',ht',_⟩ | ⟨x4,D4,F4,hE,rfl,M4,hq4,hkp,hnw⟩
       · exact ⟨rfl,NEED.out a' w4 (RI.out.symm.trans (bindP_need hE)) hd' ht'⟩
       have R4 := hQQ ((bindP_ok hE).symm.trans RI.out)
       have RW4 := hQQ (RWI.out.went hkp hnw)
       have M4 := hQQ M4
       clear he hE hkp hnw
       by_cases ex : x4 = q
       · have d4 : (x4 == q) = true := by simp [ex]
         have E4 := hQQ (show Rr = .ok (l,true) D4 from by have := R4.out; rw [if_pos ex] at this; exact this.symm)
         clear R4 ex
         go_wp2_with fail
         go_step3
         refine ⟨rfl,v10,true,_,_,_,_,_,_,_,_,_,_,_,_,_,_,_,_,_,_,_,_,_,_,_,_,_,_,_,_,_,_,_,rfl,⟨l,D4,F4,E4.out,M4.out,RW4.out⟩⟩
       have d4 : (x4 == q) = false := by simp [ex]
       by_cases en : x4 = -1
       · have d5 : (x4 == -1) = true := by simp [en]
         have E4 := hQQ (show Rr = .ok (l,false) D4 from by have := R4.out; rw [if_neg ex,if_pos en] at this; exact this.symm)
         clear R4 ex en
         go_wp2_with fail
         go_step3
         refine ⟨rfl,v10,false,_,_,_,_,_,_,_,_,_,_,_,_,_,_,_,_,_,_,_,_,_,_,_,_,_,_,_,_,_,_,_,rfl,⟨l,D4,F4,E4.out,M4.out,RW4.out⟩⟩
       have d5 : (x4 == -1) = false := by simp [en]
       have hpx := hq4.resolve_left en
       have P3 := hQQ (page3 (st:=c.st) hpx)
       have NB := hQQ (nv_b HH.out hpx)
       have NX := hQQ (show plThrN c.pg c.st q (c.pg.toNat - (i + 1)) (nA c.pg c.st x4) (l ++ [x4]) kn D4 = Rr from by have := R4.out; rw [if_neg ex,if_neg en] at this; exact this)
       clear R4 ex en hq4 hpx haw han
       go_wp2_with fail
       refine wp_region_anyC (TrC c w.heap.size) (by kernel_rfl) ?_
       have MR := hQQ (M4.out.more ((More.refl w4).drewN 1))
       have RR := hQQ (RW4.out.more ((More.refl w4).drewN 1))
       change anyC _ _ _ _ _ _ _ _ (w4.drewN 1)
       generalize w4.drewN 1 = wq at MR RR ⊢
       clear M4 RW4 MI RWI LI
       generalize hA : Act.mk _ _ = A
       have HF : AG 43 A [(6,.pointer (some ⟨w.heap.size,0,none⟩)),(13,.int .i64 x4),(10,v10)] := by
         rw [← hA]
         refine ⟨⟨Nat.le_of_ble_eq_true rfl,rfl⟩,?_⟩
         intro z hz; simp only [List.mem_cons,List.not_mem_nil,or_false] at hz; rcases hz with rfl | rfl | rfl <;> rfl
       refine anyC_start (fun a W => ∃ (u28 u29 u32 u33 u30 u31 u34 v' : Value) (D9 : List KV) (F9 : Nat → Prop),a = (Act.put (Act.put (Act.put (Act.put (Act.put (Act.put (Act.put (Act.put (Act.put A (some 28) u28) (some 29) u29) (some 32) u32) (some 33) u33) (some 30) u30) (some 31) u31) (some 34) u34) (some 10) v') (some 12) (.int .i64 (nA c.pg c.st x4))) ∧ MidV w1 W F (fun _ => False) p kn n D4 F4 ∧ OwnR w1.heap.size F4 W v' (l ++ [x4])) (fun W => WentR w F p kn (ThrPost w.heap.size) Rr (.panicked (endOf p)) W) (endOf p) (fun a W hd h => ⟨hd,h⟩) (fun _ _ _ _ _ h => h) ?_ ?_
       · rintro a wa ⟨u28,u29,u32,u33,u30,u31,u34,v',_,_,rfl,MS,RS⟩
         rw [← hA]
         have MS := hQQ MS
         have RS := hQQ RS
         clear HF hA MR RR
         go_wp2_with fail
         go_roundw
         case rel => exact ⟨_,i + 1,_,l ++ [x4],D4,F4,rfl,rfl,by go_num,by omega,rfl,NB.out.1.2.2,NB.out.1.2.1,MS.out,RS.out,by simp [hl],NX.out⟩
         case measure => simp [intOf]; omega
       intro QQ FINE FIND FINQ
       clear hA
       refine anyC_takeD (i:=0) (v:=v10) (some 28) rfl rfl (by kernel_rfl) (by kernel_rfl) (by kernel_rfl) (fun c a w => FINQ c a _ _ w) (KL.out _ _ _ MR.out) (by exact yieldsC_moveG (wanted_none rfl) _ rfl (HF.get 2 rfl)) ?_
       replace HF : AG 43 A [(6,.pointer (some ⟨w.heap.size,0,none⟩)),(13,.int .i64 x4)] := HF.sub (fun z hz => by simp only [List.mem_cons,List.not_mem_nil,or_false] at hz ⊢; rcases hz with h | h; exact .inl h; exact .inr (.inl h))
       replace HF := HF.put 28 (v10) (by decide) rfl
       generalize hB1 : Act.put _ _ _ = A at HF ⊢
       refine anyC_takeD (i:=1) (v:=.int .i64 x4) (some 29) rfl rfl (by kernel_rfl) (by kernel_rfl) (by kernel_rfl) (fun c a w => FINQ c a _ _ w) (KL.out _ _ _ MR.out) (by exact yieldsC_moveG (wanted_none rfl) _ rfl (HF.get 2 rfl)) ?_
       replace HF := HF.put 29 (.int .i64 x4) (by decide) rfl
       generalize hB2 : Act.put _ _ _ = A at HF ⊢
       refine anyC_takeD (i:=4) (v:=.agg c.arr) (some 32) rfl rfl (by kernel_rfl) (by kernel_rfl) (by kernel_rfl) (fun c a w => FINQ c a _ _ w) (KL.out _ _ _ MR.out) (by exact yieldsC_row (C:=TrC c w.heap.size) (wanted_none rfl) 28 _ rfl w.heap.size (HF.get 2 rfl) 28 _ _ _ (fun W hW => hW) Tryz.underlying28 rfl (by kernel_rfl)) ?_
       replace HF := HF.put 32 (.agg c.arr) (by decide) rfl
       generalize hB3 : Act.put _ _ _ = A at HF ⊢
       refine anyC_takeD (i:=5) (v:=.int .i64 x4) (some 33) rfl rfl (by kernel_rfl) (by kernel_rfl) (by kernel_rfl) (fun c a w => FINQ c a _ _ w) (KL.out _ _ _ MR.out) (by exact yieldsC_moveG (wanted_none rfl) _ rfl (HF.get 4 rfl)) ?_
       replace HF := HF.put 33 (.int .i64 x4) (by decide) rfl
       generalize hB4 : Act.put _ _ _ = A at HF ⊢
       refine anyC_oneK (i:=2) (some 30) (by kernel_rfl) rfl (wanted_none rfl) rfl (fun K hK => ?_)
       refine wp_build1 rfl x4 (HF.get 2 rfl) ?_
       have MRb := hQQ (MR.out.more ((More.refl wq).alloc (.cells #[.int .i64 x4] 3)))
       have RRb := hQQ (RR.out.more ((More.refl wq).alloc (.cells #[.int .i64 x4] 3)))
       have BL := hQQ (heap_new wq (.cells #[.int .i64 x4] 3))
       refine hK _ _ (KL.out _ _ _ MRb.out) ?_
       clear hK K
       generalize hg : wq.heap.size = gb at BL ⊢
       generalize wq.alloc (.cells #[.int .i64 x4] 3) = wqb at MRb RRb BL ⊢
       clear hg
       replace HF := HF.put 30 (.slice (some ⟨gb,0,none⟩) 1 1) (by decide) rfl
       generalize hB5 : Act.put _ _ _ = A at HF ⊢
       refine anyC_oneK (i:=3) (some 31) (by kernel_rfl) rfl (wanted_none rfl) rfl (fun K hK => ?_)
       refine wp_push (xs:=l) x4 _ _ rfl (HF.get 4 rfl) RRb.out.1 (by have := MRb.out.size; omega) (by omega) (HF.get 0 rfl) BL.out ?_
       intro v' wqba hr' ht' hv'
       obtain ⟨mA,rA⟩ := MRb.out.grew RRb.out (Nat.le_refl _) ht' hr' hv'
       have MA := hQQ mA
       have RA := hQQ rA
       clear mA rA hr' ht' hv'
       refine hK _ _ (KL.out _ _ _ MA.out) ?_
       clear hK K
       replace HF := HF.put 31 (v') (by decide) rfl
       generalize hB6 : Act.put _ _ _ = A at HF ⊢
       refine anyC_oneK (i:=6) (some 34) (by kernel_rfl) rfl (wanted_none rfl) rfl (fun K hK => ?_)
       refine wp_call2 (v0:=.agg c.arr) (v1:=.int .i64 x4) rfl (HF.get 3 rfl) (HF.get 2 rfl) (enters_of Tryz.func95 (by kernel_rfl) rfl) ?_
       refine (y_next HR.out wqba x4).mono ?_
       rw [P3.out]
       rintro e wqban ⟨rfl,hn'⟩
       have MAn := hQQ (MA.out.more hn')
       have RAn := hQQ (RA.out.more hn')
       skip
       clear hn'
       refine hK _ _ (KL.out _ _ _ MAn.out) ?_
       clear hK K
       replace HF := HF.put 34 (.int .i64 (nA c.pg c.st x4)) (by decide) rfl
       generalize hB7 : Act.put _ _ _ = A at HF ⊢
       refine anyC_takeD (i:=7) (v:=v') (some 10) rfl rfl (by kernel_rfl) (by kernel_rfl) (by kernel_rfl) (fun c a w => FINQ c a _ _ w) (KL.out _ _ _ MAn.out) (by exact yieldsC_assign (wanted_none rfl) _ rfl (HF.get 1 rfl)) ?_
       replace HF := HF.put 10 (v') (by decide) rfl
       generalize hC1 : Act.put _ _ _ = A at HF ⊢
       refine anyC_takeD (i:=8) (v:=.int .i64 (nA c.pg c.st x4)) (some 12) rfl rfl (by kernel_rfl) (by kernel_rfl) (by kernel_rfl) (fun c a w => FINQ c a _ _ w) (KL.out _ _ _ MAn.out) (by exact yieldsC_assign (wanted_none rfl) _ rfl (HF.get 1 rfl)) ?_
       replace HF := HF.put 12 (.int .i64 (nA c.pg c.st x4)) (by decide) rfl
       generalize hC2 : Act.put _ _ _ = A at HF ⊢
       exact anyC_done (by kernel_rfl) (FINE _ _ ⟨_,_,_,_,_,_,_,v',D4,F4,by rw [← hC2,← hC1,← hB7,← hB6,← hB5,← hB4,← hB3,← hB2,← hB1],MAn.out,RAn.out⟩)
     · have hie : (i : Int) = c.pg := by omega
       have d3 : decide ((i : Int) < c.pg) = false := by simp; omega
       rw [show c.pg.toNat - i = 0 by omega] at hrest
       have FIN := hQQ (DONE.out (l,false) (.tuple #[v10,.bool false]) wr D' F' hrest.symm MI.out ⟨v10,rfl,RWI.out.mono hw1⟩)
       clear hrest
       go_wp2_with fail
       go_step3
       go_wp2_with fail
       go_ret2
       exact FIN.out
 · rintro a w' ⟨v,b,u12,u13,u14,u15,u16,u17,u18,u19,u20,u21,u22,u23,u24,u25,u26,u27,u28,u29,u30,u31,u32,u33,u34,u35,u36,u37,u38,u39,u40,u41,u42,rfl,l,D4,F4,hE,MS,RS⟩
   have FIN := hQQ (DONE.out (l,b) (.tuple #[v,.bool b]) w' D4 F4 hE MS ⟨v,rfl,RS.mono hw1⟩)
   clear hE MS RS
   go_wp2_with fail
   go_ret2
   exact FIN.out
theorem pl_Unlink {c : Cfg} (R : c.Ok) {n : Nat} (H : HdIn c.pg c.st n) (hn : n ≤ 10000) (F : Nat → Prop) (p : Nat) (kn : Int → Option Int) (D : List KV) (q cl f : Int) (w : World) (hv : ViewAt w F p kn D) (hk : OkK kn) (hD : InvD n D) :
   Calls Tryz.prog 65 #[.pointer (some ⟨p,0,none⟩),.agg c.arr,.int .i64 q,.int .i64 cl,.int .i64 f] w (WentV w F p kn (fun b => .bool b) (plUnlinkP c.pg c.st q cl f kn D)) := by
 obtain ⟨Rr,hRr⟩ : ∃ Rr,plUnlinkP c.pg c.st q cl f kn D = Rr := ⟨_,rfl⟩
 rw [hRr]
 obtain ⟨w1,e1,hl1,m1,s1⟩ := entry1 w (.cells c.arr 28)
 have nFl : ¬ F w.heap.size := fun q => by have := hv.lt _ q; omega
 have MM := hQQ m1
 have L0 := hQQ hl1
 have M0 : Hid (MidV w1 w1 F (fun _ => False) p kn n D F) := hQQ (MidV.begin (hv.more m1) hD)
 have KL : Hid (∀ wr D' F',MidV w1 wr F (fun _ => False) p kn n D' F' → wr.heap[w.heap.size]? = some (.cells c.arr 28 (0,0))) := hQQ fun wr D' F' h => mid_own h L0.out nFl (fun q => q)
 have NEED : Hid (∀ a w2,Rr = .need a → DeadAt w2 p a → Turned (fun b => F b ∨ False) w1 w2 → WentV w F p kn (fun b : Bool => Value.bool b) Rr (.panicked (endOf p)) w2) := hQQ fun a w2 e hd ht => mid_need MM.out (fun _ q => q.elim) e hd ht
 have DONE : Hid (∀ x w2 D' F',Rr = .ok x D' → MidV w1 w2 F (fun _ => False) p kn n D' F' → WentV w F p kn (fun b : Bool => Value.bool b) Rr (.returned ((fun b : Bool => Value.bool b) x)) w2) := hQQ fun x w2 D' F' e h => mid_done MM.out (fun _ q => q.elim) h e
 have HK := hQQ hk
 have HR := hQQ R
 have HH := hQQ H
 clear hl1 m1 hv hD hk R H nFl
 unfold plUnlinkP at hRr
 cases hq : isPage c.pg q with
 | false =>
   rw [hq] at hRr
   have FIN : Hid (∀ w2,More w1 w2 → WentV w F p kn (fun b : Bool => Value.bool b) Rr (.returned (.bool false)) w2) := hQQ fun w2 h => DONE.out false w2 D F hRr.symm (M0.out.more h)
   clear hRr
   go_enter Tryz.func65,Tryz.ntmps65
   go_wp2_with (refine wpList_load_rowG rfl 28 _ rfl _ rfl 28 _ _ _ L0.out Tryz.underlying28 rfl (by kernel_rfl) ?_)
   refine (pl_there HR.out HH.out q _).mono ?_
   rw [hq]
   rintro e w3 ⟨rfl,h3⟩
   have H3 := hQQ h3
   clear h3
   go_wp2_with fail
   go_ret
   exact FIN.out _ H3.out
 | true =>
   rw [hq] at hRr
   have HRr := hQQ (show bindP (plThrP c.pg c.st q cl f) (fun r => if r.2 then bindP (plLeadP c.pg (nA c.pg c.st q)) (fun x => bindP (plJoinP c.pg c.st (headV c.pg c.st cl f) (lastO r.1) x) fun _ => bindP (writeP (nA c.pg c.st q) 0) fun _ => bindP (writeP (vA c.pg c.st q) 0) fun _ => pureP true) else pureP false) kn D = Rr from hRr)
   have P3 := hQQ (page3 (st:=c.st) hq)
   have P4 := hQQ (page4 (st:=c.st) hq)
   have NB := hQQ (nv_b HH.out hq)
   have HQ := hQQ hq
   clear hRr hq
   go_enter Tryz.func65,Tryz.ntmps65
   go_wp2_with (refine wpList_load_rowG rfl 28 _ rfl _ rfl 28 _ _ _ L0.out Tryz.underlying28 rfl (by kernel_rfl) ?_)
   refine (pl_there HR.out HH.out q _).mono ?_
   rw [HQ.out]
   rintro e w2 ⟨rfl,h2⟩
   have M2 := hQQ (M0.out.more h2)
   have L2 := hQQ (KL.out _ _ _ M2.out)
   clear h2
   go_wp2_with (refine wpList_load_rowG rfl 28 _ rfl _ rfl 28 _ _ _ L2.out Tryz.underlying28 rfl (by kernel_rfl) ?_)
   refine (pl_through HR.out HH.out F p kn D q cl f w2 M2.out.view HK.out M2.out.inv).mono ?_
   intro e w3 he
   rcases M2.out.stepR (More.refl _) HK.out (good_plThr HH.out q cl f) he with ⟨a',hE,rfl,hd',ht',_⟩ | ⟨⟨xs,b⟩,D2,F2,v,hE,rfl,⟨u,rfl,hu⟩,M3,hxs,_,_⟩
   · exact ⟨rfl,NEED.out a' w3 (HRr.out.symm.trans (bindP_need hE)) hd' ht'⟩
   have R2 := hQQ ((bindP_ok hE).symm.trans HRr.out)
   have HXS := hQQ (show ∀ x ∈ xs,isPage c.pg x = true from hxs.1)
   have hxl : xs.length ≤ 256 := hxs.2
   have M3 := hQQ M3
   have L3 := hQQ (KL.out _ _ _ M3.out)
   have HU := hQQ (show OwnR w2.heap.size F2 w3 u xs from hu)
   clear he hE hxs hu M2 L2
   cases b with
   | false =>
     have FIN := hQQ (DONE.out false w3 D2 F2 R2.out.symm M3.out)
     clear R2
     go_wp2_with fail
     go_ret
     exact FIN.out
   | true =>
     have R2' := hQQ (show bindP (plLeadP c.pg (nA c.pg c.st q)) (fun x => bindP (plJoinP c.pg c.st (headV c.pg c.st cl f) (lastO xs) x) fun _ => bindP (writeP (nA c.pg c.st q) 0) fun _ => bindP (writeP (vA c.pg c.st q) 0) fun _ => pureP true) kn D2 = Rr from R2.out)
     obtain ⟨av,cv,rfl,hrd⟩ := HU.out.1.reads
     by_cases h0 : xs.length = 0
     · have hxn : xs = [] := List.length_eq_zero_iff.1 h0
       subst hxn
       clear R2 hrd h0 HU
       go_wp2_with fail
       refine wp_region_anyC (TrC c w.heap.size) (by kernel_rfl) ?_
       have MR := hQQ (M3.out.more ((More.refl w3).drewN 1))
       change anyC _ _ _ _ _ _ _ _ (w3.drewN 1)
       generalize w3.drewN 1 = wr at MR ⊢
       generalize hA : Act.mk _ _ = A
       have HF : AG 63 A [(0,.pointer (some ⟨p,0,none⟩)),(1,.agg c.arr),(2,.int .i64 q),(3,.int .i64 cl),(4,.int .i64 f),(6,.pointer (some ⟨w.heap.size,0,none⟩)),(13,.int .i64 (-1))] := by
         rw [← hA]
         refine ⟨⟨Nat.le_of_ble_eq_true rfl,rfl⟩,?_⟩
         intro z hz; simp only [List.mem_cons,List.not_mem_nil,or_false] at hz; rcases hz with rfl | rfl | rfl | rfl | rfl | rfl | rfl <;> rfl
       refine anyC_start (fun a W => ∃ (u39 u40 u41 u42 u43 u45 u46 u47 u48 u49 u44 u50 u51 u52 : Value) (D9 : List KV) (F9 : Nat → Prop),a = (Act.put (Act.put (Act.put (Act.put (Act.put (Act.put (Act.put (Act.put (Act.put (Act.put (Act.put (Act.put (Act.put (Act.put A (some 39) u39) (some 40) u40) (some 41) u41) (some 42) u42) (some 43) u43) (some 45) u45) (some 46) u46) (some 47) u47) (some 48) u48) (some 49) u49) (some 44) u44) (some 50) u50) (some 51) u51) (some 52) u52) ∧ MidV w1 W F (fun _ => False) p kn n D9 F9 ∧ bindP (writeP (nA c.pg c.st q) 0) (fun _ => bindP (writeP (vA c.pg c.st q) 0) fun _ => pureP true) kn D9 = Rr) (fun W => WentV w F p kn (fun b : Bool => Value.bool b) Rr (.panicked (endOf p)) W) (endOf p) (fun a W hd h => ⟨hd,h⟩) (fun _ _ _ _ _ h => h) ?_ ?_
       · skip
         rintro a wa ⟨u39,u40,u41,u42,u43,u45,u46,u47,u48,u49,u44,u50,u51,u52,D7,F7,rfl,MS,RS⟩
         rw [← hA]
         have MS := hQQ MS
         have LS := hQQ (KL.out _ _ _ MS.out)
         have RS := hQQ RS
         clear HF hA MR M3 R2' L3
         go_wp2_with (refine wpList_load_rowG rfl 28 _ rfl _ rfl 28 _ _ _ LS.out Tryz.underlying28 rfl (by kernel_rfl) ?_)
         refine (y_next HR.out _ q).mono ?_
         rw [P3.out]
         rintro e w8 ⟨rfl,h8⟩
         have M8 := hQQ (MS.out.more h8)
         clear h8
         go_wp2_with fail
         refine (write_any F7 p kn D7 _ 0 w8 M8.out.view (by have := M8.out.inv.len; omega)).mono ?_
         intro e w9 he
         rcases M8.out.step (More.refl _) HK.out (good_write n NB.out.1.2.2 NB.out.1.2.1 (by unfold W64; omega)) he with ⟨a',hE,rfl,hd',ht',_⟩ | ⟨x9,D9,F9,hE,rfl,M9,hq9,_,_⟩
         · exact ⟨rfl,NEED.out a' w9 (RS.out.symm.trans (bindP_need hE)) hd' ht'⟩
         have L9 := hQQ (KL.out _ _ _ M9)
         have R9 := hQQ ((bindP_ok hE).symm.trans RS.out)
         have M9 := hQQ M9
         clear he hE
         go_wp2_with (refine wpList_load_rowG rfl 28 _ rfl _ rfl 28 _ _ _ L9.out Tryz.underlying28 rfl (by kernel_rfl) ?_)
         refine (y_prev HR.out _ q).mono ?_
         rw [P4.out]
         rintro e w10 ⟨rfl,h10⟩
         have M10 := hQQ (M9.out.more h10)
         clear h10
         go_wp2_with fail
         refine (write_any F9 p kn D9 _ 0 w10 M10.out.view (by have := M10.out.inv.len; omega)).mono ?_
         intro e w11 he
         rcases M10.out.step (More.refl _) HK.out (good_write n NB.out.2.2.2 NB.out.2.2.1 (by unfold W64; omega)) he with ⟨a',hE,rfl,hd',ht',_⟩ | ⟨x11,D11,F11,hE,rfl,M11,hq11,_,_⟩
         · exact ⟨rfl,NEED.out a' w11 (R9.out.symm.trans (bindP_need hE)) hd' ht'⟩
         have FIN := hQQ (DONE.out true w11 D11 F11 (R9.out.symm.trans (bindP_ok hE)) M11)
         clear he hE M11
         go_wp2_with fail
         go_ret
         exact FIN.out
       intro QQ FINE FIND FINQ
       clear hA
       refine anyC_takeD (i:=0) (v:=.pointer (some ⟨p,0,none⟩)) (some 39) rfl rfl (by kernel_rfl) (by kernel_rfl) (by kernel_rfl) (fun c a w => FINQ c a _ _ w) (KL.out _ _ _ MR.out) (by exact yieldsC_moveG (wanted_none rfl) _ rfl (HF.get 0 rfl)) ?_
       replace HF := HF.put 39 (.pointer (some ⟨p,0,none⟩)) (by decide) rfl
       generalize hB1_39 : Act.put _ _ _ = A at HF ⊢
       refine anyC_takeD (i:=1) (v:=.agg c.arr) (some 40) rfl rfl (by kernel_rfl) (by kernel_rfl) (by kernel_rfl) (fun c a w => FINQ c a _ _ w) (KL.out _ _ _ MR.out) (by exact yieldsC_row (C:=(TrC c w.heap.size)) (wanted_none rfl) 28 _ rfl w.heap.size (HF.get 6 rfl) 28 _ _ _ (fun W hW => hW) Tryz.underlying28 rfl (by kernel_rfl)) ?_
       replace HF := HF.put 40 (.agg c.arr) (by decide) rfl
       generalize hB2_40 : Act.put _ _ _ = A at HF ⊢
       refine anyC_takeD (i:=2) (v:=.agg c.arr) (some 41) rfl rfl (by kernel_rfl) (by kernel_rfl) (by kernel_rfl) (fun c a w => FINQ c a _ _ w) (KL.out _ _ _ MR.out) (by exact yieldsC_row (C:=(TrC c w.heap.size)) (wanted_none rfl) 28 _ rfl w.heap.size (HF.get 7 rfl) 28 _ _ _ (fun W hW => hW) Tryz.underlying28 rfl (by kernel_rfl)) ?_
       replace HF := HF.put 41 (.agg c.arr) (by decide) rfl
       generalize hB3_41 : Act.put _ _ _ = A at HF ⊢
       refine anyC_takeD (i:=3) (v:=.int .i64 cl) (some 42) rfl rfl (by kernel_rfl) (by kernel_rfl) (by kernel_rfl) (fun c a w => FINQ c a _ _ w) (KL.out _ _ _ MR.out) (by exact yieldsC_moveG (wanted_none rfl) _ rfl (HF.get 6 rfl)) ?_
       replace HF := HF.put 42 (.int .i64 cl) (by decide) rfl
       generalize hB4_42 : Act.put _ _ _ = A at HF ⊢
       refine anyC_takeD (i:=4) (v:=.int .i64 f) (some 43) rfl rfl (by kernel_rfl) (by kernel_rfl) (by kernel_rfl) (fun c a w => FINQ c a _ _ w) (KL.out _ _ _ MR.out) (by exact yieldsC_moveG (wanted_none rfl) _ rfl (HF.get 8 rfl)) ?_
       replace HF := HF.put 43 (.int .i64 f) (by decide) rfl
       generalize hB5_43 : Act.put _ _ _ = A at HF ⊢
       refine anyC_takeD (i:=6) (v:=.int .i64 (-1)) (some 45) rfl rfl (by kernel_rfl) (by kernel_rfl) (by kernel_rfl) (fun c a w => FINQ c a _ _ w) (KL.out _ _ _ MR.out) (by exact yieldsC_moveG (wanted_none rfl) _ rfl (HF.get 11 rfl)) ?_
       replace HF := HF.put 45 (.int .i64 (-1)) (by decide) rfl
       generalize hB6_45 : Act.put _ _ _ = A at HF ⊢
       refine anyC_takeD (i:=7) (v:=.pointer (some ⟨p,0,none⟩)) (some 46) rfl rfl (by kernel_rfl) (by kernel_rfl) (by kernel_rfl) (fun c a w => FINQ c a _ _ w) (KL.out _ _ _ MR.out) (by exact yieldsC_moveG (wanted_none rfl) _ rfl (HF.get 6 rfl)) ?_
       replace HF := HF.put 46 (.pointer (some ⟨p,0,none⟩)) (by decide) rfl
       generalize hB7_46 : Act.put _ _ _ = A at HF ⊢
       refine anyC_takeD (i:=8) (v:=.agg c.arr) (some 47) rfl rfl (by kernel_rfl) (by kernel_rfl) (by kernel_rfl) (fun c a w => FINQ c a _ _ w) (KL.out _ _ _ MR.out) (by exact yieldsC_row (C:=(TrC c w.heap.size)) (wanted_none rfl) 28 _ rfl w.heap.size (HF.get 12 rfl) 28 _ _ _ (fun W hW => hW) Tryz.underlying28 rfl (by kernel_rfl)) ?_
       replace HF := HF.put 47 (.agg c.arr) (by decide) rfl
       generalize hB8_47 : Act.put _ _ _ = A at HF ⊢
       refine anyC_takeD (i:=9) (v:=.agg c.arr) (some 48) rfl rfl (by kernel_rfl) (by kernel_rfl) (by kernel_rfl) (fun c a w => FINQ c a _ _ w) (KL.out _ _ _ MR.out) (by exact yieldsC_row (C:=(TrC c w.heap.size)) (wanted_none rfl) 28 _ rfl w.heap.size (HF.get 13 rfl) 28 _ _ _ (fun W hW => hW) Tryz.underlying28 rfl (by kernel_rfl)) ?_
       replace HF := HF.put 48 (.agg c.arr) (by decide) rfl
       generalize hB9_48 : Act.put _ _ _ = A at HF ⊢
       refine anyC_takeD (i:=10) (v:=.int .i64 q) (some 49) rfl rfl (by kernel_rfl) (by kernel_rfl) (by kernel_rfl) (fun c a w => FINQ c a _ _ w) (KL.out _ _ _ MR.out) (by exact yieldsC_moveG (wanted_none rfl) _ rfl (HF.get 11 rfl)) ?_
       replace HF := HF.put 49 (.int .i64 q) (by decide) rfl
       generalize hB10_49 : Act.put _ _ _ = A at HF ⊢
       refine anyC_oneK (i:=5) (some 44) (by kernel_rfl) rfl (wanted_none rfl) rfl (fun K hK => ?_)
       refine wp_call3 (v0:=.agg c.arr) (v1:=.int .i64 cl) (v2:=.int .i64 f) rfl (HF.get 7 rfl) (HF.get 6 rfl) (HF.get 5 rfl) (enters_of Tryz.func59 (by kernel_rfl) rfl) ?_
       refine (y_head HR.out wr cl f).mono ?_
       rintro e w4 ⟨rfl,h4⟩
       have M4 := hQQ (MR.out.more h4)
       clear h4
       refine hK _ _ (KL.out _ _ _ M4.out) ?_
       clear hK K
       replace HF := HF.put 44 (.int .i64 (headV c.pg c.st cl f)) (by decide) rfl
       generalize hB11_44 : Act.put _ _ _ = A at HF ⊢
       refine anyC_oneK (i:=11) (some 50) (by kernel_rfl) rfl (wanted_none rfl) rfl (fun K hK => ?_)
       refine wp_call2 (v0:=.agg c.arr) (v1:=.int .i64 q) rfl (HF.get 2 rfl) (HF.get 1 rfl) (enters_of Tryz.func95 (by kernel_rfl) rfl) ?_
       refine (y_next HR.out w4 q).mono ?_
       rw [P3.out]
       rintro e w5 ⟨rfl,h5⟩
       have M5 := hQQ (M4.out.more h5)
       clear h5
       refine hK _ _ (KL.out _ _ _ M5.out) ?_
       clear hK K
       replace HF := HF.put 50 (.int .i64 (nA c.pg c.st q)) (by decide) rfl
       generalize hB12_50 : Act.put _ _ _ = A at HF ⊢
       refine anyC_oneK (i:=12) (some 51) (by kernel_rfl) rfl (wanted_none rfl) rfl (fun K hK => ?_)
       refine wp_call3 (v0:=.pointer (some ⟨p,0,none⟩)) (v1:=.agg c.arr) (v2:=.int .i64 (nA c.pg c.st q)) rfl (HF.get 5 rfl) (HF.get 4 rfl) (HF.get 0 rfl) (enters_of Tryz.func58 (by kernel_rfl) rfl) ?_
       refine (pl_leads HR.out HH.out F2 p kn D2 (nA c.pg c.st q) NB.out.1.2.2 NB.out.1.2.1 w5 M5.out.view HK.out M5.out.inv).mono ?_
       intro e w6 he
       rcases M5.out.step (More.refl _) HK.out (good_plLead HH.out NB.out.1.2.1) he with ⟨a',hE,rfl,hd',ht',_⟩ | ⟨x6,D6,F6,hE,rfl,M6,hq6,_,_⟩
       · exact FIND _ _ HF.1.2 (NEED.out a' w6 (R2'.out.symm.trans (bindP_need hE)) hd' ht')
       have R6 := hQQ ((bindP_ok hE).symm.trans R2'.out)
       have M6 := hQQ M6
       clear he hE
       refine hK _ _ (KL.out _ _ _ M6.out) ?_
       clear hK K
       replace HF := HF.put 51 (.int .i64 x6) (by decide) rfl
       generalize hB13_51 : Act.put _ _ _ = A at HF ⊢
       refine anyC_oneK (i:=13) (some 52) (by kernel_rfl) rfl (wanted_none rfl) rfl (fun K hK => ?_)
       refine wp_call5 (v0:=.pointer (some ⟨p,0,none⟩)) (v1:=.agg c.arr) (v2:=.int .i64 (headV c.pg c.st cl f)) (v3:=.int .i64 (-1)) (v4:=.int .i64 x6) rfl (HF.get 12 rfl) (HF.get 11 rfl) (HF.get 2 rfl) (HF.get 7 rfl) (HF.get 0 rfl) (enters_of Tryz.func94 (by kernel_rfl) rfl) ?_
       refine (pl_join HR.out HH.out hn F6 p kn D6 (headV c.pg c.st cl f) (-1) x6 (head_b HH.out).2.2 (head_b HH.out).2.1 (.inl rfl) hq6 w6 M6.out.view HK.out M6.out.inv).mono ?_
       intro e w7 he
       rcases M6.out.step (More.refl _) HK.out (good_plJoin HH.out (head_b HH.out).2.2 (head_b HH.out).2.1 (.inl rfl) hq6) he with ⟨a',hE,rfl,hd',ht',_⟩ | ⟨x7,D7,F7,hE,rfl,M7,hq7,_,_⟩
       · exact FIND _ _ HF.1.2 (NEED.out a' w7 (R6.out.symm.trans (bindP_need hE)) hd' ht')
       have R7 := hQQ ((bindP_ok hE).symm.trans R6.out)
       have M7 := hQQ M7
       clear he hE
       refine hK _ _ (KL.out _ _ _ M7.out) ?_
       clear hK K
       replace HF := HF.put 52 (.tuple #[]) (by decide) rfl
       generalize hB14_52 : Act.put _ _ _ = A at HF ⊢
       exact anyC_done (by kernel_rfl) (FINE _ _ ⟨(.pointer (some ⟨p,0,none⟩)),(.agg c.arr),(.agg c.arr),(.int .i64 cl),(.int .i64 f),(.int .i64 (-1)),(.pointer (some ⟨p,0,none⟩)),(.agg c.arr),(.agg c.arr),(.int .i64 q),(.int .i64 (headV c.pg c.st cl f)),(.int .i64 (nA c.pg c.st q)),(.int .i64 x6),(.tuple #[]),D7,F7,by rw [← hB14_52,← hB13_51,← hB12_50,← hB11_44,← hB10_49,← hB9_48,← hB8_47,← hB7_46,← hB6_45,← hB5_43,← hB4_42,← hB3_41,← hB2_40,← hB1_39],M7.out,R7.out⟩)
     · obtain ⟨g,rfl,_,_,hcell⟩ := hrd 0 (by omega)
       have d0 : decide ((0 : Int) < (xs.length : Int)) = true := by simp; omega
       have hlast : xs.getD (xs.length - 1) 0 = lastO xs := by
         unfold lastO
         rw [List.getD_eq_getElem?_getD,List.getD_eq_getElem?_getD,List.getElem?_eq_getElem (by omega)]
         rfl
       have hc := hcell (xs.length - 1) (by omega)
       rw [hlast] at hc
       obtain ⟨m,hm⟩ : ∃ m : Nat,xs.length = m + 1 := ⟨xs.length - 1,by omega⟩
       rw [hm] at hc ⊢
       have hc : w3.cell? ⟨g,m,none⟩ = some (.int .i64 (lastO xs)) := hc
       have hm9 : m < 9000000000000000000 := by omega
       have q1 : IntKind.i64.wrap (((m + 1 : Nat) : Int) - 1) = (m : Int) := by rw [show ((m + 1 : Nat) : Int) - 1 = (m : Int) by omega]; exact wrap_in (by omega) (by omega)
       have d1 : decide ((0 : Int) < ((m + 1 : Nat) : Int)) = true := by simp
       clear R2 hrd h0 HU hcell hlast hm d0
       go_wp2_with fail
       clear hc
       refine wp_region_anyC (TrC c w.heap.size) (by kernel_rfl) ?_
       have MR := hQQ (M3.out.more ((More.refl w3).drewN 1))
       change anyC _ _ _ _ _ _ _ _ (w3.drewN 1)
       generalize w3.drewN 1 = wr at MR ⊢
       generalize hA : Act.mk _ _ = A
       have HF : AG 63 A [(0,.pointer (some ⟨p,0,none⟩)),(1,.agg c.arr),(2,.int .i64 q),(3,.int .i64 cl),(4,.int .i64 f),(6,.pointer (some ⟨w.heap.size,0,none⟩)),(13,.int .i64 (lastO xs))] := by
         rw [← hA]
         refine ⟨⟨Nat.le_of_ble_eq_true rfl,rfl⟩,?_⟩
         intro z hz; simp only [List.mem_cons,List.not_mem_nil,or_false] at hz; rcases hz with rfl | rfl | rfl | rfl | rfl | rfl | rfl <;> rfl
       refine anyC_start (fun a W => ∃ (u39 u40 u41 u42 u43 u45 u46 u47 u48 u49 u44 u50 u51 u52 : Value) (D9 : List KV) (F9 : Nat → Prop),a = (Act.put (Act.put (Act.put (Act.put (Act.put (Act.put (Act.put (Act.put (Act.put (Act.put (Act.put (Act.put (Act.put (Act.put A (some 39) u39) (some 40) u40) (some 41) u41) (some 42) u42) (some 43) u43) (some 45) u45) (some 46) u46) (some 47) u47) (some 48) u48) (some 49) u49) (some 44) u44) (some 50) u50) (some 51) u51) (some 52) u52) ∧ MidV w1 W F (fun _ => False) p kn n D9 F9 ∧ bindP (writeP (nA c.pg c.st q) 0) (fun _ => bindP (writeP (vA c.pg c.st q) 0) fun _ => pureP true) kn D9 = Rr) (fun W => WentV w F p kn (fun b : Bool => Value.bool b) Rr (.panicked (endOf p)) W) (endOf p) (fun a W hd h => ⟨hd,h⟩) (fun _ _ _ _ _ h => h) ?_ ?_
       · skip
         rintro a wa ⟨u39,u40,u41,u42,u43,u45,u46,u47,u48,u49,u44,u50,u51,u52,D7,F7,rfl,MS,RS⟩
         rw [← hA]
         have MS := hQQ MS
         have LS := hQQ (KL.out _ _ _ MS.out)
         have RS := hQQ RS
         clear HF hA MR M3 R2' L3
         go_wp2_with (refine wpList_load_rowG rfl 28 _ rfl _ rfl 28 _ _ _ LS.out Tryz.underlying28 rfl (by kernel_rfl) ?_)
         refine (y_next HR.out _ q).mono ?_
         rw [P3.out]
         rintro e w8 ⟨rfl,h8⟩
         have M8 := hQQ (MS.out.more h8)
         clear h8
         go_wp2_with fail
         refine (write_any F7 p kn D7 _ 0 w8 M8.out.view (by have := M8.out.inv.len; omega)).mono ?_
         intro e w9 he
         rcases M8.out.step (More.refl _) HK.out (good_write n NB.out.1.2.2 NB.out.1.2.1 (by unfold W64; omega)) he with ⟨a',hE,rfl,hd',ht',_⟩ | ⟨x9,D9,F9,hE,rfl,M9,hq9,_,_⟩
         · exact ⟨rfl,NEED.out a' w9 (RS.out.symm.trans (bindP_need hE)) hd' ht'⟩
         have L9 := hQQ (KL.out _ _ _ M9)
         have R9 := hQQ ((bindP_ok hE).symm.trans RS.out)
         have M9 := hQQ M9
         clear he hE
         go_wp2_with (refine wpList_load_rowG rfl 28 _ rfl _ rfl 28 _ _ _ L9.out Tryz.underlying28 rfl (by kernel_rfl) ?_)
         refine (y_prev HR.out _ q).mono ?_
         rw [P4.out]
         rintro e w10 ⟨rfl,h10⟩
         have M10 := hQQ (M9.out.more h10)
         clear h10
         go_wp2_with fail
         refine (write_any F9 p kn D9 _ 0 w10 M10.out.view (by have := M10.out.inv.len; omega)).mono ?_
         intro e w11 he
         rcases M10.out.step (More.refl _) HK.out (good_write n NB.out.2.2.2 NB.out.2.2.1 (by unfold W64; omega)) he with ⟨a',hE,rfl,hd',ht',_⟩ | ⟨x11,D11,F11,hE,rfl,M11,hq11,_,_⟩
         · exact ⟨rfl,NEED.out a' w11 (R9.out.symm.trans (bindP_need hE)) hd' ht'⟩
         have FIN := hQQ (DONE.out true w11 D11 F11 (R9.out.symm.trans (bindP_ok hE)) M11)
         clear he hE M11
         go_wp2_with fail
         go_ret
         exact FIN.out
       intro QQ FINE FIND FINQ
       clear hA
       refine anyC_takeD (i:=0) (v:=.pointer (some ⟨p,0,none⟩)) (some 39) rfl rfl (by kernel_rfl) (by kernel_rfl) (by kernel_rfl) (fun c a w => FINQ c a _ _ w) (KL.out _ _ _ MR.out) (by exact yieldsC_moveG (wanted_none rfl) _ rfl (HF.get 0 rfl)) ?_
       replace HF := HF.put 39 (.pointer (some ⟨p,0,none⟩)) (by decide) rfl
       generalize hB1_39 : Act.put _ _ _ = A at HF ⊢
       refine anyC_takeD (i:=1) (v:=.agg c.arr) (some 40) rfl rfl (by kernel_rfl) (by kernel_rfl) (by kernel_rfl) (fun c a w => FINQ c a _ _ w) (KL.out _ _ _ MR.out) (by exact yieldsC_row (C:=(TrC c w.heap.size)) (wanted_none rfl) 28 _ rfl w.heap.size (HF.get 6 rfl) 28 _ _ _ (fun W hW => hW) Tryz.underlying28 rfl (by kernel_rfl)) ?_
       replace HF := HF.put 40 (.agg c.arr) (by decide) rfl
       generalize hB2_40 : Act.put _ _ _ = A at HF ⊢
       refine anyC_takeD (i:=2) (v:=.agg c.arr) (some 41) rfl rfl (by kernel_rfl) (by kernel_rfl) (by kernel_rfl) (fun c a w => FINQ c a _ _ w) (KL.out _ _ _ MR.out) (by exact yieldsC_row (C:=(TrC c w.heap.size)) (wanted_none rfl) 28 _ rfl w.heap.size (HF.get 7 rfl) 28 _ _ _ (fun W hW => hW) Tryz.underlying28 rfl (by kernel_rfl)) ?_
       replace HF := HF.put 41 (.agg c.arr) (by decide) rfl
       generalize hB3_41 : Act.put _ _ _ = A at HF ⊢
       refine anyC_takeD (i:=3) (v:=.int .i64 cl) (some 42) rfl rfl (by kernel_rfl) (by kernel_rfl) (by kernel_rfl) (fun c a w => FINQ c a _ _ w) (KL.out _ _ _ MR.out) (by exact yieldsC_moveG (wanted_none rfl) _ rfl (HF.get 6 rfl)) ?_
       replace HF := HF.put 42 (.int .i64 cl) (by decide) rfl
       generalize hB4_42 : Act.put _ _ _ = A at HF ⊢
       refine anyC_takeD (i:=4) (v:=.int .i64 f) (some 43) rfl rfl (by kernel_rfl) (by kernel_rfl) (by kernel_rfl) (fun c a w => FINQ c a _ _ w) (KL.out _ _ _ MR.out) (by exact yieldsC_moveG (wanted_none rfl) _ rfl (HF.get 8 rfl)) ?_
       replace HF := HF.put 43 (.int .i64 f) (by decide) rfl
       generalize hB5_43 : Act.put _ _ _ = A at HF ⊢
       refine anyC_takeD (i:=6) (v:=.int .i64 (lastO xs)) (some 45) rfl rfl (by kernel_rfl) (by kernel_rfl) (by kernel_rfl) (fun c a w => FINQ c a _ _ w) (KL.out _ _ _ MR.out) (by exact yieldsC_moveG (wanted_none rfl) _ rfl (HF.get 11 rfl)) ?_
       replace HF := HF.put 45 (.int .i64 (lastO xs)) (by decide) rfl
       generalize hB6_45 : Act.put _ _ _ = A at HF ⊢
       refine anyC_takeD (i:=7) (v:=.pointer (some ⟨p,0,none⟩)) (some 46) rfl rfl (by kernel_rfl) (by kernel_rfl) (by kernel_rfl) (fun c a w => FINQ c a _ _ w) (KL.out _ _ _ MR.out) (by exact yieldsC_moveG (wanted_none rfl) _ rfl (HF.get 6 rfl)) ?_
       replace HF := HF.put 46 (.pointer (some ⟨p,0,none⟩)) (by decide) rfl
       generalize hB7_46 : Act.put _ _ _ = A at HF ⊢
       refine anyC_takeD (i:=8) (v:=.agg c.arr) (some 47) rfl rfl (by kernel_rfl) (by kernel_rfl) (by kernel_rfl) (fun c a w => FINQ c a _ _ w) (KL.out _ _ _ MR.out) (by exact yieldsC_row (C:=(TrC c w.heap.size)) (wanted_none rfl) 28 _ rfl w.heap.size (HF.get 12 rfl) 28 _ _ _ (fun W hW => hW) Tryz.underlying28 rfl (by kernel_rfl)) ?_
       replace HF := HF.put 47 (.agg c.arr) (by decide) rfl
       generalize hB8_47 : Act.put _ _ _ = A at HF ⊢
       refine anyC_takeD (i:=9) (v:=.agg c.arr) (some 48) rfl rfl (by kernel_rfl) (by kernel_rfl) (by kernel_rfl) (fun c a w => FINQ c a _ _ w) (KL.out _ _ _ MR.out) (by exact yieldsC_row (C:=(TrC c w.heap.size)) (wanted_none rfl) 28 _ rfl w.heap.size (HF.get 13 rfl) 28 _ _ _ (fun W hW => hW) Tryz.underlying28 rfl (by kernel_rfl)) ?_
       replace HF := HF.put 48 (.agg c.arr) (by decide) rfl
       generalize hB9_48 : Act.put _ _ _ = A at HF ⊢
       refine anyC_takeD (i:=10) (v:=.int .i64 q) (some 49) rfl rfl (by kernel_rfl) (by kernel_rfl) (by kernel_rfl) (fun c a w => FINQ c a _ _ w) (KL.out _ _ _ MR.out) (by exact yieldsC_moveG (wanted_none rfl) _ rfl (HF.get 11 rfl)) ?_
       replace HF := HF.put 49 (.int .i64 q) (by decide) rfl
       generalize hB10_49 : Act.put _ _ _ = A at HF ⊢
       refine anyC_oneK (i:=5) (some 44) (by kernel_rfl) rfl (wanted_none rfl) rfl (fun K hK => ?_)
       refine wp_call3 (v0:=.agg c.arr) (v1:=.int .i64 cl) (v2:=.int .i64 f) rfl (HF.get 7 rfl) (HF.get 6 rfl) (HF.get 5 rfl) (enters_of Tryz.func59 (by kernel_rfl) rfl) ?_
       refine (y_head HR.out wr cl f).mono ?_
       rintro e w4 ⟨rfl,h4⟩
       have M4 := hQQ (MR.out.more h4)
       clear h4
       refine hK _ _ (KL.out _ _ _ M4.out) ?_
       clear hK K
       replace HF := HF.put 44 (.int .i64 (headV c.pg c.st cl f)) (by decide) rfl
       generalize hB11_44 : Act.put _ _ _ = A at HF ⊢
       refine anyC_oneK (i:=11) (some 50) (by kernel_rfl) rfl (wanted_none rfl) rfl (fun K hK => ?_)
       refine wp_call2 (v0:=.agg c.arr) (v1:=.int .i64 q) rfl (HF.get 2 rfl) (HF.get 1 rfl) (enters_of Tryz.func95 (by kernel_rfl) rfl) ?_
       refine (y_next HR.out w4 q).mono ?_
       rw [P3.out]
       rintro e w5 ⟨rfl,h5⟩
       have M5 := hQQ (M4.out.more h5)
       clear h5
       refine hK _ _ (KL.out _ _ _ M5.out) ?_
       clear hK K
       replace HF := HF.put 50 (.int .i64 (nA c.pg c.st q)) (by decide) rfl
       generalize hB12_50 : Act.put _ _ _ = A at HF ⊢
       refine anyC_oneK (i:=12) (some 51) (by kernel_rfl) rfl (wanted_none rfl) rfl (fun K hK => ?_)
       refine wp_call3 (v0:=.pointer (some ⟨p,0,none⟩)) (v1:=.agg c.arr) (v2:=.int .i64 (nA c.pg c.st q)) rfl (HF.get 5 rfl) (HF.get 4 rfl) (HF.get 0 rfl) (enters_of Tryz.func58 (by kernel_rfl) rfl) ?_
       refine (pl_leads HR.out HH.out F2 p kn D2 (nA c.pg c.st q) NB.out.1.2.2 NB.out.1.2.1 w5 M5.out.view HK.out M5.out.inv).mono ?_
       intro e w6 he
       rcases M5.out.step (More.refl _) HK.out (good_plLead HH.out NB.out.1.2.1) he with ⟨a',hE,rfl,hd',ht',_⟩ | ⟨x6,D6,F6,hE,rfl,M6,hq6,_,_⟩
       · exact FIND _ _ HF.1.2 (NEED.out a' w6 (R2'.out.symm.trans (bindP_need hE)) hd' ht')
       have R6 := hQQ ((bindP_ok hE).symm.trans R2'.out)
       have M6 := hQQ M6
       clear he hE
       refine hK _ _ (KL.out _ _ _ M6.out) ?_
       clear hK K
       replace HF := HF.put 51 (.int .i64 x6) (by decide) rfl
       generalize hB13_51 : Act.put _ _ _ = A at HF ⊢
       refine anyC_oneK (i:=13) (some 52) (by kernel_rfl) rfl (wanted_none rfl) rfl (fun K hK => ?_)
       refine wp_call5 (v0:=.pointer (some ⟨p,0,none⟩)) (v1:=.agg c.arr) (v2:=.int .i64 (headV c.pg c.st cl f)) (v3:=.int .i64 (lastO xs)) (v4:=.int .i64 x6) rfl (HF.get 12 rfl) (HF.get 11 rfl) (HF.get 2 rfl) (HF.get 7 rfl) (HF.get 0 rfl) (enters_of Tryz.func94 (by kernel_rfl) rfl) ?_
       refine (pl_join HR.out HH.out hn F6 p kn D6 (headV c.pg c.st cl f) (lastO xs) x6 (head_b HH.out).2.2 (head_b HH.out).2.1 (lastO_b HH.out HXS.out) hq6 w6 M6.out.view HK.out M6.out.inv).mono ?_
       intro e w7 he
       rcases M6.out.step (More.refl _) HK.out (good_plJoin HH.out (head_b HH.out).2.2 (head_b HH.out).2.1 (lastO_b HH.out HXS.out) hq6) he with ⟨a',hE,rfl,hd',ht',_⟩ | ⟨x7,D7,F7,hE,rfl,M7,hq7,_,_⟩
       · exact FIND _ _ HF.1.2 (NEED.out a' w7 (R6.out.symm.trans (bindP_need hE)) hd' ht')
       have R7 := hQQ ((bindP_ok hE).symm.trans R6.out)
       have M7 := hQQ M7
       clear he hE
       refine hK _ _ (KL.out _ _ _ M7.out) ?_
       clear hK K
       replace HF := HF.put 52 (.tuple #[]) (by decide) rfl
       generalize hB14_52 : Act.put _ _ _ = A at HF ⊢
       exact anyC_done (by kernel_rfl) (FINE _ _ ⟨(.pointer (some ⟨p,0,none⟩)),(.agg c.arr),(.agg c.arr),(.int .i64 cl),(.int .i64 f),(.int .i64 (lastO xs)),(.pointer (some ⟨p,0,none⟩)),(.agg c.arr),(.agg c.arr),(.int .i64 q),(.int .i64 (headV c.pg c.st cl f)),(.int .i64 (nA c.pg c.st q)),(.int .i64 x6),(.tuple #[]),D7,F7,by rw [← hB14_52,← hB13_51,← hB12_50,← hB11_44,← hB10_49,← hB9_48,← hB8_47,← hB7_46,← hB6_45,← hB5_43,← hB4_42,← hB3_41,← hB2_40,← hB1_39],M7.out,R7.out⟩)
theorem pd_leads {c : Cfg} (R : c.Ok) {n : Nat} (H : HdIn c.pg c.st n) (p : Nat) (nd a : Int) (w : World) (hd : DeadAt w p nd) :
   Calls Tryz.prog 58 #[.pointer (some ⟨p,0,none⟩),.agg c.arr,.int .i64 a] w (Gives w (.int .i64 (-1))) := by
 obtain ⟨w1,e1,hl1,m1,s1⟩ := entry1 w (.cells c.arr 28)
 have MM := hQQ m1
 have L0 := hQQ hl1
 have DD : Hid (∀ W,More w1 W → DeadAt W p nd) := hQQ fun W m => (hd.keep m1 (fun q => q)).keep m (fun q => q)
 have HR := hQQ R
 have HH := hQQ H
 clear hl1 m1 hd R H
 have q0 : IntKind.i64.wrap (0 - 1) = -1 := by decide
 have hb : isPage c.pg (-1) = false := by
   cases e : isPage c.pg (-1) with
   | false => rfl
   | true => have := isPage_iff.1 e; omega
 by_cases a0 : a = 0
 · have d0 : (a == 0) = true := by simp [a0]
   clear a0
   go_enter Tryz.func58,Tryz.ntmps58
   go_wp2_with fail
   go_ret
   exact ⟨rfl,MM.out⟩
 · have d0 : (a == 0) = false := by simp [a0]
   clear a0
   go_enter Tryz.func58,Tryz.ntmps58
   go_wp2_with fail
   refine (read_dead p nd a w1 (DD.out _ (More.refl _))).mono ?_
   rintro e w2 ⟨rfl,rfl⟩
   go_wp2_with (refine wpList_load_rowG rfl 28 _ rfl _ rfl 28 _ _ _ L0.out Tryz.underlying28 rfl (by kernel_rfl) ?_)
   refine (pl_there HR.out HH.out (-1) _).mono ?_
   rw [hb]
   rintro e w3 ⟨rfl,h3⟩
   have FIN := hQQ (MM.out.trans h3)
   clear h3
   go_wp2_with fail
   go_ret
   exact ⟨rfl,FIN.out⟩
theorem pd_join {c : Cfg} (R : c.Ok) {n : Nat} (H : HdIn c.pg c.st n) (p : Nat) (nd h x y : Int) (w : World) (hd : DeadAt w p nd) :
   Calls Tryz.prog 94 #[.pointer (some ⟨p,0,none⟩),.agg c.arr,.int .i64 h,.int .i64 x,.int .i64 y] w (Gives w (.tuple #[])) := by
 obtain ⟨w1,e1,hl1,m1,s1⟩ := entry1 w (.cells c.arr 28)
 have MM := hQQ m1
 have L0 := hQQ hl1
 have DD : Hid (∀ W,More w1 W → DeadAt W p nd) := hQQ fun W m => (hd.keep m1 (fun q => q)).keep m (fun q => q)
 have HR := hQQ R
 have HH := hQQ H
 clear hl1 m1 hd R H
 have M0 : Hid (More w1 w1) := hQQ (More.refl _)
 by_cases ex : x = -1
 · have d0 : (x == -1) = true := by simp [ex]
   clear ex
   go_enter Tryz.func94,Tryz.ntmps94
   go_wp2_with fail
   refine (write_dead p nd _ _ _ (DD.out _ M0.out)).mono ?_
   rintro e w2 ⟨rfl,rfl⟩
   by_cases ey : y = -1
   · have d1 : (y != -1) = false := by simp [ey]
     have d2 : (y == -1) = true := by simp [ey]
     have FIN := hQQ (MM.out.trans M0.out)
     clear ey
     go_wp2_with fail
     go_end0
     exact ⟨rfl,FIN.out⟩
   · have d1 : (y != -1) = true := by simpa using ey
     have d2 : (y == -1) = false := by simpa using ey
     clear ey
     go_wp2_with (refine wpList_load_rowG rfl 28 _ rfl _ rfl 28 _ _ _ L0.out Tryz.underlying28 rfl (by kernel_rfl) ?_)
     refine (y_prev HR.out _ y).mono ?_
     rintro e w7 ⟨rfl,h7⟩
     have M7 := hQQ (M0.out.trans h7)
     have L7 := hQQ (h7.block L0.out)
     clear h7
     have FIN := hQQ (MM.out.trans M7.out)
     go_wp2_with fail
     refine (write_dead p nd _ _ _ (DD.out _ M7.out)).mono ?_
     rintro e w8 ⟨rfl,rfl⟩
     go_wp2_with fail
     go_end0
     exact ⟨rfl,FIN.out⟩
 · have d0 : (x == -1) = false := by simp [ex]
   clear ex
   go_enter Tryz.func94,Tryz.ntmps94
   go_wp2_with (refine wpList_load_rowG rfl 28 _ rfl _ rfl 28 _ _ _ L0.out Tryz.underlying28 rfl (by kernel_rfl) ?_)
   refine (y_next HR.out _ x).mono ?_
   rintro e w5 ⟨rfl,h5⟩
   have M5 := hQQ (M0.out.trans h5)
   have L5 := hQQ (h5.block L0.out)
   clear h5
   go_wp2_with fail
   refine (write_dead p nd _ _ _ (DD.out _ M5.out)).mono ?_
   rintro e w2 ⟨rfl,rfl⟩
   by_cases ey : y = -1
   · have d1 : (y != -1) = false := by simp [ey]
     have d2 : (y == -1) = true := by simp [ey]
     have FIN := hQQ (MM.out.trans M5.out)
     clear ey
     go_wp2_with fail
     go_end0
     exact ⟨rfl,FIN.out⟩
   · have d1 : (y != -1) = true := by simpa using ey
     have d2 : (y == -1) = false := by simpa using ey
     clear ey
     go_wp2_with (refine wpList_load_rowG rfl 28 _ rfl _ rfl 28 _ _ _ L5.out Tryz.underlying28 rfl (by kernel_rfl) ?_)
     refine (y_prev HR.out _ y).mono ?_
     rintro e w7 ⟨rfl,h7⟩
     have M7 := hQQ (M5.out.trans h7)
     have L7 := hQQ (h7.block L5.out)
     clear h7
     have FIN := hQQ (MM.out.trans M7.out)
     go_wp2_with fail
     refine (write_dead p nd _ _ _ (DD.out _ M7.out)).mono ?_
     rintro e w8 ⟨rfl,rfl⟩
     go_wp2_with fail
     go_end0
     exact ⟨rfl,FIN.out⟩
theorem pd_through {c : Cfg} (R : c.Ok) {n : Nat} (H : HdIn c.pg c.st n) (p : Nat) (nd q cl f : Int) (hq : isPage c.pg q = true) (w : World) (hd : DeadAt w p nd) :
   Calls Tryz.prog 93 #[.pointer (some ⟨p,0,none⟩),.agg c.arr,.int .i64 q,.int .i64 cl,.int .i64 f] w (Gives w (.tuple #[.slice none 0 0,.bool false])) := by
 obtain ⟨w1,e1,hl1,m1,s1⟩ := entry1 w (.cells c.arr 28)
 have MM := hQQ m1
 have L0 := hQQ hl1
 have DD : Hid (∀ W,More w1 W → DeadAt W p nd) := hQQ fun W m => (hd.keep m1 (fun q => q)).keep m (fun q => q)
 have HR := hQQ R
 have HH := hQQ H
 clear hl1 m1 hd R H
 have hfl := field_pages c
 have pg1 := HR.out.pg1
 have pg2 := HR.out.pg2
 have hqp := isPage_iff.1 hq
 have d4 : (-1 == q) = false := by simp; omega
 have M0 : Hid (More w1 w1) := hQQ (More.refl _)
 clear hq
 go_enter Tryz.func93,Tryz.ntmps93
 go_wp2_with fail
 refine wp_scope_jumps 0 (fun a' w' => ∃ (u12 u13 u14 u15 u16 u17 u18 u19 u20 u21 u22 u23 u24 u25 u26 u27 u28 u29 u30 u31 u32 u33 u34 u35 u36 u37 u38 u39 u40 u41 u42 : Value),a' = { tmps := #[.pointer (some ⟨p,0,none⟩),.agg c.arr,.int .i64 q,.int .i64 cl,.int .i64 f,undef,.pointer (some ⟨w.heap.size,0,none⟩),undef,undef,undef,.slice none 0 0,.bool false,u12,u13,u14,u15,u16,u17,u18,u19,u20,u21,u22,u23,u24,u25,u26,u27,u28,u29,u30,u31,u32,u33,u34,u35,u36,u37,u38,u39,u40,u41,u42],defers := [] } ∧ More w1 w') (fun _ _ => 0) rfl ?_ ?_
 · go_wp2_with (refine wpList_load_rowG rfl 28 _ rfl _ rfl 28 _ _ _ L0.out Tryz.underlying28 rfl (by kernel_rfl) ?_)
   refine (y_head HR.out _ cl f).mono ?_
   rintro e w2 ⟨rfl,h2⟩
   have M2 := hQQ (M0.out.trans h2)
   have L2 := hQQ (h2.block L0.out)
   clear h2
   go_wp2_with (refine wpList_load_rowG rfl 28 _ rfl _ rfl 28 _ _ _ L2.out Tryz.underlying28 rfl (by kernel_rfl) ?_)
   refine (y_config HR.out _).mono ?_
   rintro e w3 ⟨rfl,h3⟩
   have M3 := hQQ (M2.out.trans h3)
   have L3 := hQQ (h3.block L2.out)
   clear h3
   go_wp2_with fail
   go_loopw [10,11,12,21] (fun v10 v11 v12 v21 wr => v10 = .slice none 0 0 ∧ v11 = .bool false ∧ v21 = .int .i64 0 ∧ v12 = .int .i64 (headV c.pg c.st cl f) ∧ More w1 wr) (fun _ _ _ _ _ => 0)
   case atStart => exact ⟨rfl,rfl,rfl,rfl,M3.out⟩
   case round =>
     clear M3 L3
     obtain ⟨rfl,rfl,rfl,rfl,mr⟩ := hrel
     have MI := hQQ mr
     have LI := hQQ (mr.block L0.out)
     clear mr
     have d3 : decide ((0 : Int) < c.pg) = true := by simp; omega
     go_wp2_with (refine wpList_load_rowG rfl 28 _ rfl _ rfl 28 _ _ _ LI.out Tryz.underlying28 rfl (by kernel_rfl) ?_)
     refine (pd_leads HR.out HH.out p nd _ wr (DD.out _ MI.out)).mono ?_
     rintro e w4 ⟨rfl,h4⟩
     have M4 := hQQ (MI.out.trans h4)
     clear h4
     go_wp2_with fail
     go_step3
     refine ⟨rfl,_,_,_,_,_,_,_,_,_,_,_,_,_,_,_,_,_,_,_,_,_,_,_,_,_,_,_,_,_,_,_,rfl,M4.out⟩
 · rintro a w' ⟨u12,u13,u14,u15,u16,u17,u18,u19,u20,u21,u22,u23,u24,u25,u26,u27,u28,u29,u30,u31,u32,u33,u34,u35,u36,u37,u38,u39,u40,u41,u42,rfl,mf⟩
   have FIN := hQQ (MM.out.trans mf)
   clear mf
   go_wp2_with fail
   go_ret2
   exact ⟨rfl,FIN.out⟩
theorem pd_Unlink {c : Cfg} (R : c.Ok) {n : Nat} (H : HdIn c.pg c.st n) (p : Nat) (nd q k f : Int) (w : World) (hd : DeadAt w p nd) :
   Calls Tryz.prog 65 #[.pointer (some ⟨p,0,none⟩),.agg c.arr,.int .i64 q,.int .i64 k,.int .i64 f] w (Gives w (.bool false)) := by
 obtain ⟨w1,e1,hl1,m1,s1⟩ := entry1 w (.cells c.arr 28)
 have MM := hQQ m1
 have L0 := hQQ hl1
 have DD : Hid (∀ W,More w1 W → DeadAt W p nd) := hQQ fun W m => (hd.keep m1 (fun q => q)).keep m (fun q => q)
 have HR := hQQ R
 have HH := hQQ H
 clear hl1 m1 hd R H
 go_enter Tryz.func65,Tryz.ntmps65
 go_wp2_with (refine wpList_load_rowG rfl 28 _ rfl _ rfl 28 _ _ _ L0.out Tryz.underlying28 rfl (by kernel_rfl) ?_)
 refine (pl_there HR.out HH.out q _).mono ?_
 cases hq : isPage c.pg q with
 | false =>
   rintro e w2 ⟨rfl,h2⟩
   have FIN := hQQ (MM.out.trans h2)
   clear h2
   go_wp2_with fail
   go_ret
   exact ⟨rfl,FIN.out⟩
 | true =>
   rintro e w2 ⟨rfl,h2⟩
   have M2 := hQQ h2
   have L2 := hQQ (h2.block L0.out)
   clear h2
   go_wp2_with (refine wpList_load_rowG rfl 28 _ rfl _ rfl 28 _ _ _ L2.out Tryz.underlying28 rfl (by kernel_rfl) ?_)
   refine (pd_through HR.out HH.out p nd q k f hq w2 (DD.out _ M2.out)).mono ?_
   rintro e w3 ⟨rfl,h3⟩
   have FIN := hQQ (MM.out.trans (M2.out.trans h3))
   clear h3
   go_wp2_with fail
   go_ret
   exact ⟨rfl,FIN.out⟩
theorem pd_Link {c : Cfg} (R : c.Ok) {n : Nat} (H : HdIn c.pg c.st n) (p : Nat) (nd q k f : Int) (w : World) (hd : DeadAt w p nd) :
   Calls Tryz.prog 66 #[.pointer (some ⟨p,0,none⟩),.agg c.arr,.int .i64 q,.int .i64 k,.int .i64 f] w (Gives w (.bool (headV c.pg c.st k f != 0 && isPage c.pg q))) := by
 obtain ⟨w1,e1,hl1,m1,s1⟩ := entry1 w (.cells c.arr 28)
 have MM := hQQ m1
 have L0 := hQQ hl1
 have DD : Hid (∀ W,More w1 W → DeadAt W p nd) := hQQ fun W m => (hd.keep m1 (fun q => q)).keep m (fun q => q)
 have HR := hQQ R
 have HH := hQQ H
 clear hl1 m1 hd R H
 obtain ⟨hv,hhv⟩ : ∃ hv,headV c.pg c.st k f = hv := ⟨_,rfl⟩
 have YH := hQQ (fun W => y_head HR.out W k f)
 rw [hhv] at YH ⊢
 clear hhv
 go_enter Tryz.func66,Tryz.ntmps66
 go_wp2_with (refine wpList_load_rowG rfl 28 _ rfl _ rfl 28 _ _ _ L0.out Tryz.underlying28 rfl (by kernel_rfl) ?_)
 refine (YH.out _).mono ?_
 rintro e w2 ⟨rfl,h2⟩
 have M2 := hQQ h2
 have L2 := hQQ (h2.block L0.out)
 clear h2
 by_cases hz : hv = 0
 · have d0 : (hv == 0) = true := by simp [hz]
   have FIN := hQQ (MM.out.trans M2.out)
   have HZ := hQQ (show (hv != 0 && isPage c.pg q) = false by simp [hz])
   clear hz
   go_wp2_with fail
   go_ret
   exact ⟨by rw [HZ.out]; rfl,FIN.out⟩
 have d0 : (hv == 0) = false := by simp [hz]
 have HZ := hQQ (show (hv != 0 && isPage c.pg q) = isPage c.pg q by simp [hz])
 clear hz
 go_wp2_with (refine wpList_load_rowG rfl 28 _ rfl _ rfl 28 _ _ _ L2.out Tryz.underlying28 rfl (by kernel_rfl) ?_)
 refine (pl_there HR.out HH.out q _).mono ?_
 cases hq : isPage c.pg q with
 | false =>
   rintro e w3 ⟨rfl,h3⟩
   have FIN := hQQ (MM.out.trans (M2.out.trans h3))
   clear h3
   go_wp2_with fail
   go_ret
   exact ⟨by rw [HZ.out,hq]; rfl,FIN.out⟩
 | true =>
   rintro e w3 ⟨rfl,h3⟩
   have M3 := hQQ (M2.out.trans h3)
   have L3 := hQQ (h3.block L2.out)
   clear h3
   have DL := hQQ (fun W (hW : More w3 W) => pd_leads HR.out HH.out p nd hv W (DD.out _ (M3.out.trans hW)))
   have DJ := hQQ (fun W (hW : More w3 W) => pd_join HR.out HH.out p nd hv q (-1) W (DD.out _ (M3.out.trans hW)))
   go_wp2_with fail
   refine wp_region_more (by kernel_rfl) (by kernel_rfl) ?_
   iterate 1
     with_reducible refine wpQuiet_step (fun K hK => ?_)
     go_simp
     first
     | (refine hK _ ?_; clear hK K)
     | (apply Exists.intro
        refine ⟨fun W hW => ?_,hK _ ?_⟩
        first
        | (go_simp; try rfl)
        clear hK K)
   refine wpQuiet_load_row rfl 28 _ rfl _ rfl 28 _ _ _ (fun W hW => hW.block L3.out) Tryz.underlying28 rfl (by kernel_rfl) ?_
   iterate 3
     with_reducible refine wpQuiet_step (fun K hK => ?_)
     go_simp
     first
     | (refine hK _ ?_; clear hK K)
     | (apply Exists.intro
        refine ⟨fun W hW => ?_,hK _ ?_⟩
        first
        | (go_simp; try rfl)
        clear hK K)
   refine wpQuiet_load_row rfl 28 _ rfl _ rfl 28 _ _ _ (fun W hW => hW.block L3.out) Tryz.underlying28 rfl (by kernel_rfl) ?_
   iterate 2
     with_reducible refine wpQuiet_step (fun K hK => ?_)
     go_simp
     first
     | (refine hK _ ?_; clear hK K)
     | (apply Exists.intro
        refine ⟨fun W hW => ?_,hK _ ?_⟩
        first
        | (go_at_call 58; exact Calls.more hW (DL.out W hW))
        | (go_simp; try rfl)
        clear hK K)
   iterate 1
     with_reducible refine wpQuiet_step (fun K hK => ?_)
     go_simp
     first
     | (refine hK _ ?_; clear hK K)
     | (apply Exists.intro
        refine ⟨fun W hW => ?_,hK _ ?_⟩
        first
        | (go_at_call 94; exact Calls.more hW (DJ.out W hW))
        | (go_simp; try rfl)
        clear hK K)
   refine wpQuiet_nil ?_
   intro w5 h5
   have M5 := hQQ (M3.out.trans h5)
   have L5 := hQQ (h5.block L3.out)
   clear h5
   go_wp2_with (refine wpList_load_rowG rfl 28 _ rfl _ rfl 28 _ _ _ L5.out Tryz.underlying28 rfl (by kernel_rfl) ?_)
   refine (pd_join HR.out HH.out p nd hv (-1) q w5 (DD.out _ M5.out)).mono ?_
   rintro e w6 ⟨rfl,h6⟩
   have FIN := hQQ (MM.out.trans (M5.out.trans h6))
   clear h6
   go_wp2_with fail
   go_ret
   exact ⟨by rw [HZ.out,hq]; rfl,FIN.out⟩
end Go.Proofs.YtmafllcmkhgidaaGreatDoor
