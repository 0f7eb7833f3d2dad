/-
  Layer 11: which page a block comes of: over words.
-/
import Derived.Test.YtmafllcmkhgidaaGreatDoorPfAo
import Derived.Test.YtmafllcmkhgidaaGreatDoorPfAi
import Derived.Test.YtmafllcmkhgidaaGreatDoorPfAl
import Derived.Test.YtmafllcmkhgidaaGreatDoorPfAn
import Derived.Test.YtmafllcmkhgidaaGreatDoorPfAe
import Derived.Deep.AppendSrc
import Derived.Test.YtmafllcmkhgidaaGreatDoorPfAh
import Derived.Test.YtmafllcmkhgidaaGreatDoorPfAg
import Derived.Test.YtmafllcmkhgidaaGreatDoorPfAk
import Derived.WalkKit
import Derived.WalkSpells
import Derived.WalkLawsBesides
import Derived.Outline
import Derived.IntWalk
import Derived.Lib.Hide
import Derived.Test.YtmafllcmkhgidaaGreatDoorPfAj
import Derived.ChangeKeysEq
set_option maxRecDepth 100000
set_option maxHeartbeats 8000000
set_option linter.unusedVariables false
set_option linter.unusedSimpArgs false
set_option linter.unusedSectionVars false
namespace Go.Proofs.YtmafllcmkhgidaaGreatDoor
open Go.RowKit Go.Sort Go.Maps Go.Shelf
theorem sz_zero' {k : Int} : szV k = 0 ↔ slotsC k = 0 := by
 unfold szV slotsC
 (repeat' split) <;> simp
theorem sz_pos {k : Int} : 0 < szV k ↔ slotsC k ≠ 0 := by
 unfold szV slotsC
 (repeat' split) <;> simp
def flStep (pg st q p : Int) (s : Int × Bool) (ws : List Int) : Int × Bool :=
 (if 0 < szV q ∧ kindV pg st ws p = q + 1 ∧ 0 < openV q (bitV pg st ws p) ∧ (s.1 = 0 ∨ openV q (bitV pg st ws p) < s.1) then openV q (bitV pg st ws p) else s.1,s.2 || (kindV pg st ws p == 0))
structure FlI (pg st q : Int) (ws : List Int) (p : Int) (s : Int × Bool) : Prop where
 free : s.2 = true ↔ ∃ x,0 ≤ x ∧ x < p ∧ kindV pg st ws x = 0
 least : (s.1 = 0 ∧ ∀ x,0 ≤ x → x < p → 0 < szV q → kindV pg st ws x = q + 1 → openV q (bitV pg st ws x) ≤ 0) ∨
   (0 < szV q ∧ 0 < s.1 ∧ (∃ x,0 ≤ x ∧ x < p ∧ kindV pg st ws x = q + 1 ∧ openV q (bitV pg st ws x) = s.1) ∧ ∀ x,0 ≤ x → x < p → kindV pg st ws x = q + 1 → 0 < openV q (bitV pg st ws x) → s.1 ≤ openV q (bitV pg st ws x))
theorem FlI.zero (pg st q : Int) (ws : List Int) : FlI pg st q ws 0 (0,false) := ⟨⟨fun h => by simp at h,fun ⟨x,h0,h1,_⟩ => by omega⟩,.inl ⟨rfl,fun x h0 h1 => by omega⟩⟩
theorem FlI.step {pg st q p : Int} {s : Int × Bool} {ws : List Int} (h : FlI pg st q ws p s) (h0 : 0 ≤ p) : FlI pg st q ws (p + 1) (flStep pg st q p s ws) := by
 obtain ⟨hf,hl⟩ := h
 refine ⟨?_,?_⟩
 · show (s.2 || (kindV pg st ws p == 0)) = true ↔ _
   rw [Bool.or_eq_true,hf]
   constructor
   · rintro (⟨x,x0,x1,x2⟩ | hk)
     · exact ⟨x,x0,by omega,x2⟩
     · exact ⟨p,h0,by omega,by simpa using hk⟩
   · rintro ⟨x,x0,x1,x2⟩
     by_cases e : x = p
     · subst e; exact .inr (by simpa using x2)
     · exact .inl ⟨x,x0,by omega,x2⟩
 · show ((flStep pg st q p s ws).1 = 0 ∧ _) ∨ _
   unfold flStep
   by_cases hc : 0 < szV q ∧ kindV pg st ws p = q + 1 ∧ 0 < openV q (bitV pg st ws p) ∧ (s.1 = 0 ∨ openV q (bitV pg st ws p) < s.1)
   · rw [if_pos hc]
     obtain ⟨c0,c1,c2,c3⟩ := hc
     refine .inr ⟨c0,c2,⟨p,h0,by omega,c1,rfl⟩,fun x x0 x1 xk xo => ?_⟩
     show openV q (bitV pg st ws p) ≤ _
     by_cases e : x = p
     · subst e; exact Int.le_refl _
     · rcases hl with ⟨l0,l1⟩ | ⟨l0,l1,l2,l3⟩
       · have := l1 x x0 (by omega) c0 xk; omega
       · have := l3 x x0 (by omega) xk xo; omega
   · rw [if_neg hc]
     rcases hl with ⟨l0,l1⟩ | ⟨l0,l1,⟨y,y0,y1,y2,y3⟩,l3⟩
     · refine .inl ⟨l0,fun x x0 x1 xs xk => ?_⟩
       by_cases e : x = p
       · subst e
         apply Classical.byContradiction
         intro hn
         exact hc ⟨xs,xk,by omega,.inl l0⟩
       · exact l1 x x0 (by omega) xs xk
     · refine .inr ⟨l0,l1,⟨y,y0,by omega,y2,y3⟩,fun x x0 x1 xk xo => ?_⟩
       show s.1 ≤ _
       by_cases e : x = p
       · subst e
         apply Classical.byContradiction
         intro hn
         exact hc ⟨l0,xk,xo,.inr (by omega)⟩
       · exact l3 x x0 (by omega) xk xo
section
variable {pg st : Int} {n : Nat} (H : HdIn pg st n)
include H
theorem full_ok (us q : Int) {G : Int → List Int} {ws : List Int} (P : PgW pg st G ws) (hn : ws.length = n) {s : Int × Bool} (I : FlI pg st q ws pg s) :
   ((grabV us pg st q ws).1.2 = true ↔ 0 < szV q ∧ (0 < s.1 ∨ s.2 = true)) ∧ (roomV pg st q ws = true ↔ 0 < s.1) ∧ 0 ≤ s.1 ∧
   ((grabV us pg st q ws).1.2 = false → (grabV us pg st q ws).1.1 = 0) ∧
   ((grabV us pg st q ws).1.2 = true → ∃ (y : Int) (j : Nat),isPage pg y = true ∧ 0 ≤ q ∧ q ≤ 4 ∧ (j : Int) < slotsC q ∧ (grabV us pg st q ws).1.1 = us + 32 * y + j * szV q ∧ (s.1 = 0 → kindV pg st ws y = 0 ∧ j = 0) ∧ (s.1 ≠ 0 → kindV pg st ws y = q + 1 ∧ openV q (bitV pg st ws y) = s.1 ∧ hasB (bitV pg st ws y) j = false)) := by
 obtain ⟨hf,hl⟩ := I
 have pin : ∀ x,isPage pg x = true ↔ 0 ≤ x ∧ x < pg := fun x => isPage_iff
 by_cases hs : slotsC q = 0
 · have hz : szV q = 0 := sz_zero'.2 hs
   have l0 : s.1 = 0 := by rcases hl with ⟨l,_⟩ | ⟨l,_⟩; exact l; omega
   rw [grab_none1 H us hs ws]
   refine ⟨⟨fun h => by simp at h,fun h => by omega⟩,⟨fun h => ?_,fun h => by omega⟩,by omega,fun _ => rfl,fun h => by simp at h⟩
   unfold roomV at h
   rw [hs] at h
   simp [plFirstV] at h
 have hk := slots_cls hs
 have hsl := slots_in q
 have hsp : 0 < szV q := sz_pos.2 hs
 obtain ⟨L,F⟩ := P
 have kc : ∀ x,isPage pg x = true → kindV pg st ws x = q + 1 → cntV pg st ws x = openV q (bitV pg st ws x) ∧ cntV pg st ws x < slotsC q := fun x hx e => by
   have := F.cnt x hx (by omega)
   rw [e,show q + 1 - 1 = q by omega] at this
   exact this
 have lists : ∀ x,isPage pg x = true → kindV pg st ws x = q + 1 → 1 ≤ openV q (bitV pg st ws x) → x ∈ G (headV pg st q (openV q (bitV pg st ws x))) ∧ openV q (bitV pg st ws x) ≤ slotsC q := fun x hx e h1 => by
   obtain ⟨c1,c2⟩ := kc x hx e
   have hh : headV pg st q (cntV pg st ws x) ≠ 0 := by
     have hs2 := slotsC_eq hk
     have h3 := H.st1; have h4 := H.pg1
     unfold headV; rw [if_pos ⟨hk.1,hk.2,by omega,by omega⟩]
     unfold headsV tableV chunksV aheadV
     (repeat' split) <;> omega
   refine ⟨?_,by omega⟩
   rw [← c1]
   exact (F.mem _ x (head_hd hh).1).2 ⟨hx,by omega,by rw [e,show q + 1 - 1 = q by omega]⟩
 by_cases h1 : plFirstV pg st q (slotsC q).toNat 1 ws = -1
 · have hempty : ∀ x,1 ≤ x → x ≤ slotsC q → G (headV pg st q x) = [] := by
     rcases first_is H L hk (slotsC q).toNat 1 (by omega) (by omega) with ⟨_,e⟩ | ⟨x,t,x1,x2,hz,hG,hno⟩
     · exact e
     · rw [h1] at hG
       have := L.page _ (head_hd hz).1 (-1) (by rw [hG]; simp)
       have := (pin _).1 this
       omega
   have none : ∀ x,isPage pg x = true → kindV pg st ws x = q + 1 → openV q (bitV pg st ws x) ≤ 0 := fun x hx e => by
     apply Classical.byContradiction
     intro hn'
     obtain ⟨m1,m2⟩ := lists x hx e (by omega)
     rw [hempty _ (by omega) m2] at m1
     cases m1
   have l0 : s.1 = 0 := by
     rcases hl with ⟨l,_⟩ | ⟨_,l1,⟨x,x0,x1,x2,x3⟩,_⟩
     · exact l
     · have := none x ((pin x).2 ⟨x0,x1⟩) x2; omega
   have hr : roomV pg st q ws = false := by unfold roomV; rw [h1]; rfl
   by_cases h2 : findV pg st 1 1 ws = -1
   · have nof : s.2 = false := by
       cases e : s.2 with
       | false => rfl
       | true =>
         obtain ⟨x,x0,x1,x2⟩ := hf.1 e
         rcases find_one H ws with ⟨_,z⟩ | ⟨z,_⟩
         · exact absurd x2 (z x ((pin x).2 ⟨x0,x1⟩))
         · rw [h2] at z; have := (pin _).1 z; omega
     rw [grab_none2 H us hs h1 h2,hr,nof]
     exact ⟨⟨fun h => by simp at h,fun h => by rcases h.2 with z | z; omega; simp at z⟩,⟨fun h => by simp at h,fun h => by omega⟩,by omega,fun _ => rfl,fun h => by simp at h⟩
   · obtain ⟨y,hy⟩ : ∃ y,findV pg st 1 1 ws = y := ⟨_,rfl⟩
     rw [hy] at h2
     obtain ⟨G1,G2,w1,X,hyp,hk0,_,_,_,_,_,e,_⟩ := grab_new H us hs ⟨L,F⟩ hn h1 hy h2
     have yo : s.2 = true := hf.2 ⟨y,((pin y).1 hyp).1,((pin y).1 hyp).2,hk0⟩
     rw [e,hr,yo]
     refine ⟨⟨fun _ => ⟨hsp,.inr rfl⟩,fun _ => rfl⟩,⟨fun h => by simp at h,fun h => by omega⟩,by omega,fun h => by simp at h,fun _ => ⟨y,0,hyp,hk.1,hk.2,by simp; omega,by simp,fun _ => ⟨hk0,rfl⟩,fun h => absurd l0 h⟩⟩
 · obtain ⟨y,hy⟩ : ∃ y,plFirstV pg st q (slotsC q).toNat 1 ws = y := ⟨_,rfl⟩
   rw [hy] at h1
   obtain ⟨j,G1,G2,u,X,hyp,ek,c1,hno,_,hj,hb,_,e,_⟩ := grab_old H us hs ⟨L,F⟩ hn hy h1
   have cy := kc y hyp ek
   have yin := (pin y).1 hyp
   have hl1 : s.1 = openV q (bitV pg st ws y) := by
     rcases hl with ⟨l0,l1⟩ | ⟨_,l1,⟨x,x0,x1,x2,x3⟩,l3⟩
     · have := l1 y yin.1 yin.2 hsp ek; omega
     · have a1 := l3 y yin.1 yin.2 ek (by omega)
       apply Classical.byContradiction
       intro hne
       obtain ⟨m1,m2⟩ := lists x ((pin x).2 ⟨x0,x1⟩) x2 (by omega)
       rw [hno _ (by omega) (by omega)] at m1
       cases m1
   have hr : roomV pg st q ws = true := by unfold roomV; rw [hy]; simpa using h1
   rw [e,hr]
   refine ⟨⟨fun _ => ⟨hsp,.inl (by omega)⟩,fun _ => rfl⟩,⟨fun _ => by omega,fun _ => rfl⟩,by omega,fun h => by simp at h,fun _ => ⟨y,j,hyp,hk.1,hk.2,hj,rfl,fun h => by omega,fun _ => ⟨ek,hl1.symm,by unfold hasB; simp [hb]⟩⟩⟩
end
theorem place_of (us : Int) {pg q k : Int} {j : Nat} (hq : isPage pg q = true) (k0 : 0 ≤ k) (k4 : k ≤ 4) (hj : (j : Int) < slotsC k) : (us + 32 * q + j * szV k - us) / 32 = q := by
 obtain ⟨z,rfl⟩ : ∃ z : Nat,k = (z : Int) := ⟨k.toNat,by omega⟩
 have hz4 : z = 0 ∨ z = 1 ∨ z = 2 ∨ z = 3 ∨ z = 4 := by omega
 rcases hz4 with rfl | rfl | rfl | rfl | rfl
 · have hj : (j : Int) < 32 := hj
   rw [show szV ((0 : Nat) : Int) = 1 from rfl]; omega
 · have hj : (j : Int) < 16 := hj
   rw [show szV ((1 : Nat) : Int) = 2 from rfl]; omega
 · have hj : (j : Int) < 8 := hj
   rw [show szV ((2 : Nat) : Int) = 4 from rfl]; omega
 · have hj : (j : Int) < 4 := hj
   rw [show szV ((3 : Nat) : Int) = 8 from rfl]; omega
 · have hj : (j : Int) < 2 := hj
   rw [show szV ((4 : Nat) : Int) = 16 from rfl]; omega
section
variable {pg st : Int} {n : Nat} (H : HdIn pg st n)
include H
end
section
variable {pg st : Int} {n : Nat} (H : HdIn pg st n)
include H
end
def RanX (w : World) (S : Nat → Prop) (Y : World → Prop) (X : Nat → World → Prop) (R : Ran) (e : Ending) (w' : World) : Prop :=
 match R with
 | .need a => e = .returned (.tuple #[.int .i64 a,.slice none 0 0]) ∧ Turned S w w' ∧ Y w'
 | .done D => ∃ v p b,e = .returned (.tuple #[.int .i64 (-1),v]) ∧ PRw w.heap.size w' v D ∧ Turned S w w' ∧ Y w' ∧ (w.heap.size ≤ b ∧ X b w') ∧ DeadAt w' p (-1)
theorem runX_ok (kn : Int → Option Int) (R : Ran) (M n : Nat) (w : World) (hk : KnownAt w M n kn) (f : Nat) (cap : Array Value) (S : Nat → Prop) (Y : World → Prop) (X : Nat → World → Prop)
   (henter : ∀ args w,Sem.run Tryz.prog (callFunc f args) w = .ok (.enter f args) w) (hS : ∀ k,S k → k < w.heap.size) (hY : ∀ w' w'',Y w' → Turned (fun k => w.heap.size ≤ k) w' w'' → Y w'') (hX : ∀ b w' w'',w.heap.size ≤ b → X b w' → Turned (fun k => w.heap.size ≤ k ∧ k < b) w' w'' → X b w'') (hY0 : Y w)
   (hprog : ∀ (W : World) (F : Nat → Prop) (p : Nat),More w W → Y W → ViewAt W F p kn [] → (∀ k,F k → w.heap.size ≤ k) → Calls Tryz.prog f (#[.pointer (some ⟨p,0,none⟩)] ++ cap) W (WentY W F S Y (X W.heap.size) p kn R)) :
   Calls Tryz.prog 32 #[.map (some M),.func (.func f) #[] cap] w (RanX w S Y X R) := by
 have hq : ∀ w,Sem.run Tryz.prog (binOp BinOp.eql 44 (Value.func (.func f) #[] cap) Value.nilFunc) w = .ok (.bool false) w := fun w => run_eql_func w _ Tryz.underlying44 _ _ _
 have hmf : ∀ (fn : Fn) (first cap : Array Value) (w : World),(Instr.makeFunc fn first cap).run Tryz.prog w = .ok (.func fn first cap) w := fun _ _ _ _ => rfl
 have HK := hQQ hk
 have HS := hQQ hS
 have HX := hQQ hX
 have HY := hQQ hY
 have HY0 := hQQ hY0
 have HP := hQQ hprog
 clear hk hS hX hY hY0 hprog
 go_enter_defers Tryz.func32,Tryz.ntmps32
 go_wp2_with fail
 refine (new_ok _).mono ?_
 rintro e w1 ⟨F0,q,rfl,m1,M1,n1⟩
 obtain ⟨F,hbeg⟩ := begun_of HK.out m1 M1 n1
 have HB := hQQ hbeg
 have hws : w.heap.size < w1.heap.size := by have := M1.size; simp at this; omega
 clear hbeg m1 M1 n1
 go_wp2_with fail
 change Calls _ _ _ ((w1.alloc (.cells (viewCells (some ⟨w1.heap.size,0,none⟩) M q (-1)) 87)).alloc (.cells #[.pointer (some ⟨w1.heap.size,0,none⟩)] 40)) _
 generalize (w1.alloc (.cells (viewCells (some ⟨w1.heap.size,0,none⟩) M q (-1)) 87)).alloc (.cells #[.pointer (some ⟨w1.heap.size,0,none⟩)] 40) = W at HB ⊢
 generalize w1.heap.size + 1 = bv at HB ⊢
 generalize w1.heap.size = p at HB ⊢
 have hlw : Hid (∀ k,k < w.heap.size → k ≠ bv ∧ k ≠ p) := hQQ fun k hk => by have := HB.out.lv; have := HB.out.lp; omega
 have HPW : Hid (p < W.heap.size) := hQQ (by obtain ⟨_,_,_,_,_,_,_,fp,_,_⟩ := HB.out.view.ex; exact HB.out.view.lt p fp)
 clear hws
 refine (HP.out W F p HB.out.more (HY.out _ _ HY0.out (Turned.mono HB.out.more (fun _ _ q => q.elim))) HB.out.view HB.out.new).mono ?_
 intro e w2 he
 cases R with
 | need a =>
   obtain ⟨rfl,hd,ht,hy⟩ := he
   obtain ⟨hv2,hn2,ne1,ne2⟩ := ran_box HB.out HS.out ht
   change bodyPostD _ _ _ (Exit.panic (endOf p)) _ _
   refine leaves_cons (f:=56) (args:=#[.pointer (some ⟨bv,0,none⟩),.pointer (some ⟨w.heap.size,0,none⟩)]) (by simp) (by simp [go_sem]) ?_
   refine (catch_end p bv w.heap.size a 0 w2 hd hv2 hn2 ne1 ne2 HB.out.vn).mono ?_
   rintro e u' w3 ⟨rfl,rfl,hc⟩
   obtain ⟨b0,_,_⟩ := box_cells hc.2.1
   have FIN : Turned S w w3 ∧ Y w3 := ⟨ran_turn HB.out ht hc.2.2,HY.out _ _ hy (hc.2.2.mono (fun k _ q => by have := HB.out.lp; rcases q with q | q <;> omega))⟩
   simp [Leaves,settle,results,Tryz.results32,go_sem,b0]
   exact ⟨rfl,FIN⟩
 | done D =>
   obtain ⟨rfl,⟨F',hv⟩,ht,hy,hx⟩ := he
   obtain ⟨hv2,hn2,ne1,ne2⟩ := ran_box HB.out HS.out ht
   obtain ⟨M',q',n',F0',hp2,hk2,hm2,fp2,f02,fM2⟩ := hv.ex
   obtain ⟨c0,c1,c2,c3,cf,cl⟩ := view_cells hp2
   obtain ⟨v0,vf,vl⟩ := box_cells hv2
   have TOLD := hQQ (told_ok F0' p q' D w2 c2 hm2)
   have HT := hQQ ht
   have HX2 := hQQ hx
   have HY2 := hQQ hy
   have HP2 := hQQ hp2
   have HV2 := hQQ hv2
   have HN2 := hQQ hn2
   clear hv hk2 hm2 fp2 f02 fM2 hp2 hv2 hn2 ht hx hy
   go_wp2_with fail
   refine TOLD.out.mono ?_
   rintro e w3 ⟨v,rfl,hr,hm3⟩
   obtain ⟨n0,nf,nl⟩ := box_cells (hm3.block HN2.out)
   have HR := hQQ hr
   have HM3 := hQQ hm3
   clear hr hm3
   go_wp2_with fail
   have t4 : Turned (fun k => k = p ∨ k = w.heap.size) w3 (w3.setCell ⟨w.heap.size,0,none⟩ (.int .i64 (-1))) := turned_setCell (Turned.refl _ w3) (fun _ => .inr rfl) _
   have hp4 : (w3.setCell ⟨w.heap.size,0,none⟩ (.int .i64 (-1))).heap[p]? = _ := (Below.heap_setCell _ _ _ _ (Ne.symm ne2)).trans (HM3.out.block HP2.out)
   have hv4 : (w3.setCell ⟨w.heap.size,0,none⟩ (.int .i64 (-1))).heap[bv]? = _ := (Below.heap_setCell _ _ _ _ HB.out.vn).trans (HM3.out.block HV2.out)
   have hn4 := box_put (.int .i64 (-1)) (HM3.out.block HN2.out)
   have hm3 := HM3.out
   have hr := HR.out
   have hlp2 := cl
   have hln2 : w.heap.size < w2.heap.size := lt_of_heap HN2.out
   generalize w3.setCell ⟨w.heap.size,0,none⟩ (.int .i64 (-1)) = w4 at t4 hp4 hv4 hn4 ⊢
   refine leaves_cons (f:=56) (args:=#[.pointer (some ⟨bv,0,none⟩),.pointer (some ⟨w.heap.size,0,none⟩)]) (by simp) (by simp [go_sem]) ?_
   refine (catch_idle p bv w.heap.size M' q' (-1) w4 hp4 hv4 hn4 ne1 ne2 HB.out.vn).mono ?_
   rintro e u' w5 ⟨rfl,rfl,hc⟩
   obtain ⟨b0,_,_⟩ := box_cells hc.2.1
   have t35 : Turned (fun k => k = p ∨ k = w.heap.size) w3 w5 := t4.trans hc.2.2
   have FIN : RanX w S Y X (.done D) (.returned (.tuple #[.int .i64 (-1),v])) w5 := by
     refine ⟨v,p,W.heap.size,rfl,(hr.keep t35 (fun k hk q => by rcases q with q | q <;> omega)).mono (by omega),?_,?_,?_,hc.1⟩
     · exact ran_turn HB.out HT.out ((Turned.mono hm3 (fun _ _ q => q.elim)).trans t35)
     · have hlp := HB.out.lp
       exact HY.out w2 w5 HY2.out ((Turned.mono hm3 (fun _ _ q => q.elim)).trans (t35.mono (fun k _ q => by rcases q with q | q <;> omega)))
     · have hlp := HB.out.lp
       have hpW := HPW.out
       exact ⟨by omega,HX.out W.heap.size w2 w5 (by omega) HX2.out ((Turned.mono hm3 (fun _ _ q => q.elim)).trans (t35.mono (fun k _ q => by rcases q with q | q <;> omega)))⟩
   simp [Leaves,settle,results,Tryz.results32,go_sem,b0]
   exact FIN
def DidX (w : World) (S : Nat → Prop) (Y : World → Prop) (X : Nat → World → Prop) (R : Option (List Int × List KV)) (e : Ending) (w' : World) : Prop :=
 match R with
 | none => e = .returned (.tuple #[.slice none 0 0,.slice none 0 0,.int .i64 3]) ∧ Turned S w w' ∧ Y w'
 | some (ws,K) => ∃ v1 v2 b,e = .returned (.tuple #[v1,v2,.int .i64 0]) ∧ Rw w.heap.size w' v1 ws ∧ PRw w.heap.size w' v2 K ∧ Turned S w w' ∧ Y w' ∧ w.heap.size ≤ b ∧ X b w'
theorem doX_fin {w wb wr w2 w3 : World} {S : Nat → Prop} {Y : World → Prop} {X : Nat → World → Prop} {M : Nat} {zs : List Int} {sem : List KV → Ran} {R : Option (List Int × List KV)} {K D : List KV} {a' an : Option Addr} {cap' cn : Nat} {e : Ending} (h : OnY w wb wr S Y M zs sem R K (.slice an K.length cn)) (hs : sem K = .done D) (mb : More w wb) (hM : w.heap.size ≤ M)
   (hl : ∀ k,owned a' k → w.heap.size ≤ k ∧ k < wb.heap.size) (hS : ∀ k,S k → k < w.heap.size) (m2 : Turned S wr w2) (hf : Finished w2 zs D a' cap' (.slice an K.length cn) e w3)
   (hY : ∀ w' w'',Y w' → Turned (fun k => w.heap.size ≤ k) w' w'' → Y w'') (hX : ∀ b w' w'',w.heap.size ≤ b → X b w' → Turned (fun k => w.heap.size ≤ k ∧ k < b) w' w'' → X b w'') (y2 : Y w2) {b : Nat} (hb : wb.heap.size ≤ b) (x2 : X b w2) : DidX w S Y X R e w3 := by
 have hR := doP_done h.okn hs h.res
 have mbS : Turned S w wb := Turned.mono mb (fun _ _ q => q.elim)
 have t3 : Turned S w w3 := by
   have t1 : Turned S w wr := turned_own mbS h.turn (fun k q => by rcases q with q | q; exact .inr (by omega); exact .inl q)
   exact turned_own (turned_own t1 m2 (fun k q => .inl q)) hf.1 (fun k q => .inr (hl k q).1)
 have t23 : Turned (fun k => w.heap.size ≤ k) w2 w3 := hf.1.mono (fun k _ q => (hl k q).1)
 rcases hf.2 with ⟨h1,h2,h3⟩ | ⟨h1,h2⟩
 · rw [hR,if_pos h1]
   have hlen : (applyD zs D).length = zs.length := applyD_len D zs
   have hwb := mb.size
   refine ⟨_,_,b,h2,?_,?_,t3,hY _ _ y2 t23,by omega,hX b _ _ (by omega) x2 (hf.1.mono (fun k _ q => by have := hl k q; omega))⟩
   · have := h3.own (base:=w.heap.size) (fun k q => (hl k q).1)
     unfold Rw
     rw [List.length_map,hlen] at this
     rw [hlen]; exact this
   · have hb := mb.size
     exact ((h.row.keep m2 (fun k hk q => by have := hS k q; omega)).keep hf.1 (fun k hk q => by have := (hl k q).2; omega)).mono mb.size
 · rw [hR,h1]
   exact ⟨h2,t3,hY _ _ y2 t23⟩
theorem doX_ok (a : Option Addr) (cap : Nat) (zs : List Int) (sem : List KV → Ran) (R : Option (List Int × List KV)) (b : Nat) (w : World) (hz : IsWords w a zs) (hlen : zs.length ≤ 1000) (hok : OkW zs) (hfine : FineSem zs b sem) (hb : b ≤ 100000) (hR : doP sem zs (zs.length + 1) [] = R) (f : Nat) (clo : Array Value) (S : Nat → Prop) (Y : World → Prop) (X : Nat → World → Prop) (hS : ∀ k,S k → k < w.heap.size)
   (hY : ∀ w' w'',Y w' → Turned (fun k => w.heap.size ≤ k) w' w'' → Y w'') (hX : ∀ b w' w'',w.heap.size ≤ b → X b w' → Turned (fun k => w.heap.size ≤ k ∧ k < b) w' w'' → X b w'') (hY0 : Y w)
   (henter : ∀ args w,Sem.run Tryz.prog (callFunc f args) w = .ok (.enter f args) w)
   (hprog : ∀ (K : List KV),OkKn zs K → ∀ (W : World) (F : Nat → Prop) (p : Nat),Turned S w W → Y W → ViewAt W F p (look K) [] → (∀ k,F k → w.heap.size ≤ k) → Calls Tryz.prog f (#[.pointer (some ⟨p,0,none⟩)] ++ clo) W (WentY W F S Y (X W.heap.size) p (look K) (sem K))) :
   Calls Tryz.prog 12 #[.slice a zs.length cap,.func (.func f) #[] clo] w (DidX w S Y X R) := by
 have hmm := @run_makeMap Tryz.prog
 have CL := hQQ (clone_words a cap zs w hz (by omega))
 have HOK := hQQ hok
 have HF := hQQ hfine
 have HR0 := hQQ hR
 have HE := hQQ henter
 have HP := hQQ hprog
 have HSS := hQQ hS
 have HY := hQQ hY
 have HX := hQQ hX
 have HY0 := hQQ hY0
 clear hz hok hfine hR henter hprog hS hY hX hY0
 go_enter Tryz.func12,Tryz.ntmps12
 go_wp2_with fail
 refine CL.out.mono ?_
 rintro e w1 ⟨a',cap',rfl,hr1,hn1,hm1⟩
 have DO0 : Hid (OnY w (w1.alloc (.map #[] 0)) (w1.alloc (.map #[] 0)) S Y w1.heap.size zs sem R [] (.slice none 0 0)) := hQQ
   ⟨okKn_nil zs,HR0.out,PRw.nil _ _,KnownAt.made w1,Turned.refl _ _,HY.out _ _ HY0.out (Turned.mono (hm1.alloc _) (fun _ _ q => q.elim))⟩
 have MB : Hid (More w (w1.alloc (.map #[] 0))) := hQQ (hm1.alloc _)
 have RB := hQQ (hr1.keep ((More.refl w1).alloc (.map #[] 0)) (fun _ _ q => q))
 have HL : Hid (∀ k,owned a' k → w.heap.size ≤ k ∧ k < (w1.alloc (.map #[] 0)).heap.size ∧ k ≠ w1.heap.size) := hQQ fun k q => ⟨hn1 k q,by have := hr1.lt k q; simp; omega,by have := hr1.lt k q; omega⟩
 have hwM : w.heap.size ≤ w1.heap.size := hm1.size
 have hMb : w1.heap.size < (w1.alloc (.map #[] 0)).heap.size := by simp
 clear hr1 hn1 hm1 CL
 go_wp2_with fail
 generalize w1.alloc (.map #[] 0) = wb at DO0 MB RB HL hMb ⊢
 generalize w1.heap.size = M at DO0 HL hwM hMb ⊢
 go_loopw [8] (fun u8 wr => ∃ K,OnY w wb wr S Y M zs sem R K u8 ∧ lenOf u8 = K.length) (fun u8 _ => zs.length + 1 - lenOf u8)
 case atStart => exact ⟨[],DO0.out,rfl⟩
 case round =>
   obtain ⟨K,hdo,hln⟩ := hrel
   obtain ⟨an,cn,rfl,hpn,_⟩ := hdo.row.reads
   have DO := hQQ hdo
   have hKl := hdo.okn.len
   have hsz : w.heap.size ≤ wr.heap.size := Nat.le_trans MB.out.size hdo.turn.size
   have hmr : Turned S w wr := turned_own (Turned.mono MB.out (fun _ _ q => q.elim)) hdo.turn (fun k q => by rcases q with q | q; exact .inr (by omega); exact .inl q)
   have LS := hQQ (fun k (q : S k) => HSS.out k q)
   have RUN := hQQ (runX_ok (look K) (sem K) M K.length wr hdo.known f clo S Y X HE.out (fun k q => Nat.lt_of_lt_of_le (HSS.out k q) hsz) (fun w' w'' h t => HY.out w' w'' h (t.mono (fun k _ q => Nat.le_trans hsz q))) (fun b w' w'' hb h t => HX.out b w' w'' (by omega) h (t.mono (fun k _ q => by omega))) hdo.y
     (fun W F p m y v n => HP.out K hdo.okn W F p (turned_own (F' := fun _ => False) hmr m (fun _ q => q.elim)) y v (fun k hk => Nat.le_trans hsz (n k hk))))
   have HFK := hQQ (HF.out K hdo.okn)
   have RW : Hid (RowAt wr 3 (zs.map (Value.int .i64)) a' cap') := hQQ (RB.out.keep hdo.turn (fun k q e => by rcases e with e | e; exact (HL.out k q).2.2 e; have := HSS.out k e; have := (HL.out k q).1; omega))
   clear hdo hpn hmr hsz DO0 hln
   go_wp2_with fail
   refine RUN.out.mono ?_
   intro e w2 he
   cases hs : sem K with
   | need x =>
     rw [hs] at he
     obtain ⟨rfl,hm2,hy2⟩ := he
     have HS := hQQ hs
     have hx0 : 0 ≤ x := by have := HFK.out; rw [hs] at this; exact this.1
     clear hs RUN
     obtain ⟨j,rfl⟩ : ∃ j : Nat,x = j := ⟨x.toNat,by omega⟩
     have HM2 : Hid (Turned S wr w2) := hQQ hm2
     have Y2 := hQQ hy2
     have nSM : ¬ S M := fun q => by have := HSS.out M q; omega
     have nSa : ∀ k,owned a' k → ¬ S k := fun k q r => by have := HSS.out k r; have := (HL.out k q).1; omega
     have bW : w.heap.size ≤ wb.heap.size := MB.out.size
     clear hm2 hy2
     have HFJ := HFK.out
     rw [HS.out] at HFJ
     by_cases hj : j < zs.length
     · obtain ⟨q1,q2,q3,q4⟩ := doP_need DO.out.okn HFK.out HS.out (by omega) DO.out.res
       have d1 : decide ((zs.length : Int) ≤ (j : Int)) = false := by simp; omega
       have d3 : decide (zs.length ≤ j) = false := by simp; omega
       have d2 : decide ((j : Int) < 0) = false := by simp
       have hrow := RW.out.keep HM2.out nSa
       obtain ⟨g,rfl,hg,hcell,_⟩ := hrow.reads (by simp; omega)
       have hgM : g ≠ M := (HL.out g rfl).2.2
       have cw : w2.cell? ⟨g,j,none⟩ = some (.int .i64 (wAt zs j)) := by
         refine hcell j _ ?_
         unfold wAt
         rw [List.getElem?_map,List.getElem?_eq_getElem hj]
         simp [List.getD,hj]
       obtain ⟨w3,hst,hk3,ht3⟩ := (DO.out.known.keep HM2.out nSM).store HFJ.2.1 (wAt_ok HOK.out j) (by unfold maxLen; omega)
       rw [look_snoc q4] at hk3
       have T23 := hQQ ht3
       have K3 := hQQ hk3
       have cw3 := cell_turned ht3 hgM cw
       have hg3 : g < w3.heap.size := Nat.lt_of_lt_of_le hg ht3.size
       have TB3 : Hid (Turned (fun k => k = M ∨ S k) wb w3) := hQQ ((turned_own DO.out.turn HM2.out (fun _ q => .inl (.inr q))).trans (ht3.mono (fun _ _ q => .inl q)))
       have YW3 : Hid (Y w3) := hQQ (HY.out _ _ Y2.out (ht3.mono (fun k _ q => by subst q; exact hwM)))
       have R3 : Hid (PRw wb.heap.size w3 (.slice an K.length cn) K) := hQQ ((DO.out.row.keep HM2.out (fun k hk q => by have := HSS.out k q; omega)).keep ht3 (fun k hk e => by omega))
       have NX : Hid (∀ w4 v,PRw wb.heap.size w4 v (K ++ [((j : Int),wAt zs j)]) → Turned (fun k => k = M ∨ S k) wb w4 → (∀ k ob,w3.heap[k]? = some ob → (Value.slice an K.length cn).ownBlock ≠ some k → w4.heap[k]? = some ob) → Y w4 → OnY w wb w4 S Y M zs sem R (K ++ [((j : Int),wAt zs j)]) v) := hQQ fun w4 v h1 h2 h3 h5 =>
         ⟨q1,q2,h1,by rw [List.length_append]; exact K3.out.of_block (fun ob ho => h3 M ob ho (fun e => by have := (DO.out.row.lt M e).1; omega)),h2,h5⟩
       clear hrow hcell hk3 ht3 q1 q2 q3 q4 HFJ
       generalize wAt zs j = z at cw hst cw3 NX
       go_wp2_with (at_builtin; refine wpList_pairT (S:=fun k => k = M ∨ S k) (wa:=wb) (ps:=K) (j : Int) z rfl _ _ rfl rfl R3.out TB3.out (by omega) rfl ?_; intro g4 c4 w4 h4 t4 k4 u4; have N4 := hQQ (NX.out _ _ h4 t4 k4 (HY.out _ _ YW3.out (u4.mono (fun k _ q => Nat.le_trans bW (DO.out.row.lt k q).1)))); clear h4 t4 k4 u4)
       go_roundw
       case rel => exact ⟨_,N4.out,by simp [lenOf]⟩
       case measure => simp [lenOf]; omega
     · have hn := doP_far DO.out.okn HS.out (by omega) DO.out.res
       subst hn
       have d1 : decide ((zs.length : Int) ≤ (j : Int)) = true := by simp; omega
       have d3 : decide (zs.length ≤ j) = true := by simp; omega
       have d2 : decide ((j : Int) < 0) = false := by simp
       have FIN : Hid (DidX w S Y X none (.returned (.tuple #[.slice none 0 0,.slice none 0 0,.int .i64 3])) w2) := hQQ ⟨rfl,turned_own (turned_own (Turned.mono MB.out (fun _ _ q => q.elim)) DO.out.turn (fun k q => by rcases q with q | q; exact .inr (by omega); exact .inl q)) HM2.out (fun k q => .inl q),Y2.out⟩
       clear HFJ hj
       go_wp2_with fail
       go_ret3
       exact FIN.out
   | done D =>
     rw [hs] at he
     obtain ⟨v,p,bX,rfl,hr,hm2,hy2,⟨hbX,hx2⟩,_⟩ := he
     have nSa : ∀ k,owned a' k → ¬ S k := fun k q r => by have := HSS.out k r; have := (HL.out k q).1; omega
     obtain ⟨ad,cd,rfl,hpd,hbd⟩ := hr.reads
     have hfk := HFK.out
     rw [hs] at hfk
     have FINI := hQQ (finish_ok zs D a' ad an cap' cd K.length cn w2 (RW.out.keep hm2 nSa) hpd (by have := hfk.2.2; omega) (by omega) hfk.1 (fun k q r => by have := hbd k q; have := (HL.out k r).2.1; have := DO.out.turn.size; omega))
     have FIN : Hid (∀ e w3,Finished w2 zs D a' cap' (.slice an K.length cn) e w3 → DidX w S Y X R e w3) := hQQ fun e w3 h => doX_fin DO.out hs MB.out hwM (fun k q => ⟨(HL.out k q).1,(HL.out k q).2.1⟩) HSS.out hm2 h HY.out HX.out hy2 (Nat.le_trans DO.out.turn.size hbX) hx2
     clear hs RUN hr hm2 hpd hbd hfk hy2 hx2
     go_wp2_with fail
     refine FINI.out.mono ?_
     intro e w3 he
     have hfin := FIN.out e w3 he
     rcases he.2 with ⟨_,rfl,_⟩ | ⟨_,rfl⟩
     · have F2 := hQQ hfin
       clear hfin he
       go_wp2_with fail
       go_ret3
       exact F2.out
     · have F2 := hQQ hfin
       clear hfin he
       go_wp2_with fail
       go_ret3
       exact F2.out
theorem begin_at (y0 y1 y2 y3 y4 y5 y6 y7 y8 y9 y10 : Int) (f0 : (Lit.int .i64 y0).wf = true) (f1 : (Lit.int .i64 y1).wf = true) (f2 : (Lit.int .i64 y2).wf = true) (f3 : (Lit.int .i64 y3).wf = true) (f4 : (Lit.int .i64 y4).wf = true) (f5 : (Lit.int .i64 y5).wf = true) (f6 : (Lit.int .i64 y6).wf = true) (f7 : (Lit.int .i64 y7).wf = true) (f8 : (Lit.int .i64 y8).wf = true) (f9 : (Lit.int .i64 y9).wf = true) (f10 : (Lit.int .i64 y10).wf = true) : ∃ d : Cfg,d.Small ∧ Hid (∀ W,Calls Tryz.prog 24 #[.agg #[.int .i64 y0,.int .i64 y1,.int .i64 y2,.int .i64 y3,.int .i64 y4,.int .i64 y5,.int .i64 y6,.int .i64 y7,.int .i64 y8,.int .i64 y9,.int .i64 y10]] W (Begun8 W d)) := by
 obtain ⟨wk,cp,pg,st,tr,wt,ck,pr,ca,bi,ba,R0,S0⟩ := some_gives y0 y1 y2 y3 y4 y5 y6 y7 y8 y9 y10 f0 f1 f2 f3 f4 f5 f6 f7 f8 f9 f10
 have R : Cfg.Ok ⟨wk,cp,pg,st,tr,wt,ck,pr,ca,bi,ba⟩ := R0
 exact ⟨_,small_small R,fun W => begin_any R y0 y1 y2 y3 y4 y5 y6 y7 y8 y9 y10 W S0.out⟩
def BoxV (g : Nat) (w : World) (v : Value) : Prop := w.heap[g]? = some (.cells #[v] 29 (0,0))
structure L10Y (c : Cfg) (g1 g2 g3 : Nat) (w : World) : Prop where
 h1 : w.heap[g1]? = some (.cells c.arr 28 (0,0))
 h2 : ∃ v,BoxV g2 w v
 h3 : ∃ v,BoxV g3 w v
def BoxN (g : Nat) (w : World) (x : Int) : Prop := w.heap[g]? = some (.cells #[.int .i64 x] 3 (0,0))
structure L9Y (c : Cfg) (g1 g2 g3 g4 : Nat) (w : World) : Prop where
 h1 : w.heap[g1]? = some (.cells c.arr 28 (0,0))
 h2 : ∃ x,BoxN g2 w x
 h3 : ∃ x,BoxB g3 w x
 h4 : ∃ x,BoxN g4 w x
def row4 (t : V4) : Array Value := #[.int .i64 t.1,.int .i64 t.2.1,.int .i64 t.2.2.1,.int .i64 t.2.2.2]
def Box4 (g : Nat) (w : World) (t : V4) : Prop := w.heap[g]? = some (.cells (row4 t) 52 (0,0))
def put4 (t : V4) (j : Nat) (x : Int) : V4 := if j = 0 then (x,t.2) else if j = 1 then (t.1,x,t.2.2) else if j = 2 then (t.1,t.2.1,x,t.2.2.2) else (t.1,t.2.1,t.2.2.1,x)
theorem row_put (t : V4) {j : Nat} (h : j ≤ 3) (x : Int) : (row4 t).setIfInBounds j (.int .i64 x) = row4 (put4 t j x) := by
 match j,h with
 | 0,_ => rfl
 | 1,_ => rfl
 | 2,_ => rfl
 | 3,_ => rfl
def live11N (us pg st : Int) : Nat → Nat → V4 → Prg V4
 | 0,_,t => bindP (freeP pg st 4) fun f => pureP (put4 t 3 f)
 | m + 1,j,t => bindP (grabP us pg st 4) fun x => live11N us pg st m (j + 1) (put4 t j x.1)
theorem live11_eq (us pg st : Int) (t : V4) : live11N us pg st 3 0 t = live11N us pg st 3 0 (0,0,0,0) := rfl
theorem MidV.own {W wr w2 : World} {F S F' : Nat → Prop} {p n : Nat} {kn : Int → Option Int} {D : List KV} (h : MidV W wr F S p kn n D F') {b : Nat} (hS : b < W.heap.size → S b) (t : Turned (fun k => k = b) wr w2) (nF : ¬ F' b) {cs : Array Value} {ty : TypeId} {fr : Nat × Nat} (hb : wr.heap[b]? = some (.cells cs ty fr)) : MidV W w2 F S p kn n D F' :=
 ⟨h.view.keepS t (fun k q e => nF (e ▸ q)) (fun k es cl e q => by subst e; rw [hb] at q; cases q),h.from',turned_own h.turn t (fun k q => by
     subst q
     rcases Nat.lt_or_ge k W.heap.size with r | r
     · exact .inl (.inr (hS r))
     · exact .inr r),h.inv⟩
theorem sound_live11 (us pg st : Int) : ∀ m j t,Sound (live11N us pg st m j t)
 | 0,_,t => sound_bind (sound_freeP _ _ _) fun _ => sound_pure _
 | m + 1,j,t => sound_bind (sound_grab _ _ _ _) fun x => sound_live11 us pg st m _ _
theorem good_live11 {pg st : Int} {n : Nat} (H : HdIn pg st n) (us : Int) : ∀ m j t,Good n (fun _ => True) (live11N us pg st m j t)
 | 0,_,t => good_bind (good_freeP H _) fun _ _ => good_pure n trivial
 | m + 1,j,t => good_bind (good_grab H _ _) fun x _ => good_live11 H us m _ _
structure L11Y (c : Cfg) (g1 g2 bt : Nat) (w : World) : Prop where
 h1 : w.heap[g1]? = some (.cells c.arr 28 (0,0))
 h2 : ∃ t,Box4 g2 w t
 sz : SzAt bt w
theorem L11Y.keep {c : Cfg} {g1 g2 bt : Nat} {w w' : World} {S : Nat → Prop} (h : L11Y c g1 g2 bt w) (t : Turned S w w') (n1 : ¬ S g1) (n0 : ¬ S 0) (nb : ¬ S bt) (b : ∃ t,Box4 g2 w' t) : L11Y c g1 g2 bt w' :=
 ⟨(t.block g1 (lt_of_heap h.h1) n1).trans h.h1,b,h.sz.keep t n0 nb⟩
theorem live11_clo {c : Cfg} (R : c.Ok) {n : Nat} (H : HdIn c.pg c.st n) (hn : n ≤ 10000) (F : Nat → Prop) (p g1 g2 bt : Nat) (kn : Int → Option Int) (W : World) (hv : ViewAt W F p kn []) (hk : OkK kn) (hY : L11Y c g1 g2 bt W) (n1 : ¬ F g1) (n2 : ¬ F g2) (n0 : ¬ F 0) (nb : ¬ F bt) (hd : g1 ≠ g2 ∧ 0 ≠ g2 ∧ bt ≠ g2) (a0 : V4)
   (ht : ∀ x D,live11N c.us c.pg c.st 3 0 (0,0,0,0) kn [] = .ok x D → x = a0) :
   Calls Tryz.prog 21 #[.pointer (some ⟨p,0,none⟩),.pointer (some ⟨g1,0,none⟩),.pointer (some ⟨g2,0,none⟩)] W (WentY W F (fun b => b = g2) (fun w' => L11Y c g1 g2 bt w') (fun w' => Box4 g2 w' a0) p kn (ranOf (live11N c.us c.pg c.st 3 0 (0,0,0,0) kn []))) := by
 obtain ⟨t0,h2⟩ := hY.h2
 obtain ⟨Rr,hR⟩ : ∃ Rr,live11N c.us c.pg c.st 3 0 (0,0,0,0) kn [] = Rr := ⟨_,rfl⟩
 rw [hR] at ht ⊢
 have hR := (congrFun (congrFun (live11_eq c.us c.pg c.st t0) kn) []).trans hR
 have l1 := lt_of_heap hY.h1
 have l2 := lt_of_heap h2
 have l0 := hY.sz.lt0
 have lb := hY.sz.lt
 have HYY := hQQ hY
 have HK := hQQ hk
 have HR := hQQ R
 have HH := hQQ H
 have M0 : Hid (MidV W W F (fun b => b = g2) p kn n [] F) := hQQ (MidV.begin hv (invD_nil n))
 have B0 : Hid (Box4 g2 W t0) := hQQ h2
 have nf2 : ∀ D wr {F'},MidV W wr F (fun b => b = g2) p kn n D F' → ¬ F' g2 := fun D wr F' h => h.off l2 n2
 have KY : Hid (∀ wr,Turned (fun b => F b ∨ b = g2) W wr → (∃ t,Box4 g2 wr t) → L11Y c g1 g2 bt wr) := hQQ fun wr t b => hY.keep t (by rintro (q | q); exact n1 q; exact hd.1 q) (by rintro (q | q); exact n0 q; exact hd.2.1 q) (by rintro (q | q); exact nb q; exact hd.2.2 q) b
 have KL : Hid (∀ wr D' F',MidV W wr F (fun b => b = g2) p kn n D' F' → wr.heap[g1]? = some (.cells c.arr 28 (0,0)) ∧ SzAt bt wr ∧ ¬ F' 0 ∧ ¬ F' bt) := hQQ fun wr D' F' h => ⟨mid_own h hY.h1 n1 (fun q => hd.1 q),hY.sz.keep h.turn (by rintro (q | q); exact n0 q; exact hd.2.1 q) (by rintro (q | q); exact nb q; exact hd.2.2 q),h.off l0 n0,h.off lb nb⟩
 have NEED : Hid (∀ a w2 t,Rr = .need a → DeadAt w2 p a → Turned (fun b => F b ∨ b = g2) W w2 → Box4 g2 w2 t → WentY W F (fun b => b = g2) (fun w' => L11Y c g1 g2 bt w') (fun w' => Box4 g2 w' a0) p kn (ranOf Rr) (.panicked (endOf p)) w2) := hQQ fun a w2 t e hd' ht' b =>
   wy_need (ranOf_need e) hd' ht' (KY.out _ ht' ⟨t,b⟩)
 have DONE : Hid (∀ x w2 D F',Rr = .ok x D → MidV W w2 F (fun b => b = g2) p kn n D F' → Box4 g2 w2 x → WentY W F (fun b => b = g2) (fun w' => L11Y c g1 g2 bt w') (fun w' => Box4 g2 w' a0) p kn (ranOf Rr) (.returned (.tuple #[])) w2) := hQQ fun x w2 D F' e h b => by
   have := ht x D e
   subst this
   exact wy_done h (ranOf_ok e) (KY.out _ h.turn ⟨_,b⟩) b
 have HRr := hQQ hR
 have HN := hQQ hn
 clear hv hk hY R H hR ht h2 n1 n0 nb hn
 go_enter Tryz.func21,Tryz.ntmps21
 go_wp2_with fail
 go_loopw [4] (fun i wr => ∃ (j : Nat) (t : V4) (D : List KV) (F' : Nat → Prop),i = .int .i64 (j : Int) ∧ j ≤ 3 ∧ MidV W wr F (fun b => b = g2) p kn n D F' ∧ Box4 g2 wr t ∧ live11N c.us c.pg c.st (3 - j) j t kn D = Rr) (fun i _ => (3 - (intOf i)).toNat)
 case atStart => exact ⟨0,t0,[],F,rfl,by omega,M0.out,B0.out,HRr.out⟩
 case round =>
   obtain ⟨j,t,D1,F1,rfl,hj,M1',B1',E1'⟩ := hrel
   have M1 := hQQ M1'
   have B1 := hQQ B1'
   have L1 := hQQ (KL.out _ _ _ M1')
   by_cases h3 : j = 3
   · subst h3
     have E1 := hQQ (show bindP (freeP c.pg c.st 4) (fun f => pureP (put4 t 3 f)) kn D1 = Rr from E1')
     clear M1' B1' E1' hj
     go_wp2_with (refine wpList_load_rowG rfl 28 _ rfl _ rfl 28 _ _ _ L1.out.1 Tryz.underlying28 rfl (by kernel_rfl) ?_)
     refine (g_Free HR.out HH.out HN.out F1 p kn D1 4 wr M1.out.view HK.out M1.out.inv bt L1.out.2.1 L1.out.2.2.1 L1.out.2.2.2).mono ?_
     intro e w3 he
     rcases M1.out.step (More.refl _) HK.out (good_freeP HH.out _) he with ⟨a',hE,rfl,hd',ht',hk'⟩ | ⟨x3,D3,F3,hE,rfl,M3',hq3,hk',hf'⟩
     · exact ⟨rfl,NEED.out a' w3 _ (E1.out.symm.trans (bindP_need hE)) hd' ht' (hk' _ _ (nf2 _ _ M1.out) B1.out)⟩
     have B3 : Hid (Box4 g2 w3 t) := hQQ (hk' _ _ (nf2 _ _ M1.out) B1.out)
     have E3 := hQQ ((bindP_ok hE).symm.trans E1.out)
     have M3 := hQQ M3'
     clear he hE hk' hf' M3' hq3
     go_wp2_with (refine wpList_store_int rfl 3 _ _ rfl rfl g2 3 rfl x3 rfl (row4 t) _ B3.out (by simp [row4]) (by kernel_rfl) ?_; rw [row_put t (by omega)]; intro w4 hb4 ht4; have B4 : Hid (Box4 g2 w4 (put4 t 3 x3)) := hQQ hb4; have M4 := hQQ (M3.out.own (fun _ => rfl) ht4 (nf2 _ _ M3.out) B3.out); clear hb4 ht4)
     go_end0
     exact DONE.out _ _ _ _ E3.out.symm M4.out B4.out
   · rcases (show j = 0 ∨ j = 1 ∨ j = 2 by omega) with rfl | rfl | rfl
     · skip
       have E1 := hQQ (show bindP (grabP c.us c.pg c.st 4) (fun x => live11N c.us c.pg c.st 2 1 (put4 t 0 x.1)) kn D1 = Rr from E1')
       clear M1' B1' E1' hj h3
       go_wp2_with (refine wpList_load_rowG rfl 28 _ rfl _ rfl 28 _ _ _ L1.out.1 Tryz.underlying28 rfl (by kernel_rfl) ?_)
       refine (g_Grab HR.out HH.out HN.out F1 p kn D1 4 wr M1.out.view HK.out M1.out.inv bt L1.out.2.1 L1.out.2.2.1 L1.out.2.2.2).mono ?_
       intro e w3 he
       rcases M1.out.step (More.refl _) HK.out (good_grab HH.out _ _) he with ⟨a',hE,rfl,hd',ht',hk'⟩ | ⟨⟨x3,ok3⟩,D3,F3,hE,rfl,M3',hq3,hk',hf'⟩
       · exact ⟨rfl,NEED.out a' w3 _ (E1.out.symm.trans (bindP_need hE)) hd' ht' (hk' _ _ (nf2 _ _ M1.out) B1.out)⟩
       have B3 : Hid (Box4 g2 w3 t) := hQQ (hk' _ _ (nf2 _ _ M1.out) B1.out)
       have E3 := hQQ ((bindP_ok hE).symm.trans E1.out)
       have M3 := hQQ M3'
       clear he hE hk' hf' M3' hq3
       go_wp2_with (refine wpList_store_int rfl 3 _ _ rfl rfl g2 0 rfl x3 rfl (row4 t) _ B3.out (by simp [row4]) (by kernel_rfl) ?_; rw [row_put t (by omega)]; intro w4 hb4 ht4; have B4 : Hid (Box4 g2 w4 (put4 t 0 x3)) := hQQ hb4; have M4 := hQQ (M3.out.own (fun _ => rfl) ht4 (nf2 _ _ M3.out) B3.out); clear hb4 ht4)
       refine ⟨⟨1,put4 t 0 x3,D3,F3,rfl,by omega,M4.out,B4.out,E3.out⟩,?_⟩
       simp [intOf]
     · skip
       have E1 := hQQ (show bindP (grabP c.us c.pg c.st 4) (fun x => live11N c.us c.pg c.st 1 2 (put4 t 1 x.1)) kn D1 = Rr from E1')
       clear M1' B1' E1' hj h3
       go_wp2_with (refine wpList_load_rowG rfl 28 _ rfl _ rfl 28 _ _ _ L1.out.1 Tryz.underlying28 rfl (by kernel_rfl) ?_)
       refine (g_Grab HR.out HH.out HN.out F1 p kn D1 4 wr M1.out.view HK.out M1.out.inv bt L1.out.2.1 L1.out.2.2.1 L1.out.2.2.2).mono ?_
       intro e w3 he
       rcases M1.out.step (More.refl _) HK.out (good_grab HH.out _ _) he with ⟨a',hE,rfl,hd',ht',hk'⟩ | ⟨⟨x3,ok3⟩,D3,F3,hE,rfl,M3',hq3,hk',hf'⟩
       · exact ⟨rfl,NEED.out a' w3 _ (E1.out.symm.trans (bindP_need hE)) hd' ht' (hk' _ _ (nf2 _ _ M1.out) B1.out)⟩
       have B3 : Hid (Box4 g2 w3 t) := hQQ (hk' _ _ (nf2 _ _ M1.out) B1.out)
       have E3 := hQQ ((bindP_ok hE).symm.trans E1.out)
       have M3 := hQQ M3'
       clear he hE hk' hf' M3' hq3
       go_wp2_with (refine wpList_store_int rfl 3 _ _ rfl rfl g2 1 rfl x3 rfl (row4 t) _ B3.out (by simp [row4]) (by kernel_rfl) ?_; rw [row_put t (by omega)]; intro w4 hb4 ht4; have B4 : Hid (Box4 g2 w4 (put4 t 1 x3)) := hQQ hb4; have M4 := hQQ (M3.out.own (fun _ => rfl) ht4 (nf2 _ _ M3.out) B3.out); clear hb4 ht4)
       refine ⟨⟨2,put4 t 1 x3,D3,F3,rfl,by omega,M4.out,B4.out,E3.out⟩,?_⟩
       simp [intOf]
     · skip
       have E1 := hQQ (show bindP (grabP c.us c.pg c.st 4) (fun x => live11N c.us c.pg c.st 0 3 (put4 t 2 x.1)) kn D1 = Rr from E1')
       clear M1' B1' E1' hj h3
       go_wp2_with (refine wpList_load_rowG rfl 28 _ rfl _ rfl 28 _ _ _ L1.out.1 Tryz.underlying28 rfl (by kernel_rfl) ?_)
       refine (g_Grab HR.out HH.out HN.out F1 p kn D1 4 wr M1.out.view HK.out M1.out.inv bt L1.out.2.1 L1.out.2.2.1 L1.out.2.2.2).mono ?_
       intro e w3 he
       rcases M1.out.step (More.refl _) HK.out (good_grab HH.out _ _) he with ⟨a',hE,rfl,hd',ht',hk'⟩ | ⟨⟨x3,ok3⟩,D3,F3,hE,rfl,M3',hq3,hk',hf'⟩
       · exact ⟨rfl,NEED.out a' w3 _ (E1.out.symm.trans (bindP_need hE)) hd' ht' (hk' _ _ (nf2 _ _ M1.out) B1.out)⟩
       have B3 : Hid (Box4 g2 w3 t) := hQQ (hk' _ _ (nf2 _ _ M1.out) B1.out)
       have E3 := hQQ ((bindP_ok hE).symm.trans E1.out)
       have M3 := hQQ M3'
       clear he hE hk' hf' M3' hq3
       go_wp2_with (refine wpList_store_int rfl 3 _ _ rfl rfl g2 2 rfl x3 rfl (row4 t) _ B3.out (by simp [row4]) (by kernel_rfl) ?_; rw [row_put t (by omega)]; intro w4 hb4 ht4; have B4 : Hid (Box4 g2 w4 (put4 t 2 x3)) := hQQ hb4; have M4 := hQQ (M3.out.own (fun _ => rfl) ht4 (nf2 _ _ M3.out) B3.out); clear hb4 ht4)
       refine ⟨⟨3,put4 t 2 x3,D3,F3,rfl,by omega,M4.out,B4.out,E3.out⟩,?_⟩
       simp [intOf]
def live2 : Cfg := ⟨2,2,2,2,0,0,1,2,0,0,2⟩
theorem live2_ok : live2.Ok := by constructor <;> decide
theorem live2_words : live2.words = (320 : Nat) := by decide
theorem live2_us : live2.us = 256 := by decide
theorem live2_hd : HdIn live2.pg live2.st 320 := { st1 := by decide,st2 := by decide,pg1 := by decide,pg2 := by decide,top := by decide,top5 := by decide,top62 := by decide }
def liveS11 : Cfg := ⟨withinV 0 1 64,withinV 0 1 8,withinV 0 1 256,withinV 0 1 64,withinV 0 0 16,withinV 0 0 64,withinV 0 1 1099511627776,withinV 0 1 8,withinV 0 0 8,withinV 0 0 16,withinV 0 1 8⟩
theorem liveS11_ok : liveS11.Ok := some_ok 0 0 0 0 0 0 0 0 0 0 0
theorem liveS11_is : smallC liveS11 = live2 := by rfl
def live11D : List KV := [(5,1),(6,5),(7,5),(8,0),(9,1),(10,3),(11,1),(12,0),(13,0),(14,0),(15,0),(76,2)]
theorem live11_run : live11N live2.us live2.pg live2.st 3 0 (0,0,0,0) (allK (zeros 320)) [] = .ok (256,272,288,1) live11D := by kernel_rfl
theorem live11_ends : ∃ K',doP (fun K => ranOf (live11N live2.us live2.pg live2.st 3 0 (0,0,0,0) (look K) [])) (zeros 320) ((zeros 320).length + 1) [] = some (applyD (zeros 320) live11D,K') := by
 have H : HdIn live2.pg live2.st (zeros 320).length := by rw [zeros_len]; exact live2_hd
 obtain ⟨K',_,h⟩ := doP_run (sound_live11 _ _ _ _ _ _) (good_live11 H _ _ _ _) (okW_zeros 320) live11_run ((zeros 320).length + 1) [] (okKn_nil _) (by simp)
 exact ⟨K',h⟩
theorem live11_do (w : World) (g1 g2 bt : Nat) (a : Option Addr) (cap : Nat) (hY : L11Y live2 g1 g2 bt w) (hd : g1 ≠ g2 ∧ 0 ≠ g2 ∧ bt ≠ g2) (hz : IsWords w a (zeros 320)) :
   Calls Tryz.prog 12 #[.slice a 320 cap,.func (.func 21) #[] #[.pointer (some ⟨g1,0,none⟩),.pointer (some ⟨g2,0,none⟩)]] w (fun e w' => ∃ v1 v2,e = .returned (.tuple #[v1,v2,.int .i64 0]) ∧ Rw w.heap.size w' v1 (applyD (zeros 320) live11D) ∧ w'.heap[g1]? = some (.cells live2.arr 28 (0,0)) ∧ Box4 g2 w' (256,272,288,1) ∧ Turned (fun b => b = g2) w w') := by
 have hl : (zeros 320).length = 320 := zeros_len 320
 obtain ⟨K',hK'⟩ := live11_ends
 have l1 := lt_of_heap hY.h1
 have l2 : g2 < w.heap.size := by obtain ⟨x,h⟩ := hY.h2; exact lt_of_heap h
 have l0 := hY.sz.lt0
 have lb := hY.sz.lt
 have H : HdIn live2.pg live2.st (zeros 320).length := by rw [hl]; exact live2_hd
 have M := doY_ok a cap (zeros 320) (fun K => ranOf (live11N live2.us live2.pg live2.st 3 0 (0,0,0,0) (look K) [])) (some (applyD (zeros 320) live11D,K')) (zeros 320).length w hz (by omega) (okW_zeros _) (fine_of (good_live11 H _ _ _ _) (okW_zeros _) (by omega)) (by omega) hK' 21 #[.pointer (some ⟨g1,0,none⟩),.pointer (some ⟨g2,0,none⟩)] (fun b => b = g2)
   (fun w' => L11Y live2 g1 g2 bt w') (fun w' => Box4 g2 w' (256,272,288,1))
   (fun k q => by subst q; exact l2)
   (fun w' w'' y t => y.keep t (by omega) (by omega) (by omega) (by obtain ⟨z,q⟩ := y.h2; exact ⟨z,(t.block g2 (lt_of_heap q) (by omega)).trans q⟩))
   (fun w' w'' y t => (t.block g2 (lt_of_heap y) (by omega)).trans y) hY (enters_of Tryz.func21 (by kernel_rfl) rfl)
   (fun K hK W F p t y hv hF => live11_clo live2_ok live2_hd (by omega) F p g1 g2 bt (look K) W hv (okK_of hK (okW_zeros _)) y (fun q => by have := hF _ q; omega) (fun q => by have := hF _ q; omega) (fun q => by have := hF _ q; omega) (fun q => by have := hF _ q; omega) hd (256,272,288,1)
     (fun x D e => (sound_same (sound_live11 _ _ _ _ _ _) hK live11_run e).1))
 rw [hl] at M
 refine M.mono ?_
 rintro e w' ⟨v1,v2,rfl,r1,_,t,y,x⟩
 exact ⟨v1,v2,rfl,r1,y.h1,x,t⟩
theorem lives11_ok (bt : Nat) (w : World) (hs : SzAt bt w) : Calls Tryz.prog 4 #[] w (Gives w (.bool true)) := by
 have SM := hQQ (small_any liveS11_ok 0 0 0 0 0 0 0 0 0 0 0 _ w (fun W => some_any 0 0 0 0 0 0 0 0 0 0 0 W (by omega) (by omega) (by omega) (by omega) (by omega) (by omega) (by omega) (by omega) (by omega) (by omega) (by omega)) rfl)
 have D0 : Hid ((smallC liveS11).cells.setIfInBounds 2 (.int .i64 2) = live2.cells) := hQQ (by rw [liveS11_is]; rfl)
 generalize smallC liveS11 = d at SM D0
 have R5 := hQQ live2_ok
 have hc4 := cells_one d
 have HS := hQQ hs
 have l0 := hs.lt0
 have lb := hs.lt
 clear hs
 go_enter Tryz.func4,Tryz.ntmps4
 go_wp2_with fail
 refine (SM.out).mono ?_
 rintro e w1 ⟨rfl,m1⟩
 have MA := hQQ m1
 have hs1 := m1.size
 have C2 := row_new w1 #[.int .i64 0,.int .i64 0,.int .i64 0,.int .i64 0,.int .i64 0,.int .i64 0,.int .i64 0,.int .i64 0,.int .i64 0,.int .i64 0,.int .i64 0] 23
 clear m1 SM
 go_wp2_with (first
   | (refine wpList_store_row rfl 23 _ _ rfl w1.heap.size d.cells rfl rfl 23 _ C2 (by kernel_rfl) rfl hc4 ?_; have C3 := setRow_heap _ _ _ d.cells _ _ C2; have M5 : Hid (More w ((w1.alloc (.cells #[.int .i64 0,.int .i64 0,.int .i64 0,.int .i64 0,.int .i64 0,.int .i64 0,.int .i64 0,.int .i64 0,.int .i64 0,.int .i64 0,.int .i64 0] 23)).setRow w1.heap.size d.cells)) := hQQ ((MA.out.alloc _).setRow _ _ hs1); generalize World.setRow _ _ _ = w5 at C3 M5 ⊢; clear C2)
   | (refine wpList_store_int rfl 3 _ _ rfl rfl w1.heap.size 2 rfl 2 rfl _ _ C3 (by simp [Cfg.cells]) (by kernel_rfl) ?_; rw [D0.out]; intro w6 hb6 ht6; have HB := hQQ hb6; have HM : Hid (More w w6) := hQQ (Turned.mono (turned_own (F:=fun _ => False) M5.out ht6 (fun k q => .inr (by omega))) (fun _ _ q => q)); clear hb6 ht6)
   | (refine wpList_load_row rfl 23 _ rfl w1.heap.size rfl 23 _ _ _ HB.out Tryz.underlying23 rfl (by kernel_rfl) ?_))
 refine (y_of R5.out _).mono ?_
 rintro e w7 ⟨rfl,m7⟩
 have D1 := row_new w7 zero24 28
 have D2 := setRow_heap (w7.alloc (.cells zero24 28)) w7.heap.size _ live2.arr _ _ D1
 have M7 := HM.out.trans m7
 have M8 : More w ((w7.alloc (.cells zero24 28)).setRow w7.heap.size live2.arr) := (M7.alloc _).setRow _ _ M7.size
 have s8 : ((w7.alloc (.cells zero24 28)).setRow w7.heap.size live2.arr).heap.size = w7.heap.size + 1 := by simp
 have hs7 := M7.size
 have D1 := hQQ D1
 obtain ⟨w8,e8⟩ : ∃ w8,(w7.alloc (.cells zero24 28)).setRow w7.heap.size live2.arr = w8 := ⟨_,rfl⟩
 rw [e8] at D2 M8 s8
 obtain ⟨w9,e9,ha,m9,s9⟩ := entry1 w8 (.cells (row4 (0,0,0,0)) 52)
 simp only [row4] at e9
 have M13 := hQQ (M8.trans m9)
 have HD := hQQ (m9.block D2)
 have HA : Hid (Box4 w8.heap.size w9 (0,0,0,0)) := hQQ ha
 have l7 : w7.heap.size < w8.heap.size := by omega
 clear m7 HM HB C3 M5 M7 M8 ha m9 hc4 D2 s8
 go_wp2_with (first
   | (refine wpList_store_row rfl 28 _ _ rfl w7.heap.size live2.arr rfl rfl 28 _ D1.out (by kernel_rfl) rfl (arr_one live2) ?_)
   | (refine wpList_load_row rfl 28 _ rfl w7.heap.size rfl 28 _ _ _ HD.out Tryz.underlying28 rfl (by kernel_rfl) ?_))
 refine (y_words R5.out _).mono ?_
 rw [live2_words]
 rintro e w14 ⟨rfl,m14⟩
 obtain ⟨w15,hmk,N1,m15,s15⟩ : ∃ w15,(Instr.makeSlice 29 (.int .i64 320) (.int .i64 320)).run Tryz.prog w14 = .ok (.slice (some ⟨w14.heap.size,0,none⟩) 320 320) w15 ∧ w15.heap[w14.heap.size]? = some (.cells (rowOf (zeros 320)) 3 (0,0)) ∧ More w14 w15 ∧ w15.heap.size = w14.heap.size + 1 :=
   ⟨_,run_make_zeros 320 (by omega) w14,row_new w14 _ _,(More.refl _).alloc _,by simp⟩
 have mm := m14.trans m15
 have M15 := hQQ (M13.out.trans mm)
 have DO := hQQ (live11_do w15 w7.heap.size w8.heap.size bt (some ⟨w14.heap.size,0,none⟩) 320 ⟨mm.block HD.out,⟨_,mm.block HA.out⟩,HS.out.more M15.out⟩ ⟨by omega,by omega,by omega⟩ (zeros_row _ _ _ N1))
 have hw8 : w.heap.size ≤ w8.heap.size := by omega
 clear m14 m15 mm N1 s15 HD HA M13 e8 e9 D1 s9
 go_wp2_with fail
 refine DO.out.mono ?_
 rintro e w16 ⟨v1,v2,rfl,hr,h1,hx,ht⟩
 have L1 := hQQ h1
 have HX := hQQ hx
 have c0 : w16.cell? ⟨w8.heap.size,0,none⟩ = some (.int .i64 256) := cell_more (j:=0) hx (More.refl _) rfl
 have c1 : w16.cell? ⟨w8.heap.size,1,none⟩ = some (.int .i64 272) := cell_more (j:=1) hx (More.refl _) rfl
 have c2 : w16.cell? ⟨w8.heap.size,2,none⟩ = some (.int .i64 288) := cell_more (j:=2) hx (More.refl _) rfl
 have c3 : w16.cell? ⟨w8.heap.size,3,none⟩ = some (.int .i64 1) := cell_more (j:=3) hx (More.refl _) rfl
 have FIN := hQQ (Turned.mono (turned_own (F:=fun _ => False) M15.out ht (fun k q => .inr (by omega))) (fun _ _ q => q))
 have US : Hid (∀ W,Calls Tryz.prog 23 #[.agg live2.arr] W (Gives W (.int .i64 256))) := hQQ fun W => by rw [← live2_us]; exact xuser R5.out W
 clear hr h1 hx ht DO M15
 go_wp2_with fail
 refine wp_region_more (by kernel_rfl) (by kernel_rfl) ?_
 iterate 9
   with_reducible refine wpQuiet_step (fun K hK => ?_)
   go_simp
   first
   | (refine hK _ ?_; clear hK K)
   | (apply Exists.intro
      refine ⟨fun W hW => ?_,hK _ ?_⟩
      first
      | (have c0' := hW.cell c0; go_simp; try rfl)
      clear hK K)
 refine wpQuiet_load_row rfl 28 _ rfl _ rfl 28 _ _ _ (fun W hW => hW.block L1.out) Tryz.underlying28 rfl (by kernel_rfl) ?_
 iterate 1
   with_reducible refine wpQuiet_step (fun K hK => ?_)
   go_simp
   first
   | (refine hK _ ?_; clear hK K)
   | (apply Exists.intro
      refine ⟨fun W hW => ?_,hK _ ?_⟩
      first
      | (go_at_call 23; exact Calls.more hW (US.out W))
      | (go_simp; try rfl)
      clear hK K)
 iterate 24
   with_reducible refine wpQuiet_step (fun K hK => ?_)
   go_simp
   first
   | (refine hK _ ?_; clear hK K)
   | (apply Exists.intro
      refine ⟨fun W hW => ?_,hK _ ?_⟩
      first
      | (have c0' := hW.cell c0; have c1' := hW.cell c1; have c2' := hW.cell c2; have c3' := hW.cell c3; go_simp; try rfl)
      clear hK K)
 refine wpQuiet_nil ?_
 intro w4 m4
 have F17 := hQQ (FIN.out.trans m4)
 clear m4
 go_wp2_with fail
 go_ret
 exact ⟨rfl,F17.out⟩
theorem wpList_pushB {ops : Array Oper} {rest : List Oper} {o : Oper} {a : Act} {Q : Exit → Act → World → Prop} {w wa : World} {v : Value} {xs : List Int} (y : Int) (hgd : o.guard = none) (s x : Operand)
   (ho : o.op = .call { callee := .builtin .append,args := #[s,x],argTypes := #[30,30] })
   (hs : a.eval s = v) (hn : Rw wa.heap.size w v xs) (hW : More wa w) (hl : xs.length ≤ 1000000)
   (hx : a.eval x = .slice (some ⟨w.heap.size,0,none⟩) 1 1)
   (h : ∀ v' w',Rw wa.heap.size w' v' (xs ++ [y]) → More wa w' → wpList Tryz.prog ops Q rest (a.put o.dst v') w') : wpList Tryz.prog ops Q (o :: rest) a (w.alloc (.cells #[.int .i64 y] 3)) := by
 obtain ⟨i,i1,i2,i3,i4⟩ := int_info
 have hn' := hn.more ((More.refl w).alloc (.cells #[.int .i64 y] 3))
 have hB := heap_new w (.cells #[.int .i64 y] 3)
 refine wpList_append_lies _ hgd s x 30 ho wa.heap.size 3 i _ 1 8 Tryz.underlying30 i1 i2 i3 i4 rfl (by omega) v xs.length _ hs hn' ⟨w.heap.size,0,none⟩ 1 1 [.int .i64 y] hx (by simp)
   (fun j u hu => World.news_of_block hB j u (by simpa using hu)) (by intro u hu; simp at hu; subst hu; rfl) (by omega) (by simp only [maxLen]; omega) (by omega) (by have := hW.size; simp; omega) _ rfl ?_
 intro g cap w1 hown hgrow _ _
 refine h _ w1 ?_ (more_of_grown (hW.alloc _) hn' hgrow)
 unfold Rw
 rw [List.length_append,List.map_append]
 exact hown
def atV (us : Int) (bs : List Int) (kind m : Int) : Int :=
 if kind = 2 ∧ bs ≠ [] then bs.getD ((IntKind.u64.wrap m).tmod bs.length).toNat 0 else wrap64 (us + wrap64 ((IntKind.u64.wrap m).tmod 1024))
theorem uN_0 (m : Int) : 0 ≤ IntKind.u64.wrap m := by rw [IntKind.wrap_u64]; omega
theorem remU_b {u n : Int} (h : 0 ≤ u) (hn : 1 ≤ n) (hm : n ≤ 1000000) : 0 ≤ u.tmod n ∧ u.tmod n < n ∧ IntKind.i64.wrap (u.tmod n) = u.tmod n := by
 rw [Int.tmod_eq_emod_of_nonneg h]
 have h1 := Int.emod_nonneg u (show n ≠ 0 by omega)
 have h2 := Int.emod_lt_of_pos u (show 0 < n by omega)
 exact ⟨h1,h2,wrap_in (by omega) (by omega)⟩
theorem l11_at (us : Int) (bs : List Int) (kind k m : Int) (b : Nat) (v : Value) (w : World) (hr : Rw b w v bs) (hl : bs.length ≤ 1000) :
   Calls Tryz.prog 26 #[v,.int .i64 us,.agg #[.int .i64 kind,.int .i64 k,.int .i64 m]] w (Gives w (.int .i64 (atV us bs kind m))) := by
 obtain ⟨a,cap,rfl,rd⟩ := hr.reads
 have hu := hQQ (uN_0 m)
 obtain ⟨res,hres⟩ : ∃ res,atV us bs kind m = res := ⟨_,rfl⟩
 rw [hres]
 unfold atV at hres
 obtain ⟨w1,e1,hb1,m1,s1⟩ := entry1 w (.cells #[.int .i64 kind,.int .i64 k,.int .i64 m] 61)
 have M1 := hQQ m1
 have y0 := cell_more (j:=0) hb1 (More.refl _) rfl
 have y2 := cell_more (j:=2) hb1 (More.refl _) rfl
 clear hr hb1
 by_cases hk : kind = 2
 · have t0 : (kind == 2) = true := by simp [hk]
   by_cases hb : bs = []
   · rw [if_neg (by rintro ⟨_,q⟩; exact q hb)] at hres
     have HRS := hQQ hres
     clear hres hk rd m1 hl
     subst hb
     rw [List.length_nil]
     go_enter Tryz.func26,Tryz.ntmps26
     go_wp2_with fail
     rw [HRS.out]
     go_ret
     exact ⟨rfl,M1.out⟩
   · have hp : 0 < bs.length := by cases bs with | nil => exact absurd rfl hb | cons => simp
     have d1 : decide ((0 : Int) < (bs.length : Int)) = true := by simp; omega
     rw [if_pos ⟨hk,hb⟩] at hres
     obtain ⟨r0,r1,r2⟩ := remU_b (n:=(bs.length : Int)) hu.out (by omega) (by omega)
     obtain ⟨g,rfl,_,hg,hc⟩ := rd 0 hp
     have hc := hc ((IntKind.u64.wrap m).tmod bs.length).toNat (by omega)
     rw [hres] at hc
     have hc := m1.cell hc
     have uw : IntKind.u64.wrap (bs.length : Int) = (bs.length : Int) := by rw [IntKind.wrap_u64]; omega
     have nz : ((bs.length : Int) == 0) = false := by simp; omega
     obtain ⟨q,hq⟩ : ∃ q : Nat,(IntKind.u64.wrap m).tmod bs.length = (q : Int) := ⟨_,(Int.toNat_of_nonneg r0).symm⟩
     rw [hq] at hc r0 r1 r2
     simp only [Int.toNat_natCast] at hc
     have HRS := hQQ hres
     have HR1 := hQQ r1
     have d2 : decide ((q : Int) < (bs.length : Int)) = true := by simp; omega
     have d3 : decide (q < bs.length) = true := by simp; omega
     have d4 : decide (0 < bs.length) = true := by simp; omega
     have nn : ¬ bs = [] := hb
     have nz2 : (bs.length == 0) = false := by simp; exact hb
     have r4 : q < bs.length := by omega
     clear hres hb hk rd m1 hl r0 r1
     go_enter Tryz.func26,Tryz.ntmps26
     go_wp2_with fail
     go_ret
     exact ⟨rfl,M1.out⟩
 · have t0 : (kind == 2) = false := by simp [hk]
   rw [if_neg (by rintro ⟨q,_⟩; exact hk q)] at hres
   have HRS := hQQ hres
   clear hres hk rd m1 hl
   go_enter Tryz.func26,Tryz.ntmps26
   go_wp2_with fail
   rw [HRS.out]
   go_ret
   exact ⟨rfl,M1.out⟩
theorem l11_without (bs : List Int) (ad : Int) (b : Nat) (v : Value) (w : World) (hr : Rw b w v bs) (hl : bs.length ≤ 1000) :
   Calls Tryz.prog 28 #[v,.int .i64 ad] w (GaveInts w (bs.filter fun x => x != ad)) := by
 obtain ⟨a,cap,rfl,rd⟩ := hr.reads
 have HL := hQQ hl
 have RD := hQQ rd
 have M0 := hQQ (More.refl w)
 have N0 := hQQ (Rw.nil w.heap.size w)
 clear hr rd hl
 go_enter Tryz.func28,Tryz.ntmps28
 go_wp2_with fail
 go_loopw [5,6] (fun v5 v6 wr => ∃ j : Nat,v6 = .int .i64 (j : Int) ∧ j ≤ bs.length ∧ Rw w.heap.size wr v5 ((bs.take j).filter fun x => x != ad) ∧ More w wr) (fun _ v6 _ => bs.length - (intOf v6).toNat)
 case atStart => exact ⟨0,rfl,Nat.zero_le _,N0.out,M0.out⟩
 case round =>
   obtain ⟨j,rfl,hj,hR,hM⟩ := hrel
   have HR := hQQ hR
   have HM := hQQ hM
   have HJ := hQQ hj
   clear hR hj
   by_cases hlt : j < bs.length
   · have d1 : decide ((j : Int) < (bs.length : Int)) = true := by simp; omega
     have d2 : decide (j < bs.length) = true := by simp; omega
     obtain ⟨g,rfl,_,hg,hc⟩ := RD.out j hlt
     have hc := hM.cell (hc j hlt)
     have ht : bs.take (j + 1) = bs.take j ++ [bs.getD j 0] := by
       rw [List.take_add_one,List.getElem?_eq_getElem hlt]; simp [List.getD,hlt]
     obtain ⟨x,hx⟩ : ∃ x,bs.getD j 0 = x := ⟨_,rfl⟩
     rw [hx] at hc ht
     have hl0 := HL.out
     have HT := hQQ ht
     have HLT := hQQ hlt
     clear hM ht hx
     by_cases hne : x = ad
     · have t1 : (x != ad) = false := by simp [hne]
       have FIN := hQQ (show Rw w.heap.size wr _ ((bs.take (j + 1)).filter fun x => x != ad) from by rw [HT.out,List.filter_append,List.filter_cons_of_neg (by simp [hne]),List.filter_nil,List.append_nil]; exact HR.out)
       clear hne
       go_wp2_with fail
       refine ⟨⟨j + 1,by go_num,by have := HLT.out; omega,FIN.out,HM.out⟩,?_⟩
       have := HLT.out
       simp [intOf]; omega
     · have t1 : (x != ad) = true := by simp [hne]
       have hfl : ((bs.take j).filter fun x => x != ad).length ≤ 1000 := by
         have := List.length_filter_le (fun x => x != ad) (bs.take j)
         have := HL.out
         simp at *; omega
       have HF := hQQ (show (bs.take (j + 1)).filter (fun x => x != ad) = (bs.take j).filter (fun x => x != ad) ++ [x] from by rw [HT.out,List.filter_append,List.filter_cons_of_pos (by simp [hne]),List.filter_nil])
       have HFL := hQQ hfl
       clear hne hfl
       go_wp2_with (at_builtin; refine wpList_pushB _ rfl _ _ rfl rfl HR.out HM.out (by have := HFL.out; omega) rfl ?_; intro v' w5 hr5 hm5; have HR5 := hQQ hr5; have HM5 := hQQ hm5; clear hr5 hm5)
       refine ⟨⟨j + 1,by go_num,by have := HLT.out; omega,by rw [HF.out]; exact HR5.out,HM5.out⟩,?_⟩
       have := HLT.out
       simp [intOf]; omega
   · have d1 : decide ((j : Int) < (bs.length : Int)) = false := by simp; omega
     have he : bs.take j = bs := by rw [List.take_of_length_le (by omega)]
     have FIN := hQQ (show Rw w.heap.size wr _ (bs.filter fun x => x != ad) from by have := HR.out; rw [he] at this; exact this)
     clear hM he
     go_wp2_with fail
     go_ret
     exact ⟨_,rfl,FIN.out,HM.out⟩
end Go.Proofs.YtmafllcmkhgidaaGreatDoor
namespace Go.Proofs.YtmafllcmkhgidaaGreatDoor
open Go.ChangeShapes Go.WideShapes Go.ChangeAt Go.RowKit Go.Joins Go.Deep
theorem IsIns.keepN {w w' : World} {a : Option Addr} {l : List Ins3} (h : IsIns w a l) {S : Nat → Prop} (t : Turned S w w') (hs : l ≠ [] → ∀ k,leads a k → ¬ S k) : IsIns w' a l := by
 by_cases e : l = []
 · exact .inl e
 · exact h.keep t (hs e)
theorem IsIns.lt {w : World} {a : Option Addr} {l : List Ins3} (h : IsIns w a l) (hne : l ≠ []) : ∀ b,leads a b → b < w.heap.size := fun b hb => by
 obtain ⟨s,o,rfl,hs,_⟩ := h.resolve_left hne
 have : s = b := by simpa [leads] using hb
 omega
theorem run_lv3 {P : Program} (w : World) (s off : Nat) (ty : TypeId) (v0 v1 v2 : Value) (d : TypeDesc) (h0 : w.cell? ⟨s,off,none⟩ = some v0) (h1 : w.cell? ⟨s,off + 1,none⟩ = some v1) (h2 : w.cell? ⟨s,off + 2,none⟩ = some v2)
   (hu : P.underlying ty = some d) (hd : (match d with | .struct _ | .array _ _ => true | _ => false) = true) (hi : (P.info? ty).map (·.size) = some 3) :
   (loadVar ty ⟨s,off,none⟩).run P w = .ok (.agg #[v0,v1,v2]) w := by
 have hl : (loadCells ⟨s,off,none⟩ [v0,v1,v2].length).run P w = .ok [v0,v1,v2].toArray w :=
   run_loadCells_list (P:=P) w ⟨s,off,none⟩ [v0,v1,v2] (fun j v hv => by
     rw [addr_add]
     match j,hv with
     | 0,hv => cases hv; exact h0
     | 1,hv => cases hv; exact h1
     | 2,hv => cases hv; exact h2
     | j + 3,hv => simp at hv)
 cases hq : P.info? ty with
 | none => simp [hq] at hi
 | some i =>
   have hs : i.size = 3 := by simpa [hq] using hi
   have hagg : (isAgg ty).run P w = .ok true w := by
     unfold isAgg
     rw [Sem.run_bind,run_underlying hu w]
     cases d <;> simp_all
   simp only [List.length_cons,List.length_nil,Nat.reduceAdd] at hl
   simp [loadVar,Sem.run_bind,hagg,sizeOf,typeInfo,hq,hs,hl]
theorem wpQuiet_ld3 {P : Program} {ops : Array Oper} {a : Act} {o : Oper} {rest : List Oper} {C : World → Prop} {Q : Act → Prop} (hw : Region.wanted o (yielded ops a.tmps) = true) (ty : TypeId) (x : Operand) (ho : o.op = .load ty x)
   (s off : Nat) (hx : a.eval x = .pointer (some ⟨s,off,none⟩)) (v0 v1 v2 : Value) (d : TypeDesc) (hg : ∀ W,C W → W.cell? ⟨s,off,none⟩ = some v0 ∧ W.cell? ⟨s,off + 1,none⟩ = some v1 ∧ W.cell? ⟨s,off + 2,none⟩ = some v2)
   (hu : P.underlying ty = some d) (hd : (match d with | .struct _ | .array _ _ => true | _ => false) = true) (hi : (P.info? ty).map (·.size) = some 3)
   (h : wpQuiet P ops C Q rest (a.put o.dst (.agg #[v0,v1,v2]))) : wpQuiet P ops C Q (o :: rest) a := by
 refine wpQuiet_do (.agg #[v0,v1,v2]) hw (fun W hW => ?_) h
 obtain ⟨h0,h1,h2⟩ := hg W hW
 unfold Oper.quietAt execOp
 simp only [ho,hx,Instr.loadAt,Instr.sureAddr,Sem.run_bind,Sem.run_pure,Result.andThen_ok,run_lv3 W s off ty v0 v1 v2 d h0 h1 h2 hu hd hi]
 exact ⟨rfl,rfl⟩
theorem yieldsC_3 {P : Program} {ops : Array Oper} {C : World → Prop} {o : Oper} {a : Act} (hw : Region.wanted o (yielded ops a.tmps) = true) (ty : TypeId) (x : Operand) (ho : o.op = .load ty x)
   (s off : Nat) (hx : a.eval x = .pointer (some ⟨s,off,none⟩)) (v0 v1 v2 : Value) (d : TypeDesc) (hg : ∀ W,C W → W.cell? ⟨s,off,none⟩ = some v0 ∧ W.cell? ⟨s,off + 1,none⟩ = some v1 ∧ W.cell? ⟨s,off + 2,none⟩ = some v2)
   (hu : P.underlying ty = some d) (hd : (match d with | .struct _ | .array _ _ => true | _ => false) = true) (hi : (P.info? ty).map (·.size) = some 3) : YieldsC P ops C o (.agg #[v0,v1,v2]) a := by
 refine .inl ⟨hw,fun W hW => ?_⟩
 obtain ⟨h0,h1,h2⟩ := hg W hW
 unfold execOp
 simp only [ho,hx,Instr.loadAt,Instr.sureAddr,Sem.run_bind,Sem.run_pure,Result.andThen_ok,run_lv3 W s off ty v0 v1 v2 d h0 h1 h2 hu hd hi]
end Go.Proofs.YtmafllcmkhgidaaGreatDoor
namespace Go.Proofs.YtmafllcmkhgidaaGreatDoor
open Go.RowKit Go.Sort Go.Maps Go.Shelf
structure EpG (g1 g2 g3 g4 g5 bt : Nat) (c : Cfg) (a : Option Addr) (capl : Nat) (l : List Ins3) (j : Nat) (ad : Int) (w : World) : Prop where
 h1 : w.heap[g1]? = some (.cells c.arr 28 (0,0))
 h2 : w.heap[g2]? = some (.cells #[.slice a l.length capl] 24 (0,0))
 h3 : w.heap[g3]? = some (.cells #[.int .i64 (j : Int)] 3 (0,0))
 h4 : w.heap[g4]? = some (.cells #[.int .i64 ad] 3 (0,0))
 h5 : ∃ t,Box4 g5 w t
 sz : SzAt bt w
end Go.Proofs.YtmafllcmkhgidaaGreatDoor
namespace Go.Proofs.YtmafllcmkhgidaaGreatDoor
open Go.RowKit
variable (wk cp pg st tr wt ck pr ca bi ba : Int) (w : World)
variable (wk cp pg st tr wt ck pr ca bi ba : Int) (w : World)
end Go.Proofs.YtmafllcmkhgidaaGreatDoor
namespace Go.Proofs.YtmafllcmkhgidaaGreatDoor
open Go.RowKit Go.Sort Go.Maps Go.Shelf
section
variable {c : Cfg} {ws : List Int} {n step res : Int}
theorem FIN2 (n1 : 1 ≤ n) (s1 : 1 ≤ step) (hpg : 0 ≤ c.pg) (hn : ∀ q,0 ≤ q → q < c.pg → q % step = 0 → opV c.pg c.st ws q n true = false) {p : Int} (p0 : 0 ≤ p) (pm : p % step = 0) (ho : opV c.pg c.st ws p n false = true) (hb : ∀ q,0 ≤ q → q < p → q % step = 0 → opV c.pg c.st ws q n false = false) (hres : (if leastV (openB c.pg c.st ws) c.pg n step = -1 then leastV (freeB c.pg c.st ws) c.pg n step else leastV (openB c.pg c.st ws) c.pg n step) = res) : p = res := by
 have h0 : leastV (openB c.pg c.st ws) c.pg n step = -1 := find_none n1 s1 hpg true hn
 have h : leastV (freeB c.pg c.st ws) c.pg n step = p := find_first n1 s1 hpg p0 pm false ho hb
 rw [h0,if_pos rfl,h] at hres
 exact hres
end
end Go.Proofs.YtmafllcmkhgidaaGreatDoor
namespace Go.Proofs.YtmafllcmkhgidaaGreatDoor
open Go.RowKit
variable (w : World)
end Go.Proofs.YtmafllcmkhgidaaGreatDoor
namespace Go.Proofs.YtmafllcmkhgidaaGreatDoor
open Go.RowKit Go.Sort Go.Maps Go.Shelf
theorem wp_alloc4 {o : Oper} {a : Act} {w : World} {K : Act → World → Prop} {Q : Exit → Act → World → Prop} (ho : o.op = .alloc 52) (h : K (a.put o.dst (.pointer (some ⟨w.heap.size,0,none⟩))) (w.alloc (.cells #[.int .i64 0,.int .i64 0,.int .i64 0,.int .i64 0] 52))) : Oper.wp Tryz.prog o a w K Q := by
 unfold Oper.wp Oper.upon execOp
 simp only [ho]
 go_simp
 exact h
theorem wpList_pushW {ops : Array Oper} {rest : List Oper} {o : Oper} {a : Act} {Q : Exit → Act → World → Prop} {w : World} {b : Nat} {v : Value} {xs : List Int} (y : Int) (hgd : o.guard = none) (s x : Operand)
   (ho : o.op = .call { callee := .builtin .append,args := #[s,x],argTypes := #[30,30] })
   (hs : a.eval s = v) (hn : Rw b w v xs) (hb : b ≤ w.heap.size) (hl : xs.length ≤ 1000000)
   (hx : a.eval x = .slice (some ⟨w.heap.size,0,none⟩) 1 1)
   (h : ∀ g cap w',Rw b w' (.slice (some ⟨g,0,none⟩) (xs.length + 1) cap) (xs ++ [y]) → Turned (fun k => v.ownBlock = some k) w w' → (v.ownBlock = some g ∨ w.heap.size ≤ g) → wpList Tryz.prog ops Q rest (a.put o.dst (.slice (some ⟨g,0,none⟩) (xs.length + 1) cap)) w') : wpList Tryz.prog ops Q (o :: rest) a (w.alloc (.cells #[.int .i64 y] 3)) := by
 obtain ⟨i,i1,i2,i3,i4⟩ := int_info
 have hn' := hn.more ((More.refl w).alloc (.cells #[.int .i64 y] 3))
 have hB := heap_new w (.cells #[.int .i64 y] 3)
 have hW : More w (w.alloc (.cells #[.int .i64 y] 3)) := (More.refl w).alloc _
 refine wpList_append_lies _ hgd s x 30 ho b 3 i _ 1 8 Tryz.underlying30 i1 i2 i3 i4 rfl (by omega) v xs.length _ hs hn' ⟨w.heap.size,0,none⟩ 1 1 [.int .i64 y] hx (by simp)
   (fun j u hu => World.news_of_block hB j u (by simpa using hu)) (by intro u hu; simp at hu; subst hu; rfl) (by omega) (by simp only [maxLen]; omega) (by omega) (by have := hW.size; omega) _ rfl ?_
 intro g cap w1 hown hgrow hor _
 refine h g cap w1 ?_ ?_ (hor.imp id (fun q => by have := hW.size; omega))
 · unfold Rw
   rw [List.length_append,List.map_append]
   exact hown
 · exact ⟨hgrow.os.trans hW.os,hgrow.tape.trans hW.tape,hgrow.output.trans hW.output,Nat.le_trans hW.size hgrow.size,fun k hk hne => (hgrow.block k (Nat.lt_of_lt_of_le hk hW.size) (fun q => hne q.symm)).trans (Turned.block hW k hk (fun q => q))⟩
theorem pg_hdin {c : Cfg} (S : c.Small) {n : Nat} (hn : (n : Int) = c.words) : HdIn c.pg c.st n := by
 have h2 := userB S.ok; have h3 := S.ok.pg1
 have h5 : headsV c.st c.pg + 62 ≤ liveV c.cp c.pg c.st c.ca c.bi := by
   have := prod5B S.ok; have := S.ok.bi1
   unfold liveV binsV cachesV; omega
 have h6 : tableV c.st + chunksV c.pg + 5 * c.pg + 62 ≤ n := by
   rw [hn]
   show _ ≤ wordsV c.cp c.pg c.st c.ca c.bi
   unfold wordsV
   unfold headsV at h5
   omega
 exact { S.tbl hn with top5 := by omega,top62 := h6 }
def ApartB (vb : Value) (gw bl br ba gz gi : Nat) : Prop := ∀ q,vb.ownBlock = some q → q ≠ gw ∧ q ≠ bl ∧ q ≠ br ∧ q ≠ ba ∧ q ≠ gz ∧ q ≠ gi
structure PgI (w wr : World) (d : Cfg) (a : Option Addr) (capl : Nat) (l : List Ins3) (bl br ba n gw cw j : Nat) (zs : List Int) (gz cz gi : Nat) (vb : Value) (bs : List Int) : Prop where
 hj : j ≤ l.length
 hi : wr.heap[gi]? = some (.cells #[.int .i64 (j : Int)] 3 (0,0))
 len : zs.length = n
 ok : OkW zs
 pw : ∃ G,PgW d.pg d.st G zs
 z : Ws wr gz cz zs
 wnt : Ws wr gw cw zs
 lb : wr.heap[bl]? = some (.cells d.arr 28 (0,0))
 rb : wr.heap[br]? = some (.cells d.cells 56 (0,0))
 ab : wr.heap[ba]? = some (.cells #[.slice a l.length capl] 24 (0,0))
 n1 : gw ≠ gz
 n2 : gi ≠ gw ∧ gi ≠ gz ∧ gi ≠ bl ∧ gi ≠ br ∧ gi ≠ ba
 n3 : gw ≠ bl ∧ gw ≠ br ∧ gw ≠ ba
 more : More w wr
 lo : w.heap.size ≤ gi ∧ w.heap.size ≤ gw
 row : Rw w.heap.size wr vb bs
 bl' : bs.length ≤ j
 nb : ApartB vb gw bl br ba gz gi
end Go.Proofs.YtmafllcmkhgidaaGreatDoor
