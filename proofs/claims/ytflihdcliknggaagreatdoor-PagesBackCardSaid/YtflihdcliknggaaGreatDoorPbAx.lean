/-
  Layer 11's example holds.
-/
import Derived.Test.YtflihdcliknggaaGreatDoorPbAv
import Derived.Test.YtflihdcliknggaaGreatDoorPbAw
import Derived.Test.YtflihdcliknggaaGreatDoorPbAf
import Derived.Test.YtflihdcliknggaaGreatDoorPbAs
import Derived.Test.YtflihdcliknggaaGreatDoorPbAj
import Derived.Test.YtflihdcliknggaaGreatDoorPbAt
import Derived.Test.YtflihdcliknggaaGreatDoorPbAr
import Derived.Test.YtflihdcliknggaaGreatDoorPbAp
import Derived.Test.YtflihdcliknggaaGreatDoorPbAk
import Derived.Test.YtflihdcliknggaaGreatDoorPbAm
import Derived.WalkKit
import Derived.WalkSpells
import Derived.WalkLawsBesides
import Derived.Outline
import Derived.IntWalk
import Derived.Lib.Hide
import Derived.Test.YtflihdcliknggaaGreatDoorPbAu
import Derived.Test.YtflihdcliknggaaGreatDoorPbAn
import Derived.ChangeKeysEq
set_option maxRecDepth 100000
set_option maxHeartbeats 8000000
set_option linter.unusedVariables false
set_option linter.unusedSimpArgs false
set_option linter.unusedSectionVars false
namespace Go.Proofs.YtflihdcliknggaaGreatDoor
open Go.RowKit Go.Sort Go.Maps Go.Shelf
def row4 (t : V4) : Array Value := #[.int .i64 t.1,.int .i64 t.2.1,.int .i64 t.2.2.1,.int .i64 t.2.2.2]
def Box4 (g : Nat) (w : World) (t : V4) : Prop := w.heap[g]? = some (.cells (row4 t) 39 (0,0))
def put4 (t : V4) (j : Nat) (x : Int) : V4 := if j = 0 then (x,t.2) else if j = 1 then (t.1,x,t.2.2) else if j = 2 then (t.1,t.2.1,x,t.2.2.2) else (t.1,t.2.1,t.2.2.1,x)
theorem row_put (t : V4) {j : Nat} (h : j ≤ 3) (x : Int) : (row4 t).setIfInBounds j (.int .i64 x) = row4 (put4 t j x) := by
 match j,h with
 | 0,_ => rfl
 | 1,_ => rfl
 | 2,_ => rfl
 | 3,_ => rfl
def live11N (us pg st : Int) : Nat → Nat → V4 → Prg V4
 | 0,_,t => bindP (freeP pg st 4) fun f => pureP (put4 t 3 f)
 | m + 1,j,t => bindP (grabP us pg st 4) fun x => live11N us pg st m (j + 1) (put4 t j x.1)
theorem live11_eq (us pg st : Int) (t : V4) : live11N us pg st 3 0 t = live11N us pg st 3 0 (0,0,0,0) := rfl
theorem MidV.own {W wr w2 : World} {F S F' : Nat → Prop} {p n : Nat} {kn : Int → Option Int} {D : List KV} (h : MidV W wr F S p kn n D F') {b : Nat} (hS : b < W.heap.size → S b) (t : Turned (fun k => k = b) wr w2) (nF : ¬ F' b) {cs : Array Value} {ty : TypeId} {fr : Nat × Nat} (hb : wr.heap[b]? = some (.cells cs ty fr)) : MidV W w2 F S p kn n D F' :=
 ⟨h.view.keepS t (fun k q e => nF (e ▸ q)) (fun k es cl e q => by subst e; rw [hb] at q; cases q),h.from',turned_own h.turn t (fun k q => by
     subst q
     rcases Nat.lt_or_ge k W.heap.size with r | r
     · exact .inl (.inr (hS r))
     · exact .inr r),h.inv⟩
theorem sound_live11 (us pg st : Int) : ∀ m j t,Sound (live11N us pg st m j t)
 | 0,_,t => sound_bind (sound_freeP _ _ _) fun _ => sound_pure _
 | m + 1,j,t => sound_bind (sound_grab _ _ _ _) fun x => sound_live11 us pg st m _ _
theorem good_live11 {pg st : Int} {n : Nat} (H : HdIn pg st n) (us : Int) : ∀ m j t,Good n (fun _ => True) (live11N us pg st m j t)
 | 0,_,t => good_bind (good_freeP H _) fun _ _ => good_pure n trivial
 | m + 1,j,t => good_bind (good_grab H _ _) fun x _ => good_live11 H us m _ _
structure L11Y (c : Cfg) (g1 g2 bt : Nat) (w : World) : Prop where
 h1 : w.heap[g1]? = some (.cells c.arr 28 (0,0))
 h2 : ∃ t,Box4 g2 w t
 sz : SzAt bt w
theorem L11Y.keep {c : Cfg} {g1 g2 bt : Nat} {w w' : World} {S : Nat → Prop} (h : L11Y c g1 g2 bt w) (t : Turned S w w') (n1 : ¬ S g1) (n0 : ¬ S 0) (nb : ¬ S bt) (b : ∃ t,Box4 g2 w' t) : L11Y c g1 g2 bt w' :=
 ⟨(t.block g1 (lt_of_heap h.h1) n1).trans h.h1,b,h.sz.keep t n0 nb⟩
theorem live11_clo {c : Cfg} (R : c.Ok) {n : Nat} (H : HdIn c.pg c.st n) (hn : n ≤ 10000) (F : Nat → Prop) (p g1 g2 bt : Nat) (kn : Int → Option Int) (W : World) (hv : ViewAt W F p kn []) (hk : OkK kn) (hY : L11Y c g1 g2 bt W) (n1 : ¬ F g1) (n2 : ¬ F g2) (n0 : ¬ F 0) (nb : ¬ F bt) (hd : g1 ≠ g2 ∧ 0 ≠ g2 ∧ bt ≠ g2) (a0 : V4)
   (ht : ∀ x D,live11N c.us c.pg c.st 3 0 (0,0,0,0) kn [] = .ok x D → x = a0) :
   Calls Tryz.prog 35 #[.pointer (some ⟨p,0,none⟩),.pointer (some ⟨g1,0,none⟩),.pointer (some ⟨g2,0,none⟩)] W (WentY W F (fun b => b = g2) (fun w' => L11Y c g1 g2 bt w') (fun w' => Box4 g2 w' a0) p kn (ranOf (live11N c.us c.pg c.st 3 0 (0,0,0,0) kn []))) := by
 obtain ⟨t0,h2⟩ := hY.h2
 obtain ⟨Rr,hR⟩ : ∃ Rr,live11N c.us c.pg c.st 3 0 (0,0,0,0) kn [] = Rr := ⟨_,rfl⟩
 rw [hR] at ht ⊢
 have hR := (congrFun (congrFun (live11_eq c.us c.pg c.st t0) kn) []).trans hR
 have l1 := lt_of_heap hY.h1
 have l2 := lt_of_heap h2
 have l0 := hY.sz.lt0
 have lb := hY.sz.lt
 have HYY := hQQ hY
 have HK := hQQ hk
 have HR := hQQ R
 have HH := hQQ H
 have M0 : Hid (MidV W W F (fun b => b = g2) p kn n [] F) := hQQ (MidV.begin hv (invD_nil n))
 have B0 : Hid (Box4 g2 W t0) := hQQ h2
 have nf2 : ∀ D wr {F'},MidV W wr F (fun b => b = g2) p kn n D F' → ¬ F' g2 := fun D wr F' h => h.off l2 n2
 have KY : Hid (∀ wr,Turned (fun b => F b ∨ b = g2) W wr → (∃ t,Box4 g2 wr t) → L11Y c g1 g2 bt wr) := hQQ fun wr t b => hY.keep t (by rintro (q | q); exact n1 q; exact hd.1 q) (by rintro (q | q); exact n0 q; exact hd.2.1 q) (by rintro (q | q); exact nb q; exact hd.2.2 q) b
 have KL : Hid (∀ wr D' F',MidV W wr F (fun b => b = g2) p kn n D' F' → wr.heap[g1]? = some (.cells c.arr 28 (0,0)) ∧ SzAt bt wr ∧ ¬ F' 0 ∧ ¬ F' bt) := hQQ fun wr D' F' h => ⟨mid_own h hY.h1 n1 (fun q => hd.1 q),hY.sz.keep h.turn (by rintro (q | q); exact n0 q; exact hd.2.1 q) (by rintro (q | q); exact nb q; exact hd.2.2 q),h.off l0 n0,h.off lb nb⟩
 have NEED : Hid (∀ a w2 t,Rr = .need a → DeadAt w2 p a → Turned (fun b => F b ∨ b = g2) W w2 → Box4 g2 w2 t → WentY W F (fun b => b = g2) (fun w' => L11Y c g1 g2 bt w') (fun w' => Box4 g2 w' a0) p kn (ranOf Rr) (.panicked (endOf p)) w2) := hQQ fun a w2 t e hd' ht' b =>
   wy_need (ranOf_need e) hd' ht' (KY.out _ ht' ⟨t,b⟩)
 have DONE : Hid (∀ x w2 D F',Rr = .ok x D → MidV W w2 F (fun b => b = g2) p kn n D F' → Box4 g2 w2 x → WentY W F (fun b => b = g2) (fun w' => L11Y c g1 g2 bt w') (fun w' => Box4 g2 w' a0) p kn (ranOf Rr) (.returned (.tuple #[])) w2) := hQQ fun x w2 D F' e h b => by
   have := ht x D e
   subst this
   exact wy_done h (ranOf_ok e) (KY.out _ h.turn ⟨_,b⟩) b
 have HRr := hQQ hR
 have HN := hQQ hn
 clear hv hk hY R H hR ht h2 n1 n0 nb hn
 go_enter Tryz.func35,Tryz.ntmps35
 go_wp2_with fail
 go_loopw [4] (fun i wr => ∃ (j : Nat) (t : V4) (D : List KV) (F' : Nat → Prop),i = .int .i64 (j : Int) ∧ j ≤ 3 ∧ MidV W wr F (fun b => b = g2) p kn n D F' ∧ Box4 g2 wr t ∧ live11N c.us c.pg c.st (3 - j) j t kn D = Rr) (fun i _ => (3 - (intOf i)).toNat)
 case atStart => exact ⟨0,t0,[],F,rfl,by omega,M0.out,B0.out,HRr.out⟩
 case round =>
   obtain ⟨j,t,D1,F1,rfl,hj,M1',B1',E1'⟩ := hrel
   have M1 := hQQ M1'
   have B1 := hQQ B1'
   have L1 := hQQ (KL.out _ _ _ M1')
   by_cases h3 : j = 3
   · subst h3
     have E1 := hQQ (show bindP (freeP c.pg c.st 4) (fun f => pureP (put4 t 3 f)) kn D1 = Rr from E1')
     clear M1' B1' E1' hj
     go_wp2_with (refine wpList_load_rowG rfl 28 _ rfl _ rfl 28 _ _ _ L1.out.1 Tryz.underlying28 rfl (by kernel_rfl) ?_)
     refine (g_Free HR.out HH.out HN.out F1 p kn D1 4 wr M1.out.view HK.out M1.out.inv bt L1.out.2.1 L1.out.2.2.1 L1.out.2.2.2).mono ?_
     intro e w3 he
     rcases M1.out.step (More.refl _) HK.out (good_freeP HH.out _) he with ⟨a',hE,rfl,hd',ht',hk'⟩ | ⟨x3,D3,F3,hE,rfl,M3',hq3,hk',hf'⟩
     · exact ⟨rfl,NEED.out a' w3 _ (E1.out.symm.trans (bindP_need hE)) hd' ht' (hk' _ _ (nf2 _ _ M1.out) B1.out)⟩
     have B3 : Hid (Box4 g2 w3 t) := hQQ (hk' _ _ (nf2 _ _ M1.out) B1.out)
     have E3 := hQQ ((bindP_ok hE).symm.trans E1.out)
     have M3 := hQQ M3'
     clear he hE hk' hf' M3' hq3
     go_wp2_with (refine wpList_store_int rfl 3 _ _ rfl rfl g2 3 rfl x3 rfl (row4 t) _ B3.out (by simp [row4]) (by kernel_rfl) ?_; rw [row_put t (by omega)]; intro w4 hb4 ht4; have B4 : Hid (Box4 g2 w4 (put4 t 3 x3)) := hQQ hb4; have M4 := hQQ (M3.out.own (fun _ => rfl) ht4 (nf2 _ _ M3.out) B3.out); clear hb4 ht4)
     go_end0
     exact DONE.out _ _ _ _ E3.out.symm M4.out B4.out
   · rcases (show j = 0 ∨ j = 1 ∨ j = 2 by omega) with rfl | rfl | rfl
     · skip
       have E1 := hQQ (show bindP (grabP c.us c.pg c.st 4) (fun x => live11N c.us c.pg c.st 2 1 (put4 t 0 x.1)) kn D1 = Rr from E1')
       clear M1' B1' E1' hj h3
       go_wp2_with (refine wpList_load_rowG rfl 28 _ rfl _ rfl 28 _ _ _ L1.out.1 Tryz.underlying28 rfl (by kernel_rfl) ?_)
       refine (g_Grab HR.out HH.out HN.out F1 p kn D1 4 wr M1.out.view HK.out M1.out.inv bt L1.out.2.1 L1.out.2.2.1 L1.out.2.2.2).mono ?_
       intro e w3 he
       rcases M1.out.step (More.refl _) HK.out (good_grab HH.out _ _) he with ⟨a',hE,rfl,hd',ht',hk'⟩ | ⟨⟨x3,ok3⟩,D3,F3,hE,rfl,M3',hq3,hk',hf'⟩
       · exact ⟨rfl,NEED.out a' w3 _ (E1.out.symm.trans (bindP_need hE)) hd' ht' (hk' _ _ (nf2 _ _ M1.out) B1.out)⟩
       have B3 : Hid (Box4 g2 w3 t) := hQQ (hk' _ _ (nf2 _ _ M1.out) B1.out)
       have E3 := hQQ ((bindP_ok hE).symm.trans E1.out)
       have M3 := hQQ M3'
       clear he hE hk' hf' M3' hq3
       go_wp2_with (refine wpList_store_int rfl 3 _ _ rfl rfl g2 0 rfl x3 rfl (row4 t) _ B3.out (by simp [row4]) (by kernel_rfl) ?_; rw [row_put t (by omega)]; intro w4 hb4 ht4; have B4 : Hid (Box4 g2 w4 (put4 t 0 x3)) := hQQ hb4; have M4 := hQQ (M3.out.own (fun _ => rfl) ht4 (nf2 _ _ M3.out) B3.out); clear hb4 ht4)
       refine ⟨⟨1,put4 t 0 x3,D3,F3,rfl,by omega,M4.out,B4.out,E3.out⟩,?_⟩
       simp [intOf]
     · skip
       have E1 := hQQ (show bindP (grabP c.us c.pg c.st 4) (fun x => live11N c.us c.pg c.st 1 2 (put4 t 1 x.1)) kn D1 = Rr from E1')
       clear M1' B1' E1' hj h3
       go_wp2_with (refine wpList_load_rowG rfl 28 _ rfl _ rfl 28 _ _ _ L1.out.1 Tryz.underlying28 rfl (by kernel_rfl) ?_)
       refine (g_Grab HR.out HH.out HN.out F1 p kn D1 4 wr M1.out.view HK.out M1.out.inv bt L1.out.2.1 L1.out.2.2.1 L1.out.2.2.2).mono ?_
       intro e w3 he
       rcases M1.out.step (More.refl _) HK.out (good_grab HH.out _ _) he with ⟨a',hE,rfl,hd',ht',hk'⟩ | ⟨⟨x3,ok3⟩,D3,F3,hE,rfl,M3',hq3,hk',hf'⟩
       · exact ⟨rfl,NEED.out a' w3 _ (E1.out.symm.trans (bindP_need hE)) hd' ht' (hk' _ _ (nf2 _ _ M1.out) B1.out)⟩
       have B3 : Hid (Box4 g2 w3 t) := hQQ (hk' _ _ (nf2 _ _ M1.out) B1.out)
       have E3 := hQQ ((bindP_ok hE).symm.trans E1.out)
       have M3 := hQQ M3'
       clear he hE hk' hf' M3' hq3
       go_wp2_with (refine wpList_store_int rfl 3 _ _ rfl rfl g2 1 rfl x3 rfl (row4 t) _ B3.out (by simp [row4]) (by kernel_rfl) ?_; rw [row_put t (by omega)]; intro w4 hb4 ht4; have B4 : Hid (Box4 g2 w4 (put4 t 1 x3)) := hQQ hb4; have M4 := hQQ (M3.out.own (fun _ => rfl) ht4 (nf2 _ _ M3.out) B3.out); clear hb4 ht4)
       refine ⟨⟨2,put4 t 1 x3,D3,F3,rfl,by omega,M4.out,B4.out,E3.out⟩,?_⟩
       simp [intOf]
     · skip
       have E1 := hQQ (show bindP (grabP c.us c.pg c.st 4) (fun x => live11N c.us c.pg c.st 0 3 (put4 t 2 x.1)) kn D1 = Rr from E1')
       clear M1' B1' E1' hj h3
       go_wp2_with (refine wpList_load_rowG rfl 28 _ rfl _ rfl 28 _ _ _ L1.out.1 Tryz.underlying28 rfl (by kernel_rfl) ?_)
       refine (g_Grab HR.out HH.out HN.out F1 p kn D1 4 wr M1.out.view HK.out M1.out.inv bt L1.out.2.1 L1.out.2.2.1 L1.out.2.2.2).mono ?_
       intro e w3 he
       rcases M1.out.step (More.refl _) HK.out (good_grab HH.out _ _) he with ⟨a',hE,rfl,hd',ht',hk'⟩ | ⟨⟨x3,ok3⟩,D3,F3,hE,rfl,M3',hq3,hk',hf'⟩
       · exact ⟨rfl,NEED.out a' w3 _ (E1.out.symm.trans (bindP_need hE)) hd' ht' (hk' _ _ (nf2 _ _ M1.out) B1.out)⟩
       have B3 : Hid (Box4 g2 w3 t) := hQQ (hk' _ _ (nf2 _ _ M1.out) B1.out)
       have E3 := hQQ ((bindP_ok hE).symm.trans E1.out)
       have M3 := hQQ M3'
       clear he hE hk' hf' M3' hq3
       go_wp2_with (refine wpList_store_int rfl 3 _ _ rfl rfl g2 2 rfl x3 rfl (row4 t) _ B3.out (by simp [row4]) (by kernel_rfl) ?_; rw [row_put t (by omega)]; intro w4 hb4 ht4; have B4 : Hid (Box4 g2 w4 (put4 t 2 x3)) := hQQ hb4; have M4 := hQQ (M3.out.own (fun _ => rfl) ht4 (nf2 _ _ M3.out) B3.out); clear hb4 ht4)
       refine ⟨⟨3,put4 t 2 x3,D3,F3,rfl,by omega,M4.out,B4.out,E3.out⟩,?_⟩
       simp [intOf]
def live2 : Cfg := ⟨2,2,2,2,0,0,1,2,0,0,2⟩
theorem live2_ok : live2.Ok := by constructor <;> decide
theorem live2_words : live2.words = (320 : Nat) := by decide
theorem live2_us : live2.us = 256 := by decide
theorem live2_hd : HdIn live2.pg live2.st 320 := { st1 := by decide,st2 := by decide,pg1 := by decide,pg2 := by decide,top := by decide,top5 := by decide,top62 := by decide }
def liveS11 : Cfg := ⟨withinV 0 1 64,withinV 0 1 8,withinV 0 1 256,withinV 0 1 64,withinV 0 0 16,withinV 0 0 64,withinV 0 1 1099511627776,withinV 0 1 8,withinV 0 0 8,withinV 0 0 16,withinV 0 1 8⟩
theorem liveS11_ok : liveS11.Ok := some_ok 0 0 0 0 0 0 0 0 0 0 0
theorem liveS11_is : smallC liveS11 = live2 := by rfl
def live11D : List KV := [(5,1),(6,5),(7,5),(8,0),(9,1),(10,3),(11,1),(12,0),(13,0),(14,0),(15,0),(76,2)]
theorem live11_run : live11N live2.us live2.pg live2.st 3 0 (0,0,0,0) (allK (zeros 320)) [] = .ok (256,272,288,1) live11D := by kernel_rfl
theorem live11_ends : ∃ K',doP (fun K => ranOf (live11N live2.us live2.pg live2.st 3 0 (0,0,0,0) (look K) [])) (zeros 320) ((zeros 320).length + 1) [] = some (applyD (zeros 320) live11D,K') := by
 have H : HdIn live2.pg live2.st (zeros 320).length := by rw [zeros_len]; exact live2_hd
 obtain ⟨K',_,h⟩ := doP_run (sound_live11 _ _ _ _ _ _) (good_live11 H _ _ _ _) (okW_zeros 320) live11_run ((zeros 320).length + 1) [] (okKn_nil _) (by simp)
 exact ⟨K',h⟩
theorem live11_do (w : World) (g1 g2 bt : Nat) (a : Option Addr) (cap : Nat) (hY : L11Y live2 g1 g2 bt w) (hd : g1 ≠ g2 ∧ 0 ≠ g2 ∧ bt ≠ g2) (hz : IsWords w a (zeros 320)) :
   Calls Tryz.prog 10 #[.slice a 320 cap,.func (.func 35) #[] #[.pointer (some ⟨g1,0,none⟩),.pointer (some ⟨g2,0,none⟩)]] w (fun e w' => ∃ v1 v2,e = .returned (.tuple #[v1,v2,.int .i64 0]) ∧ Rw w.heap.size w' v1 (applyD (zeros 320) live11D) ∧ w'.heap[g1]? = some (.cells live2.arr 28 (0,0)) ∧ Box4 g2 w' (256,272,288,1) ∧ Turned (fun b => b = g2) w w') := by
 have hl : (zeros 320).length = 320 := zeros_len 320
 obtain ⟨K',hK'⟩ := live11_ends
 have l1 := lt_of_heap hY.h1
 have l2 : g2 < w.heap.size := by obtain ⟨x,h⟩ := hY.h2; exact lt_of_heap h
 have l0 := hY.sz.lt0
 have lb := hY.sz.lt
 have H : HdIn live2.pg live2.st (zeros 320).length := by rw [hl]; exact live2_hd
 have M := doY_ok a cap (zeros 320) (fun K => ranOf (live11N live2.us live2.pg live2.st 3 0 (0,0,0,0) (look K) [])) (some (applyD (zeros 320) live11D,K')) (zeros 320).length w hz (by omega) (okW_zeros _) (fine_of (good_live11 H _ _ _ _) (okW_zeros _) (by omega)) (by omega) hK' 35 #[.pointer (some ⟨g1,0,none⟩),.pointer (some ⟨g2,0,none⟩)] (fun b => b = g2)
   (fun w' => L11Y live2 g1 g2 bt w') (fun w' => Box4 g2 w' (256,272,288,1))
   (fun k q => by subst q; exact l2)
   (fun w' w'' y t => y.keep t (by omega) (by omega) (by omega) (by obtain ⟨z,q⟩ := y.h2; exact ⟨z,(t.block g2 (lt_of_heap q) (by omega)).trans q⟩))
   (fun w' w'' y t => (t.block g2 (lt_of_heap y) (by omega)).trans y) hY (enters_of Tryz.func35 (by kernel_rfl) rfl)
   (fun K hK W F p t y hv hF => live11_clo live2_ok live2_hd (by omega) F p g1 g2 bt (look K) W hv (okK_of hK (okW_zeros _)) y (fun q => by have := hF _ q; omega) (fun q => by have := hF _ q; omega) (fun q => by have := hF _ q; omega) (fun q => by have := hF _ q; omega) hd (256,272,288,1)
     (fun x D e => (sound_same (sound_live11 _ _ _ _ _ _) hK live11_run e).1))
 rw [hl] at M
 refine M.mono ?_
 rintro e w' ⟨v1,v2,rfl,r1,_,t,y,x⟩
 exact ⟨v1,v2,rfl,r1,y.h1,x,t⟩
theorem lives11_ok (bt : Nat) (w : World) (hs : SzAt bt w) : Calls Tryz.prog 6 #[] w (Gives w (.bool true)) := by
 have SM := hQQ (small_any liveS11_ok 0 0 0 0 0 0 0 0 0 0 0 _ w (fun W => some_any 0 0 0 0 0 0 0 0 0 0 0 W (by omega) (by omega) (by omega) (by omega) (by omega) (by omega) (by omega) (by omega) (by omega) (by omega) (by omega)) rfl)
 have D0 : Hid ((smallC liveS11).cells.setIfInBounds 2 (.int .i64 2) = live2.cells) := hQQ (by rw [liveS11_is]; rfl)
 generalize smallC liveS11 = d at SM D0
 have R5 := hQQ live2_ok
 have hc4 := cells_one d
 have HS := hQQ hs
 have l0 := hs.lt0
 have lb := hs.lt
 clear hs
 go_enter Tryz.func6,Tryz.ntmps6
 go_wp2_with fail
 refine (SM.out).mono ?_
 rintro e w1 ⟨rfl,m1⟩
 have MA := hQQ m1
 have hs1 := m1.size
 have C2 := row_new w1 #[.int .i64 0,.int .i64 0,.int .i64 0,.int .i64 0,.int .i64 0,.int .i64 0,.int .i64 0,.int .i64 0,.int .i64 0,.int .i64 0,.int .i64 0] 23
 clear m1 SM
 go_wp2_with (first
   | (refine wpList_store_row rfl 23 _ _ rfl w1.heap.size d.cells rfl rfl 23 _ C2 (by kernel_rfl) rfl hc4 ?_; have C3 := setRow_heap _ _ _ d.cells _ _ C2; have M5 : Hid (More w ((w1.alloc (.cells #[.int .i64 0,.int .i64 0,.int .i64 0,.int .i64 0,.int .i64 0,.int .i64 0,.int .i64 0,.int .i64 0,.int .i64 0,.int .i64 0,.int .i64 0] 23)).setRow w1.heap.size d.cells)) := hQQ ((MA.out.alloc _).setRow _ _ hs1); generalize World.setRow _ _ _ = w5 at C3 M5 ⊢; clear C2)
   | (refine wpList_store_int rfl 3 _ _ rfl rfl w1.heap.size 2 rfl 2 rfl _ _ C3 (by simp [Cfg.cells]) (by kernel_rfl) ?_; rw [D0.out]; intro w6 hb6 ht6; have HB := hQQ hb6; have HM : Hid (More w w6) := hQQ (Turned.mono (turned_own (F:=fun _ => False) M5.out ht6 (fun k q => .inr (by omega))) (fun _ _ q => q)); clear hb6 ht6)
   | (refine wpList_load_row rfl 23 _ rfl w1.heap.size rfl 23 _ _ _ HB.out Tryz.underlying23 rfl (by kernel_rfl) ?_))
 refine (y_of R5.out _).mono ?_
 rintro e w7 ⟨rfl,m7⟩
 have D1 := row_new w7 zero24 28
 have D2 := setRow_heap (w7.alloc (.cells zero24 28)) w7.heap.size _ live2.arr _ _ D1
 have M7 := HM.out.trans m7
 have M8 : More w ((w7.alloc (.cells zero24 28)).setRow w7.heap.size live2.arr) := (M7.alloc _).setRow _ _ M7.size
 have s8 : ((w7.alloc (.cells zero24 28)).setRow w7.heap.size live2.arr).heap.size = w7.heap.size + 1 := by simp
 have hs7 := M7.size
 have D1 := hQQ D1
 obtain ⟨w8,e8⟩ : ∃ w8,(w7.alloc (.cells zero24 28)).setRow w7.heap.size live2.arr = w8 := ⟨_,rfl⟩
 rw [e8] at D2 M8 s8
 obtain ⟨w9,e9,ha,m9,s9⟩ := entry1 w8 (.cells (row4 (0,0,0,0)) 39)
 simp only [row4] at e9
 have M13 := hQQ (M8.trans m9)
 have HD := hQQ (m9.block D2)
 have HA : Hid (Box4 w8.heap.size w9 (0,0,0,0)) := hQQ ha
 have l7 : w7.heap.size < w8.heap.size := by omega
 clear m7 HM HB C3 M5 M7 M8 ha m9 hc4 D2 s8
 go_wp2_with (first
   | (refine wpList_store_row rfl 28 _ _ rfl w7.heap.size live2.arr rfl rfl 28 _ D1.out (by kernel_rfl) rfl (arr_one live2) ?_)
   | (refine wpList_load_row rfl 28 _ rfl w7.heap.size rfl 28 _ _ _ HD.out Tryz.underlying28 rfl (by kernel_rfl) ?_))
 refine (y_words R5.out _).mono ?_
 rw [live2_words]
 rintro e w14 ⟨rfl,m14⟩
 obtain ⟨w15,hmk,N1,m15,s15⟩ : ∃ w15,(Instr.makeSlice 31 (.int .i64 320) (.int .i64 320)).run Tryz.prog w14 = .ok (.slice (some ⟨w14.heap.size,0,none⟩) 320 320) w15 ∧ w15.heap[w14.heap.size]? = some (.cells (rowOf (zeros 320)) 3 (0,0)) ∧ More w14 w15 ∧ w15.heap.size = w14.heap.size + 1 :=
   ⟨_,run_make_zeros 320 (by omega) w14,row_new w14 _ _,(More.refl _).alloc _,by simp⟩
 have mm := m14.trans m15
 have M15 := hQQ (M13.out.trans mm)
 have DO := hQQ (live11_do w15 w7.heap.size w8.heap.size bt (some ⟨w14.heap.size,0,none⟩) 320 ⟨mm.block HD.out,⟨_,mm.block HA.out⟩,HS.out.more M15.out⟩ ⟨by omega,by omega,by omega⟩ (zeros_row _ _ _ N1))
 have hw8 : w.heap.size ≤ w8.heap.size := by omega
 clear m14 m15 mm N1 s15 HD HA M13 e8 e9 D1 s9
 go_wp2_with fail
 refine DO.out.mono ?_
 rintro e w16 ⟨v1,v2,rfl,hr,h1,hx,ht⟩
 have L1 := hQQ h1
 have HX := hQQ hx
 have c0 : w16.cell? ⟨w8.heap.size,0,none⟩ = some (.int .i64 256) := cell_more (j:=0) hx (More.refl _) rfl
 have c1 : w16.cell? ⟨w8.heap.size,1,none⟩ = some (.int .i64 272) := cell_more (j:=1) hx (More.refl _) rfl
 have c2 : w16.cell? ⟨w8.heap.size,2,none⟩ = some (.int .i64 288) := cell_more (j:=2) hx (More.refl _) rfl
 have c3 : w16.cell? ⟨w8.heap.size,3,none⟩ = some (.int .i64 1) := cell_more (j:=3) hx (More.refl _) rfl
 have FIN := hQQ (Turned.mono (turned_own (F:=fun _ => False) M15.out ht (fun k q => .inr (by omega))) (fun _ _ q => q))
 have US : Hid (∀ W,Calls Tryz.prog 36 #[.agg live2.arr] W (Gives W (.int .i64 256))) := hQQ fun W => by rw [← live2_us]; exact xuser R5.out W
 clear hr h1 hx ht DO M15
 go_wp2_with fail
 refine wp_region_more (by kernel_rfl) (by kernel_rfl) ?_
 iterate 9
   with_reducible refine wpQuiet_step (fun K hK => ?_)
   go_simp
   first
   | (refine hK _ ?_; clear hK K)
   | (apply Exists.intro
      refine ⟨fun W hW => ?_,hK _ ?_⟩
      first
      | (have c0' := hW.cell c0; go_simp; try rfl)
      clear hK K)
 refine wpQuiet_load_row rfl 28 _ rfl _ rfl 28 _ _ _ (fun W hW => hW.block L1.out) Tryz.underlying28 rfl (by kernel_rfl) ?_
 iterate 1
   with_reducible refine wpQuiet_step (fun K hK => ?_)
   go_simp
   first
   | (refine hK _ ?_; clear hK K)
   | (apply Exists.intro
      refine ⟨fun W hW => ?_,hK _ ?_⟩
      first
      | (go_at_call 36; exact Calls.more hW (US.out W))
      | (go_simp; try rfl)
      clear hK K)
 iterate 24
   with_reducible refine wpQuiet_step (fun K hK => ?_)
   go_simp
   first
   | (refine hK _ ?_; clear hK K)
   | (apply Exists.intro
      refine ⟨fun W hW => ?_,hK _ ?_⟩
      first
      | (have c0' := hW.cell c0; have c1' := hW.cell c1; have c2' := hW.cell c2; have c3' := hW.cell c3; go_simp; try rfl)
      clear hK K)
 refine wpQuiet_nil ?_
 intro w4 m4
 have F17 := hQQ (FIN.out.trans m4)
 clear m4
 go_wp2_with fail
 go_ret
 exact ⟨rfl,F17.out⟩
theorem wpList_pushB {ops : Array Oper} {rest : List Oper} {o : Oper} {a : Act} {Q : Exit → Act → World → Prop} {w wa : World} {v : Value} {xs : List Int} (y : Int) (hgd : o.guard = none) (s x : Operand)
   (ho : o.op = .call { callee := .builtin .append,args := #[s,x],argTypes := #[34,34] })
   (hs : a.eval s = v) (hn : Rw wa.heap.size w v xs) (hW : More wa w) (hl : xs.length ≤ 1000000)
   (hx : a.eval x = .slice (some ⟨w.heap.size,0,none⟩) 1 1)
   (h : ∀ v' w',Rw wa.heap.size w' v' (xs ++ [y]) → More wa w' → wpList Tryz.prog ops Q rest (a.put o.dst v') w') : wpList Tryz.prog ops Q (o :: rest) a (w.alloc (.cells #[.int .i64 y] 3)) := by
 obtain ⟨i,i1,i2,i3,i4⟩ := int_info
 have hn' := hn.more ((More.refl w).alloc (.cells #[.int .i64 y] 3))
 have hB := heap_new w (.cells #[.int .i64 y] 3)
 refine wpList_append_lies _ hgd s x 34 ho wa.heap.size 3 i _ 1 8 Tryz.underlying34 i1 i2 i3 i4 rfl (by omega) v xs.length _ hs hn' ⟨w.heap.size,0,none⟩ 1 1 [.int .i64 y] hx (by simp)
   (fun j u hu => World.news_of_block hB j u (by simpa using hu)) (by intro u hu; simp at hu; subst hu; rfl) (by omega) (by simp only [maxLen]; omega) (by omega) (by have := hW.size; simp; omega) _ rfl ?_
 intro g cap w1 hown hgrow _ _
 refine h _ w1 ?_ (more_of_grown (hW.alloc _) hn' hgrow)
 unfold Rw
 rw [List.length_append,List.map_append]
 exact hown
def atV (us : Int) (bs : List Int) (kind m : Int) : Int :=
 if kind = 2 ∧ bs ≠ [] then bs.getD ((IntKind.u64.wrap m).tmod bs.length).toNat 0 else wrap64 (us + wrap64 ((IntKind.u64.wrap m).tmod 1024))
theorem uN_0 (m : Int) : 0 ≤ IntKind.u64.wrap m := by rw [IntKind.wrap_u64]; omega
theorem remU_b {u n : Int} (h : 0 ≤ u) (hn : 1 ≤ n) (hm : n ≤ 1000000) : 0 ≤ u.tmod n ∧ u.tmod n < n ∧ IntKind.i64.wrap (u.tmod n) = u.tmod n := by
 rw [Int.tmod_eq_emod_of_nonneg h]
 have h1 := Int.emod_nonneg u (show n ≠ 0 by omega)
 have h2 := Int.emod_lt_of_pos u (show 0 < n by omega)
 exact ⟨h1,h2,wrap_in (by omega) (by omega)⟩
theorem l11_at (us : Int) (bs : List Int) (kind k m : Int) (b : Nat) (v : Value) (w : World) (hr : Rw b w v bs) (hl : bs.length ≤ 1000) :
   Calls Tryz.prog 8 #[v,.int .i64 us,.agg #[.int .i64 kind,.int .i64 k,.int .i64 m]] w (Gives w (.int .i64 (atV us bs kind m))) := by
 obtain ⟨a,cap,rfl,rd⟩ := hr.reads
 have hu := hQQ (uN_0 m)
 obtain ⟨res,hres⟩ : ∃ res,atV us bs kind m = res := ⟨_,rfl⟩
 rw [hres]
 unfold atV at hres
 obtain ⟨w1,e1,hb1,m1,s1⟩ := entry1 w (.cells #[.int .i64 kind,.int .i64 k,.int .i64 m] 38)
 have M1 := hQQ m1
 have y0 := cell_more (j:=0) hb1 (More.refl _) rfl
 have y2 := cell_more (j:=2) hb1 (More.refl _) rfl
 clear hr hb1
 by_cases hk : kind = 2
 · have t0 : (kind == 2) = true := by simp [hk]
   by_cases hb : bs = []
   · rw [if_neg (by rintro ⟨_,q⟩; exact q hb)] at hres
     have HRS := hQQ hres
     clear hres hk rd m1 hl
     subst hb
     rw [List.length_nil]
     go_enter Tryz.func8,Tryz.ntmps8
     go_wp2_with fail
     rw [HRS.out]
     go_ret
     exact ⟨rfl,M1.out⟩
   · have hp : 0 < bs.length := by cases bs with | nil => exact absurd rfl hb | cons => simp
     have d1 : decide ((0 : Int) < (bs.length : Int)) = true := by simp; omega
     rw [if_pos ⟨hk,hb⟩] at hres
     obtain ⟨r0,r1,r2⟩ := remU_b (n:=(bs.length : Int)) hu.out (by omega) (by omega)
     obtain ⟨g,rfl,_,hg,hc⟩ := rd 0 hp
     have hc := hc ((IntKind.u64.wrap m).tmod bs.length).toNat (by omega)
     rw [hres] at hc
     have hc := m1.cell hc
     have uw : IntKind.u64.wrap (bs.length : Int) = (bs.length : Int) := by rw [IntKind.wrap_u64]; omega
     have nz : ((bs.length : Int) == 0) = false := by simp; omega
     obtain ⟨q,hq⟩ : ∃ q : Nat,(IntKind.u64.wrap m).tmod bs.length = (q : Int) := ⟨_,(Int.toNat_of_nonneg r0).symm⟩
     rw [hq] at hc r0 r1 r2
     simp only [Int.toNat_natCast] at hc
     have HRS := hQQ hres
     have HR1 := hQQ r1
     have d2 : decide ((q : Int) < (bs.length : Int)) = true := by simp; omega
     have d3 : decide (q < bs.length) = true := by simp; omega
     have d4 : decide (0 < bs.length) = true := by simp; omega
     have nn : ¬ bs = [] := hb
     have nz2 : (bs.length == 0) = false := by simp; exact hb
     have r4 : q < bs.length := by omega
     clear hres hb hk rd m1 hl r0 r1
     go_enter Tryz.func8,Tryz.ntmps8
     go_wp2_with fail
     go_ret
     exact ⟨rfl,M1.out⟩
 · have t0 : (kind == 2) = false := by simp [hk]
   rw [if_neg (by rintro ⟨q,_⟩; exact hk q)] at hres
   have HRS := hQQ hres
   clear hres hk rd m1 hl
   go_enter Tryz.func8,Tryz.ntmps8
   go_wp2_with fail
   rw [HRS.out]
   go_ret
   exact ⟨rfl,M1.out⟩
theorem l11_without (bs : List Int) (ad : Int) (b : Nat) (v : Value) (w : World) (hr : Rw b w v bs) (hl : bs.length ≤ 1000) :
   Calls Tryz.prog 15 #[v,.int .i64 ad] w (GaveInts w (bs.filter fun x => x != ad)) := by
 obtain ⟨a,cap,rfl,rd⟩ := hr.reads
 have HL := hQQ hl
 have RD := hQQ rd
 have M0 := hQQ (More.refl w)
 have N0 := hQQ (Rw.nil w.heap.size w)
 clear hr rd hl
 go_enter Tryz.func15,Tryz.ntmps15
 go_wp2_with fail
 go_loopw [5,6] (fun v5 v6 wr => ∃ j : Nat,v6 = .int .i64 (j : Int) ∧ j ≤ bs.length ∧ Rw w.heap.size wr v5 ((bs.take j).filter fun x => x != ad) ∧ More w wr) (fun _ v6 _ => bs.length - (intOf v6).toNat)
 case atStart => exact ⟨0,rfl,Nat.zero_le _,N0.out,M0.out⟩
 case round =>
   obtain ⟨j,rfl,hj,hR,hM⟩ := hrel
   have HR := hQQ hR
   have HM := hQQ hM
   have HJ := hQQ hj
   clear hR hj
   by_cases hlt : j < bs.length
   · have d1 : decide ((j : Int) < (bs.length : Int)) = true := by simp; omega
     have d2 : decide (j < bs.length) = true := by simp; omega
     obtain ⟨g,rfl,_,hg,hc⟩ := RD.out j hlt
     have hc := hM.cell (hc j hlt)
     have ht : bs.take (j + 1) = bs.take j ++ [bs.getD j 0] := by
       rw [List.take_add_one,List.getElem?_eq_getElem hlt]; simp [List.getD,hlt]
     obtain ⟨x,hx⟩ : ∃ x,bs.getD j 0 = x := ⟨_,rfl⟩
     rw [hx] at hc ht
     have hl0 := HL.out
     have HT := hQQ ht
     have HLT := hQQ hlt
     clear hM ht hx
     by_cases hne : x = ad
     · have t1 : (x != ad) = false := by simp [hne]
       have FIN := hQQ (show Rw w.heap.size wr _ ((bs.take (j + 1)).filter fun x => x != ad) from by rw [HT.out,List.filter_append,List.filter_cons_of_neg (by simp [hne]),List.filter_nil,List.append_nil]; exact HR.out)
       clear hne
       go_wp2_with fail
       refine ⟨⟨j + 1,by go_num,by have := HLT.out; omega,FIN.out,HM.out⟩,?_⟩
       have := HLT.out
       simp [intOf]; omega
     · have t1 : (x != ad) = true := by simp [hne]
       have hfl : ((bs.take j).filter fun x => x != ad).length ≤ 1000 := by
         have := List.length_filter_le (fun x => x != ad) (bs.take j)
         have := HL.out
         simp at *; omega
       have HF := hQQ (show (bs.take (j + 1)).filter (fun x => x != ad) = (bs.take j).filter (fun x => x != ad) ++ [x] from by rw [HT.out,List.filter_append,List.filter_cons_of_pos (by simp [hne]),List.filter_nil])
       have HFL := hQQ hfl
       clear hne hfl
       go_wp2_with (at_builtin; refine wpList_pushB _ rfl _ _ rfl rfl HR.out HM.out (by have := HFL.out; omega) rfl ?_; intro v' w5 hr5 hm5; have HR5 := hQQ hr5; have HM5 := hQQ hm5; clear hr5 hm5)
       refine ⟨⟨j + 1,by go_num,by have := HLT.out; omega,by rw [HF.out]; exact HR5.out,HM5.out⟩,?_⟩
       have := HLT.out
       simp [intOf]; omega
   · have d1 : decide ((j : Int) < (bs.length : Int)) = false := by simp; omega
     have he : bs.take j = bs := by rw [List.take_of_length_le (by omega)]
     have FIN := hQQ (show Rw w.heap.size wr _ (bs.filter fun x => x != ad) from by have := HR.out; rw [he] at this; exact this)
     clear hM he
     go_wp2_with fail
     go_ret
     exact ⟨_,rfl,FIN.out,HM.out⟩
end Go.Proofs.YtflihdcliknggaaGreatDoor
namespace Go.Proofs.YtflihdcliknggaaGreatDoor
open Go.ChangeShapes Go.WideShapes Go.ChangeAt Go.RowKit Go.Joins Go.Deep
theorem IsIns.keepN {w w' : World} {a : Option Addr} {l : List Ins3} (h : IsIns w a l) {S : Nat → Prop} (t : Turned S w w') (hs : l ≠ [] → ∀ k,leads a k → ¬ S k) : IsIns w' a l := by
 by_cases e : l = []
 · exact .inl e
 · exact h.keep t (hs e)
theorem IsIns.lt {w : World} {a : Option Addr} {l : List Ins3} (h : IsIns w a l) (hne : l ≠ []) : ∀ b,leads a b → b < w.heap.size := fun b hb => by
 obtain ⟨s,o,rfl,hs,_⟩ := h.resolve_left hne
 have : s = b := by simpa [leads] using hb
 omega
theorem run_lv3 {P : Program} (w : World) (s off : Nat) (ty : TypeId) (v0 v1 v2 : Value) (d : TypeDesc) (h0 : w.cell? ⟨s,off,none⟩ = some v0) (h1 : w.cell? ⟨s,off + 1,none⟩ = some v1) (h2 : w.cell? ⟨s,off + 2,none⟩ = some v2)
   (hu : P.underlying ty = some d) (hd : (match d with | .struct _ | .array _ _ => true | _ => false) = true) (hi : (P.info? ty).map (·.size) = some 3) :
   (loadVar ty ⟨s,off,none⟩).run P w = .ok (.agg #[v0,v1,v2]) w := by
 have hl : (loadCells ⟨s,off,none⟩ [v0,v1,v2].length).run P w = .ok [v0,v1,v2].toArray w :=
   run_loadCells_list (P:=P) w ⟨s,off,none⟩ [v0,v1,v2] (fun j v hv => by
     rw [addr_add]
     match j,hv with
     | 0,hv => cases hv; exact h0
     | 1,hv => cases hv; exact h1
     | 2,hv => cases hv; exact h2
     | j + 3,hv => simp at hv)
 cases hq : P.info? ty with
 | none => simp [hq] at hi
 | some i =>
   have hs : i.size = 3 := by simpa [hq] using hi
   have hagg : (isAgg ty).run P w = .ok true w := by
     unfold isAgg
     rw [Sem.run_bind,run_underlying hu w]
     cases d <;> simp_all
   simp only [List.length_cons,List.length_nil,Nat.reduceAdd] at hl
   simp [loadVar,Sem.run_bind,hagg,sizeOf,typeInfo,hq,hs,hl]
theorem wpQuiet_ld3 {P : Program} {ops : Array Oper} {a : Act} {o : Oper} {rest : List Oper} {C : World → Prop} {Q : Act → Prop} (hw : Region.wanted o (yielded ops a.tmps) = true) (ty : TypeId) (x : Operand) (ho : o.op = .load ty x)
   (s off : Nat) (hx : a.eval x = .pointer (some ⟨s,off,none⟩)) (v0 v1 v2 : Value) (d : TypeDesc) (hg : ∀ W,C W → W.cell? ⟨s,off,none⟩ = some v0 ∧ W.cell? ⟨s,off + 1,none⟩ = some v1 ∧ W.cell? ⟨s,off + 2,none⟩ = some v2)
   (hu : P.underlying ty = some d) (hd : (match d with | .struct _ | .array _ _ => true | _ => false) = true) (hi : (P.info? ty).map (·.size) = some 3)
   (h : wpQuiet P ops C Q rest (a.put o.dst (.agg #[v0,v1,v2]))) : wpQuiet P ops C Q (o :: rest) a := by
 refine wpQuiet_do (.agg #[v0,v1,v2]) hw (fun W hW => ?_) h
 obtain ⟨h0,h1,h2⟩ := hg W hW
 unfold Oper.quietAt execOp
 simp only [ho,hx,Instr.loadAt,Instr.sureAddr,Sem.run_bind,Sem.run_pure,Result.andThen_ok,run_lv3 W s off ty v0 v1 v2 d h0 h1 h2 hu hd hi]
 exact ⟨rfl,rfl⟩
theorem yieldsC_3 {P : Program} {ops : Array Oper} {C : World → Prop} {o : Oper} {a : Act} (hw : Region.wanted o (yielded ops a.tmps) = true) (ty : TypeId) (x : Operand) (ho : o.op = .load ty x)
   (s off : Nat) (hx : a.eval x = .pointer (some ⟨s,off,none⟩)) (v0 v1 v2 : Value) (d : TypeDesc) (hg : ∀ W,C W → W.cell? ⟨s,off,none⟩ = some v0 ∧ W.cell? ⟨s,off + 1,none⟩ = some v1 ∧ W.cell? ⟨s,off + 2,none⟩ = some v2)
   (hu : P.underlying ty = some d) (hd : (match d with | .struct _ | .array _ _ => true | _ => false) = true) (hi : (P.info? ty).map (·.size) = some 3) : YieldsC P ops C o (.agg #[v0,v1,v2]) a := by
 refine .inl ⟨hw,fun W hW => ?_⟩
 obtain ⟨h0,h1,h2⟩ := hg W hW
 unfold execOp
 simp only [ho,hx,Instr.loadAt,Instr.sureAddr,Sem.run_bind,Sem.run_pure,Result.andThen_ok,run_lv3 W s off ty v0 v1 v2 d h0 h1 h2 hu hd hi]
end Go.Proofs.YtflihdcliknggaaGreatDoor
namespace Go.Proofs.YtflihdcliknggaaGreatDoor
open Go.RowKit Go.Sort Go.Maps Go.Shelf
structure EpG (g1 g2 g3 g4 g5 bt : Nat) (c : Cfg) (a : Option Addr) (capl : Nat) (l : List Ins3) (j : Nat) (ad : Int) (w : World) : Prop where
 h1 : w.heap[g1]? = some (.cells c.arr 28 (0,0))
 h2 : w.heap[g2]? = some (.cells #[.slice a l.length capl] 24 (0,0))
 h3 : w.heap[g3]? = some (.cells #[.int .i64 (j : Int)] 3 (0,0))
 h4 : w.heap[g4]? = some (.cells #[.int .i64 ad] 3 (0,0))
 h5 : ∃ t,Box4 g5 w t
 sz : SzAt bt w
end Go.Proofs.YtflihdcliknggaaGreatDoor
namespace Go.Proofs.YtflihdcliknggaaGreatDoor
open Go.RowKit
variable (wk cp pg st tr wt ck pr ca bi ba : Int) (w : World)
variable (wk cp pg st tr wt ck pr ca bi ba : Int) (w : World)
end Go.Proofs.YtflihdcliknggaaGreatDoor
namespace Go.Proofs.YtflihdcliknggaaGreatDoor
open Go.RowKit Go.Sort Go.Maps Go.Shelf
section
variable {c : Cfg} {ws : List Int} {n step res : Int}
theorem FIN2 (n1 : 1 ≤ n) (s1 : 1 ≤ step) (hpg : 0 ≤ c.pg) (hn : ∀ q,0 ≤ q → q < c.pg → q % step = 0 → opV c.pg c.st ws q n true = false) {p : Int} (p0 : 0 ≤ p) (pm : p % step = 0) (ho : opV c.pg c.st ws p n false = true) (hb : ∀ q,0 ≤ q → q < p → q % step = 0 → opV c.pg c.st ws q n false = false) (hres : (if leastV (openB c.pg c.st ws) c.pg n step = -1 then leastV (freeB c.pg c.st ws) c.pg n step else leastV (openB c.pg c.st ws) c.pg n step) = res) : p = res := by
 have h0 : leastV (openB c.pg c.st ws) c.pg n step = -1 := find_none n1 s1 hpg true hn
 have h : leastV (freeB c.pg c.st ws) c.pg n step = p := find_first n1 s1 hpg p0 pm false ho hb
 rw [h0,if_pos rfl,h] at hres
 exact hres
end
end Go.Proofs.YtflihdcliknggaaGreatDoor
namespace Go.Proofs.YtflihdcliknggaaGreatDoor
open Go.RowKit
variable (w : World)
end Go.Proofs.YtflihdcliknggaaGreatDoor
namespace Go.Proofs.YtflihdcliknggaaGreatDoor
open Go.RowKit Go.Sort Go.Maps Go.Shelf
theorem wp_alloc4 {o : Oper} {a : Act} {w : World} {K : Act → World → Prop} {Q : Exit → Act → World → Prop} (ho : o.op = .alloc 39) (h : K (a.put o.dst (.pointer (some ⟨w.heap.size,0,none⟩))) (w.alloc (.cells #[.int .i64 0,.int .i64 0,.int .i64 0,.int .i64 0] 39))) : Oper.wp Tryz.prog o a w K Q := by
 unfold Oper.wp Oper.upon execOp
 simp only [ho]
 go_simp
 exact h
theorem wpList_pushW {ops : Array Oper} {rest : List Oper} {o : Oper} {a : Act} {Q : Exit → Act → World → Prop} {w : World} {b : Nat} {v : Value} {xs : List Int} (y : Int) (hgd : o.guard = none) (s x : Operand)
   (ho : o.op = .call { callee := .builtin .append,args := #[s,x],argTypes := #[34,34] })
   (hs : a.eval s = v) (hn : Rw b w v xs) (hb : b ≤ w.heap.size) (hl : xs.length ≤ 1000000)
   (hx : a.eval x = .slice (some ⟨w.heap.size,0,none⟩) 1 1)
   (h : ∀ g cap w',Rw b w' (.slice (some ⟨g,0,none⟩) (xs.length + 1) cap) (xs ++ [y]) → Turned (fun k => v.ownBlock = some k) w w' → (v.ownBlock = some g ∨ w.heap.size ≤ g) → wpList Tryz.prog ops Q rest (a.put o.dst (.slice (some ⟨g,0,none⟩) (xs.length + 1) cap)) w') : wpList Tryz.prog ops Q (o :: rest) a (w.alloc (.cells #[.int .i64 y] 3)) := by
 obtain ⟨i,i1,i2,i3,i4⟩ := int_info
 have hn' := hn.more ((More.refl w).alloc (.cells #[.int .i64 y] 3))
 have hB := heap_new w (.cells #[.int .i64 y] 3)
 have hW : More w (w.alloc (.cells #[.int .i64 y] 3)) := (More.refl w).alloc _
 refine wpList_append_lies _ hgd s x 34 ho b 3 i _ 1 8 Tryz.underlying34 i1 i2 i3 i4 rfl (by omega) v xs.length _ hs hn' ⟨w.heap.size,0,none⟩ 1 1 [.int .i64 y] hx (by simp)
   (fun j u hu => World.news_of_block hB j u (by simpa using hu)) (by intro u hu; simp at hu; subst hu; rfl) (by omega) (by simp only [maxLen]; omega) (by omega) (by have := hW.size; omega) _ rfl ?_
 intro g cap w1 hown hgrow hor _
 refine h g cap w1 ?_ ?_ (hor.imp id (fun q => by have := hW.size; omega))
 · unfold Rw
   rw [List.length_append,List.map_append]
   exact hown
 · exact ⟨hgrow.os.trans hW.os,hgrow.tape.trans hW.tape,hgrow.output.trans hW.output,Nat.le_trans hW.size hgrow.size,fun k hk hne => (hgrow.block k (Nat.lt_of_lt_of_le hk hW.size) (fun q => hne q.symm)).trans (Turned.block hW k hk (fun q => q))⟩
theorem pg_hdin {c : Cfg} (S : c.Small) {n : Nat} (hn : (n : Int) = c.words) : HdIn c.pg c.st n := by
 have h2 := userB S.ok; have h3 := S.ok.pg1
 have h5 : headsV c.st c.pg + 62 ≤ liveV c.cp c.pg c.st c.ca c.bi := by
   have := prod5B S.ok; have := S.ok.bi1
   unfold liveV binsV cachesV; omega
 have h6 : tableV c.st + chunksV c.pg + 5 * c.pg + 62 ≤ n := by
   rw [hn]
   show _ ≤ wordsV c.cp c.pg c.st c.ca c.bi
   unfold wordsV
   unfold headsV at h5
   omega
 exact { S.tbl hn with top5 := by omega,top62 := h6 }
def ApartB (vb : Value) (gw bl br ba gz gi : Nat) : Prop := ∀ q,vb.ownBlock = some q → q ≠ gw ∧ q ≠ bl ∧ q ≠ br ∧ q ≠ ba ∧ q ≠ gz ∧ q ≠ gi
structure PgI (w wr : World) (d : Cfg) (a : Option Addr) (capl : Nat) (l : List Ins3) (bl br ba n gw cw j : Nat) (zs : List Int) (gz cz gi : Nat) (vb : Value) (bs : List Int) : Prop where
 hj : j ≤ l.length
 hi : wr.heap[gi]? = some (.cells #[.int .i64 (j : Int)] 3 (0,0))
 len : zs.length = n
 ok : OkW zs
 pw : ∃ G,PgW d.pg d.st G zs
 z : Ws wr gz cz zs
 wnt : Ws wr gw cw zs
 lb : wr.heap[bl]? = some (.cells d.arr 28 (0,0))
 rb : wr.heap[br]? = some (.cells d.cells 30 (0,0))
 ab : wr.heap[ba]? = some (.cells #[.slice a l.length capl] 24 (0,0))
 n1 : gw ≠ gz
 n2 : gi ≠ gw ∧ gi ≠ gz ∧ gi ≠ bl ∧ gi ≠ br ∧ gi ≠ ba
 n3 : gw ≠ bl ∧ gw ≠ br ∧ gw ≠ ba
 more : More w wr
 lo : w.heap.size ≤ gi ∧ w.heap.size ≤ gw
 row : Rw w.heap.size wr vb bs
 bl' : bs.length ≤ j
 nb : ApartB vb gw bl br ba gz gi
end Go.Proofs.YtflihdcliknggaaGreatDoor
