/-
  Layer 11: a block that is grabbed, and returned, leaves the pages as they were.
-/
import Derived.Test.YtflihdcliknggaaGreatDoorPbAv
import Derived.Test.YtflihdcliknggaaGreatDoorPbAm
import Derived.Test.YtflihdcliknggaaGreatDoorPbAq
import Derived.Test.YtflihdcliknggaaGreatDoorPbAt
import Derived.Test.YtflihdcliknggaaGreatDoorPbAf
import Derived.Deep.AppendSrc
import Derived.Test.YtflihdcliknggaaGreatDoorPbAk
import Derived.Test.YtflihdcliknggaaGreatDoorPbAs
set_option maxRecDepth 100000
set_option maxHeartbeats 8000000
set_option linter.unusedVariables false
set_option linter.unusedSimpArgs false
set_option linter.unusedSectionVars false
namespace Go.Proofs.YtflihdcliknggaaGreatDoor
open Go.RowKit Go.Sort Go.Maps Go.Shelf
def SameP (pg st : Int) (a b : List Int) : Prop := ∀ p,isPage pg p = true → kindV pg st b p = kindV pg st a p ∧ cntV pg st b p = cntV pg st a p ∧ bitV pg st b p = bitV pg st a p
theorem SameP.refl (pg st : Int) (a : List Int) : SameP pg st a a := fun _ _ => ⟨rfl,rfl,rfl⟩
theorem freeN_same {pg st : Int} {a b : List Int} (h : SameP pg st a b) (k : Int) : ∀ (m : Nat) (q s : Int),0 ≤ q → q + m ≤ pg → freeNV pg st k m q s b = freeNV pg st k m q s a
 | 0,q,s,_,_ => rfl
 | m + 1,q,s,h0,h1 => by
   obtain ⟨e1,_,e3⟩ := h q (isPage_iff.2 ⟨h0,by omega⟩)
   unfold freeNV
   rw [e1,e3,freeN_same h k m _ _ (by omega) (by omega),freeN_same h k m _ _ (by omega) (by omega)]
theorem free_same {pg st : Int} {a b : List Int} (h : SameP pg st a b) (hp : 0 ≤ pg) (k : Int) : freeV pg st k b = freeV pg st k a := by
 unfold freeV
 rw [freeN_same h k _ _ _ (by omega) (by omega)]
theorem taken_of {us pg st : Int} {ws : List Int} {q k : Int} {j : Nat} (hq : isPage pg q = true) (hk : 0 ≤ k ∧ k ≤ 4) (hj : (j : Int) < slotsC k) (ek : kindV pg st ws q = k + 1) :
   takenV us pg st (us + 32 * q + j * szV k) ws = some (q,k,(j : Int),hasB (bitV pg st ws q) j) := by
 have hp := isPage_iff.1 hq
 obtain ⟨z,rfl⟩ : ∃ z : Nat,k = (z : Int) := ⟨k.toNat,by omega⟩
 have hz4 : z = 0 ∨ z = 1 ∨ z = 2 ∨ z = 3 ∨ z = 4 := by omega
 have key : slotsC (z : Int) ≠ 0 ∧ 0 < szV (z : Int) ∧ 0 ≤ (j : Int) * szV (z : Int) ∧ (j : Int) * szV (z : Int) < 32 := by
   rcases hz4 with rfl | rfl | rfl | rfl | rfl
   · have hj : (j : Int) < 32 := hj
     refine ⟨by decide,by decide,?_,?_⟩ <;> (show _; simp only [show szV ((0 : Nat) : Int) = 1 from rfl]; omega)
   · have hj : (j : Int) < 16 := hj
     refine ⟨by decide,by decide,?_,?_⟩ <;> (show _; simp only [show szV ((1 : Nat) : Int) = 2 from rfl]; omega)
   · have hj : (j : Int) < 8 := hj
     refine ⟨by decide,by decide,?_,?_⟩ <;> (show _; simp only [show szV ((2 : Nat) : Int) = 4 from rfl]; omega)
   · have hj : (j : Int) < 4 := hj
     refine ⟨by decide,by decide,?_,?_⟩ <;> (show _; simp only [show szV ((3 : Nat) : Int) = 8 from rfl]; omega)
   · have hj : (j : Int) < 2 := hj
     refine ⟨by decide,by decide,?_,?_⟩ <;> (show _; simp only [show szV ((4 : Nat) : Int) = 16 from rfl]; omega)
 obtain ⟨k1,k2,k3,k4⟩ := key
 have hd : (j : Int) * szV (z : Int) / szV (z : Int) = (j : Int) := Int.mul_ediv_cancel _ (by omega)
 have hm : (j : Int) * szV (z : Int) % szV (z : Int) = 0 := Int.mul_emod_left _ _
 obtain ⟨x,hx⟩ : ∃ x,(j : Int) * szV (z : Int) = x := ⟨_,rfl⟩
 rw [hx] at k3 k4 hd hm ⊢
 have e1 : (us + 32 * q + x - us) / 32 = q := by omega
 have e2 : (us + 32 * q + x - us) % 32 = x := by omega
 unfold takenV
 rw [if_pos (by omega),e1,e2,ek]
 unfold tkRestV
 rw [show IntKind.i64.wrap ((z : Int) + 1 - 1) = (z : Int) by rw [show (z : Int) + 1 - 1 = (z : Int) by omega]; exact wrap_in (by omega) (by omega),if_neg k1,if_neg (by rw [hm]; simp),hd]
theorem place_of (us : Int) {pg q k : Int} {j : Nat} (hq : isPage pg q = true) (k0 : 0 ≤ k) (k4 : k ≤ 4) (hj : (j : Int) < slotsC k) : (us + 32 * q + j * szV k - us) / 32 = q := by
 obtain ⟨z,rfl⟩ : ∃ z : Nat,k = (z : Int) := ⟨k.toNat,by omega⟩
 have hz4 : z = 0 ∨ z = 1 ∨ z = 2 ∨ z = 3 ∨ z = 4 := by omega
 rcases hz4 with rfl | rfl | rfl | rfl | rfl
 · have hj : (j : Int) < 32 := hj
   rw [show szV ((0 : Nat) : Int) = 1 from rfl]; omega
 · have hj : (j : Int) < 16 := hj
   rw [show szV ((1 : Nat) : Int) = 2 from rfl]; omega
 · have hj : (j : Int) < 8 := hj
   rw [show szV ((2 : Nat) : Int) = 4 from rfl]; omega
 · have hj : (j : Int) < 4 := hj
   rw [show szV ((3 : Nat) : Int) = 8 from rfl]; omega
 · have hj : (j : Int) < 2 := hj
   rw [show szV ((4 : Nat) : Int) = 16 from rfl]; omega
section
variable {pg st : Int} {n : Nat} (H : HdIn pg st n)
include H
theorem grab_did (us k : Int) {G : Int → List Int} {ws : List Int} (P : PgW pg st G ws) (hn : ws.length = n) :
   (grabV us pg st k ws = ((0,false),ws)) ∨
   ∃ (q : Int) (j : Nat) (f : Int) (G2 : Int → List Int) (X : List Int),isPage pg q = true ∧ 0 ≤ k ∧ k ≤ 4 ∧ (j : Int) < slotsC k ∧ hasB (bitV pg st ws q) j = false ∧ grabV us pg st k ws = ((us + 32 * q + j * szV k,true),X) ∧ PgW pg st G2 X ∧
     (∀ p,isPage pg p = true → kindV pg st X p = (if p = q then k + 1 else kindV pg st ws p) ∧ cntV pg st X p = (if p = q then f else cntV pg st ws p) ∧ bitV pg st X p = (if p = q then setV (bitV pg st ws q) j else bitV pg st ws p)) ∧
     ((kindV pg st ws q = k + 1 ∧ f + 1 = cntV pg st ws q) ∨ (kindV pg st ws q = 0 ∧ f + 1 = slotsC k)) := by
 by_cases hs : slotsC k = 0
 · exact .inl (grab_none1 H us hs ws)
 have hk := slots_cls hs
 by_cases h1 : plFirstV pg st k (slotsC k).toNat 1 ws = -1
 · by_cases h2 : findV pg st 1 1 ws = -1
   · exact .inl (grab_none2 H us hs h1 h2)
   · obtain ⟨y,hy⟩ : ∃ y,findV pg st 1 1 ws = y := ⟨_,rfl⟩
     rw [hy] at h2
     obtain ⟨G1,G2,w1,X,hyp,hk0,_,T,n1,_,M,e,Q⟩ := grab_new H us hs P hn h1 hy h2
     have hf := P.f.free y hyp hk0
     refine .inr ⟨y,0,slotsC k - 1,G2,X,hyp,hk.1,hk.2,by have := slots_in k; simp; omega,by rw [hf.2]; simp [hasB,bit_zero],by rw [e]; simp,Q,fun p hp => ⟨?_,?_,?_⟩,.inr ⟨hk0,by omega⟩⟩
     · rw [LOff.kind H M.o2,sets_kind H hyp _ _ n1,T.kind]
       by_cases e : p = y
       · rw [if_pos e,if_pos e]
       · rw [if_neg e,if_neg e,if_neg (by omega)]
     · rw [LOff.cnt H M.o2 hp,sets_cnt H hyp _ _ n1 hp,T.cnt p hp]
       by_cases e : p = y
       · rw [if_pos e,if_pos e]
       · rw [if_neg e,if_neg e,if_neg e,if_neg (by omega)]
     · rw [LOff.bit H M.o2 hp,sets_bit H hyp _ _ n1 hp,T.bit p hp]
       by_cases e : p = y
       · rw [if_pos e,if_pos e,hf.2]; rfl
       · rw [if_neg e,if_neg e,if_neg (by omega)]
 · obtain ⟨q,hq⟩ : ∃ q,plFirstV pg st k (slotsC k).toNat 1 ws = q := ⟨_,rfl⟩
   rw [hq] at h1
   obtain ⟨j,G1,G2,u,X,hqp,ek,c1,_,_,hj,hb,M,e,Q⟩ := grab_old H us hs P hn hq h1
   refine .inr ⟨q,j,cntV pg st ws q - 1,G2,X,hqp,hk.1,hk.2,hj,by unfold hasB; simp [hb],e,Q,fun p hp => ⟨?_,?_,?_⟩,.inl ⟨ek,by omega⟩⟩
   · rw [LOff.kind H M.o2,sets_kind H hqp _ _ hn]
     by_cases e : p = q
     · rw [if_pos e,e,ek]
     · rw [if_neg e]
   · rw [LOff.cnt H M.o2 hp,sets_cnt H hqp _ _ hn hp]
   · rw [LOff.bit H M.o2 hp,sets_bit H hqp _ _ hn hp]
end
def bkRest (us pg st k was : Int) (x : Int × Bool) : Prg Bool :=
 if x.2 = true then bindP (backP us pg st x.1) fun r1 => if r1 = true then bindP (backP us pg st x.1) fun r2 => if r2 = true then pureP false else bindP (freeP pg st k) fun f => pureP (f == was) else pureP false
 else bindP (backP us pg st x.1) fun r => pureP (!r)
def bkP (us pg st k : Int) : Prg Bool := bindP (freeP pg st k) fun was => bindP (grabP us pg st k) fun x => bkRest us pg st k was x
theorem sound_bk (us pg st k : Int) : Sound (bkP us pg st k) := sound_bind (sound_freeP _ _ _) fun was => sound_bind (sound_grab _ _ _ _) fun x => sound_ite (sound_bind (sound_back _ _ _ _) fun r1 => sound_ite (sound_bind (sound_back _ _ _ _) fun r2 => sound_ite (sound_pure _) (sound_bind (sound_freeP _ _ _) fun f => sound_pure _)) (sound_pure _)) (sound_bind (sound_back _ _ _ _) fun r => sound_pure _)
def bk2V (us pg st k was : Int) (r2 : Bool) (ws : List Int) : Bool × List Int := if r2 = true then (false,ws) else (freeV pg st k ws == was,ws)
def bk1V (us pg st k was a : Int) (r1 : Bool) (ws : List Int) : Bool × List Int := if r1 = true then bk2V us pg st k was (backV us pg st a ws).1 (backV us pg st a ws).2 else (false,ws)
def bkRestV (us pg st k was : Int) (x : Int × Bool) (ws : List Int) : Bool × List Int :=
 if x.2 = true then bk1V us pg st k was x.1 (backV us pg st x.1 ws).1 (backV us pg st x.1 ws).2 else (!(backV us pg st x.1 ws).1,(backV us pg st x.1 ws).2)
def bkV (us pg st k : Int) (ws : List Int) : Bool × List Int := bkRestV us pg st k (freeV pg st k ws) (grabV us pg st k ws).1 (grabV us pg st k ws).2
section
variable {pg st : Int} {n : Nat} (H : HdIn pg st n)
include H
theorem good_bkRest (us k was : Int) (x : Int × Bool) : Good n (fun _ => True) (bkRest us pg st k was x) := good_ite (fun _ => good_bind (good_back H _ _) fun r1 _ => good_ite (fun _ => good_bind (good_back H _ _) fun r2 _ => good_ite (fun _ => good_pure n trivial) (fun _ => good_bind (good_freeP H _) fun f _ => good_pure n trivial)) (fun _ => good_pure n trivial)) (fun _ => good_bind (good_back H _ _) fun r _ => good_pure n trivial)
theorem good_bk (us k : Int) : Good n (fun _ => True) (bkP us pg st k) := good_bind (good_freeP H _) fun was _ => good_bind (good_grab H _ _) fun x _ => good_bkRest H us k was x
theorem flat_bk2 (us k was : Int) (r2 : Bool) : Flat n (if r2 = true then pureP false else bindP (freeP pg st k) fun f => pureP (f == was)) (bk2V us pg st k was r2) := by
 unfold bk2V
 cases r2
 · exact flat_eq (flat_bind (flat_free' H k) fun f => flat_pure n _) fun ws _ => rfl
 · exact flat_pure n _
theorem flat_bk1 (us k was a : Int) (r1 : Bool) : Flat n (if r1 = true then bindP (backP us pg st a) (fun r2 => if r2 = true then pureP false else bindP (freeP pg st k) fun f => pureP (f == was)) else pureP false) (bk1V us pg st k was a r1) := by
 unfold bk1V
 cases r1
 · exact flat_pure n _
 · exact flat_eq (flat_bind (flat_back H us a) fun r2 => flat_bk2 H us k was r2) fun ws _ => rfl
theorem flat_bkRest (us k was : Int) (x : Int × Bool) : Flat n (bkRest us pg st k was x) (bkRestV us pg st k was x) := by
 obtain ⟨a,b⟩ := x
 unfold bkRest bkRestV
 cases b
 · exact flat_eq (flat_bind (flat_back H us a) fun r => flat_pure n _) fun ws _ => rfl
 · exact flat_eq (flat_bind (flat_back H us a) fun r1 => flat_bk1 H us k was a r1) fun ws _ => rfl
theorem flat_bk (us k : Int) : Flat n (bkP us pg st k) (bkV us pg st k) := flat_eq (flat_bind (flat_free' H k) fun was => flat_bind (flat_grab H us k) fun x => flat_bkRest H us k was x) fun ws _ => rfl
theorem back_did (us : Int) {a : Int} {G : Int → List Int} {ws : List Int} (P : PgW pg st G ws) (hn : ws.length = n) (ho : OkW ws) {q k i : Int} (h : tkYes (takenV us pg st a ws) = some (q,k,i)) :
   ∃ (G2 : Int → List Int) (X : List Int),backV us pg st a ws = (true,X) ∧ PgW pg st G2 X ∧
     (∀ p,isPage pg p = true → kindV pg st X p = (if p = q then (if cntV pg st ws q + 1 = slotsC k then 0 else k + 1) else kindV pg st ws p) ∧ cntV pg st X p = (if p = q then (if cntV pg st ws q + 1 = slotsC k then 0 else cntV pg st ws q + 1) else cntV pg st ws p) ∧
       bitV pg st X p = (if p = q then (if cntV pg st ws q + 1 = slotsC k then 0 else clearV (bitV pg st ws q) i) else bitV pg st ws p)) := by
 obtain ⟨hq,ek,_,_,_,_,_,_,_,_,y1,y2⟩ := back_yes H us P hn ho h
 by_cases he : cntV pg st ws q + 1 = slotsC k
 · obtain ⟨G1,G2,u,X,M,e,Q⟩ := y2 he
   refine ⟨G2,X,e,Q,fun p hp => ⟨?_,?_,?_⟩⟩
   · rw [LOff.kind H M.o2,kind_put3 H.toPgIn hq 0 0 hn p,if_pos he]
   · rw [LOff.cnt H M.o2 hp,cnt_put3 H.toPgIn hq 0 0 hn hp,if_pos he]
   · rw [LOff.bit H M.o2 hp,bit_put3 H.toPgIn hq 0 0 hn hp,if_pos he]
 · obtain ⟨G1,G2,u,X,M,e,Q⟩ := y1 he
   refine ⟨G2,X,e,Q,fun p hp => ⟨?_,?_,?_⟩⟩
   · rw [LOff.kind H M.o2,sets_kind H hq _ _ hn,if_neg he]
     by_cases z : p = q
     · rw [if_pos z,z,ek]
     · rw [if_neg z]
   · rw [LOff.cnt H M.o2 hp,sets_cnt H hq _ _ hn hp,if_neg he]
   · rw [LOff.bit H M.o2 hp,sets_bit H hq _ _ hn hp,if_neg he]
theorem bk_ok (us k : Int) (hu : 0 < us) {G : Int → List Int} {ws : List Int} (P : PgW pg st G ws) (hn : ws.length = n) (ho : OkW ws) : ∃ X,bkV us pg st k ws = (true,X) ∧ SameP pg st ws X ∧ X.length = n := by
 rcases grab_did H us k P hn with e | ⟨q,j,f,G2,X,hq,k0,k4,hj,hb,e,Q,hp,hw⟩
 · have hz : backV us pg st 0 ws = (false,ws) := back_no H (by unfold takenV; rw [if_neg (by omega)]; rfl)
   refine ⟨ws,?_,SameP.refl _ _ _,hn⟩
   unfold bkV bkRestV
   rw [e]
   show (if (false : Bool) = true then _ else _) = _
   rw [if_neg (by simp),hz]
   rfl
 · have hr := slots_in k
   have hin : inR (j : Int) = true := (inR_iff _).2 ⟨by omega,by omega⟩
   obtain ⟨oX,nX⟩ := (show OkW X ∧ X.length = n from by
     have := gdone_words H us 0 k 0 hn ho
     unfold gdoneV at this
     rw [if_pos (.inl rfl),e] at this
     exact this)
   obtain ⟨hk1,hc1,hb1⟩ := hp q hq
   rw [if_pos rfl] at hk1 hc1 hb1
   have ht1 : tkYes (takenV us pg st (us + 32 * q + j * szV k) X) = some (q,k,(j : Int)) := by
     rw [taken_of hq ⟨k0,k4⟩ hj hk1,hb1,has_set hin]; rfl
   obtain ⟨G3,Y,eY,QY,hY⟩ := back_did H us Q nX oX ht1
   obtain ⟨oY,nY⟩ := (show OkW Y ∧ Y.length = n from by
     have := gdone_words H us 2 k (us + 32 * q + j * szV k) nX oX
     unfold gdoneV at this
     rw [if_neg (by omega),if_pos (.inl rfl),eY] at this
     exact this)
   have hcl : clearV (bitV pg st X q) j = bitV pg st ws q := by
     rw [hb1]
     have := okW_at' ho (bA pg st q)
     exact clear_set this.1 this.2 hin hb
   have same : SameP pg st ws Y := fun p hpp => by
     obtain ⟨a1,a2,a3⟩ := hY p hpp
     obtain ⟨b1,b2,b3⟩ := hp p hpp
     by_cases z : p = q
     · subst z
       rw [if_pos rfl] at a1 a2 a3
       rw [hc1] at a1 a2 a3
       rw [hcl] at a3
       rcases hw with ⟨w1,w2⟩ | ⟨w1,w2⟩
       · have hcn := (P.f.cnt p hpp (by omega)).2
         rw [w1,show k + 1 - 1 = k by omega] at hcn
         rw [if_neg (by omega)] at a1 a2 a3
         exact ⟨by omega,by omega,a3⟩
       · rw [if_pos (by omega)] at a1 a2 a3
         obtain ⟨f1,f2⟩ := P.f.free p hpp w1
         exact ⟨by omega,by omega,by rw [a3,f2]⟩
     · rw [if_neg z] at a1 a2 a3 b1 b2 b3
       exact ⟨a1.trans b1,a2.trans b2,a3.trans b3⟩
   have ht2 : tkYes (takenV us pg st (us + 32 * q + j * szV k) Y) = none := by
     cases h : tkYes (takenV us pg st (us + 32 * q + j * szV k) Y) with
     | none => rfl
     | some x =>
       obtain ⟨q',k',i'⟩ := x
       exfalso
       obtain ⟨g1,g2,g3,g4,g5,g6,g7,g8⟩ := taken_is H QY.f (tkYes_some h)
       obtain ⟨s1,s2,s3⟩ := same q hq
       rcases hw with ⟨w1,w2⟩ | ⟨w1,w2⟩
       · rw [taken_of hq ⟨k0,k4⟩ hj (by rw [s1,w1]),s3,hb] at h
         cases h
       · have hqq : q' = q := by
           have := place_of us hq k0 k4 hj
           have := place_of us g1 g3 g4 (j:=i'.toNat) (by omega)
           rw [show ((i'.toNat : Nat) : Int) = i' by omega,← g8] at this
           omega
         rw [hqq,s1,w1] at g2
         omega
   have hz2 := back_no H ht2
   refine ⟨Y,?_,same,nY⟩
   unfold bkV bkRestV
   rw [e]
   show (if (true : Bool) = true then _ else _) = _
   rw [if_pos rfl,eY]
   unfold bk1V
   rw [if_pos rfl,hz2]
   unfold bk2V
   rw [if_neg (by simp),free_same same (by have := H.pg1; omega) k]
   simp
end
def RanX (w : World) (S : Nat → Prop) (Y : World → Prop) (X : Nat → World → Prop) (R : Ran) (e : Ending) (w' : World) : Prop :=
 match R with
 | .need a => e = .returned (.tuple #[.int .i64 a,.slice none 0 0]) ∧ Turned S w w' ∧ Y w'
 | .done D => ∃ v p b,e = .returned (.tuple #[.int .i64 (-1),v]) ∧ PRw w.heap.size w' v D ∧ Turned S w w' ∧ Y w' ∧ (w.heap.size ≤ b ∧ X b w') ∧ DeadAt w' p (-1)
theorem runX_ok (kn : Int → Option Int) (R : Ran) (M n : Nat) (w : World) (hk : KnownAt w M n kn) (f : Nat) (cap : Array Value) (S : Nat → Prop) (Y : World → Prop) (X : Nat → World → Prop)
   (henter : ∀ args w,Sem.run Tryz.prog (callFunc f args) w = .ok (.enter f args) w) (hS : ∀ k,S k → k < w.heap.size) (hY : ∀ w' w'',Y w' → Turned (fun k => w.heap.size ≤ k) w' w'' → Y w'') (hX : ∀ b w' w'',w.heap.size ≤ b → X b w' → Turned (fun k => w.heap.size ≤ k ∧ k < b) w' w'' → X b w'') (hY0 : Y w)
   (hprog : ∀ (W : World) (F : Nat → Prop) (p : Nat),More w W → Y W → ViewAt W F p kn [] → (∀ k,F k → w.heap.size ≤ k) → Calls Tryz.prog f (#[.pointer (some ⟨p,0,none⟩)] ++ cap) W (WentY W F S Y (X W.heap.size) p kn R)) :
   Calls Tryz.prog 40 #[.map (some M),.func (.func f) #[] cap] w (RanX w S Y X R) := by
 have hq : ∀ w,Sem.run Tryz.prog (binOp BinOp.eql 46 (Value.func (.func f) #[] cap) Value.nilFunc) w = .ok (.bool false) w := fun w => run_eql_func w _ Tryz.underlying46 _ _ _
 have hmf : ∀ (fn : Fn) (first cap : Array Value) (w : World),(Instr.makeFunc fn first cap).run Tryz.prog w = .ok (.func fn first cap) w := fun _ _ _ _ => rfl
 have HK := hQQ hk
 have HS := hQQ hS
 have HX := hQQ hX
 have HY := hQQ hY
 have HY0 := hQQ hY0
 have HP := hQQ hprog
 clear hk hS hX hY hY0 hprog
 go_enter_defers Tryz.func40,Tryz.ntmps40
 go_wp2_with fail
 refine (new_ok _).mono ?_
 rintro e w1 ⟨F0,q,rfl,m1,M1,n1⟩
 obtain ⟨F,hbeg⟩ := begun_of HK.out m1 M1 n1
 have HB := hQQ hbeg
 have hws : w.heap.size < w1.heap.size := by have := M1.size; simp at this; omega
 clear hbeg m1 M1 n1
 go_wp2_with fail
 change Calls _ _ _ ((w1.alloc (.cells (viewCells (some ⟨w1.heap.size,0,none⟩) M q (-1)) 95)).alloc (.cells #[.pointer (some ⟨w1.heap.size,0,none⟩)] 44)) _
 generalize (w1.alloc (.cells (viewCells (some ⟨w1.heap.size,0,none⟩) M q (-1)) 95)).alloc (.cells #[.pointer (some ⟨w1.heap.size,0,none⟩)] 44) = W at HB ⊢
 generalize w1.heap.size + 1 = bv at HB ⊢
 generalize w1.heap.size = p at HB ⊢
 have hlw : Hid (∀ k,k < w.heap.size → k ≠ bv ∧ k ≠ p) := hQQ fun k hk => by have := HB.out.lv; have := HB.out.lp; omega
 have HPW : Hid (p < W.heap.size) := hQQ (by obtain ⟨_,_,_,_,_,_,_,fp,_,_⟩ := HB.out.view.ex; exact HB.out.view.lt p fp)
 clear hws
 refine (HP.out W F p HB.out.more (HY.out _ _ HY0.out (Turned.mono HB.out.more (fun _ _ q => q.elim))) HB.out.view HB.out.new).mono ?_
 intro e w2 he
 cases R with
 | need a =>
   obtain ⟨rfl,hd,ht,hy⟩ := he
   obtain ⟨hv2,hn2,ne1,ne2⟩ := ran_box HB.out HS.out ht
   change bodyPostD _ _ _ (Exit.panic (endOf p)) _ _
   refine leaves_cons (f:=72) (args:=#[.pointer (some ⟨bv,0,none⟩),.pointer (some ⟨w.heap.size,0,none⟩)]) (by simp) (by simp [go_sem]) ?_
   refine (catch_end p bv w.heap.size a 0 w2 hd hv2 hn2 ne1 ne2 HB.out.vn).mono ?_
   rintro e u' w3 ⟨rfl,rfl,hc⟩
   obtain ⟨b0,_,_⟩ := box_cells hc.2.1
   have FIN : Turned S w w3 ∧ Y w3 := ⟨ran_turn HB.out ht hc.2.2,HY.out _ _ hy (hc.2.2.mono (fun k _ q => by have := HB.out.lp; rcases q with q | q <;> omega))⟩
   simp [Leaves,settle,results,Tryz.results40,go_sem,b0]
   exact ⟨rfl,FIN⟩
 | done D =>
   obtain ⟨rfl,⟨F',hv⟩,ht,hy,hx⟩ := he
   obtain ⟨hv2,hn2,ne1,ne2⟩ := ran_box HB.out HS.out ht
   obtain ⟨M',q',n',F0',hp2,hk2,hm2,fp2,f02,fM2⟩ := hv.ex
   obtain ⟨c0,c1,c2,c3,cf,cl⟩ := view_cells hp2
   obtain ⟨v0,vf,vl⟩ := box_cells hv2
   have TOLD := hQQ (told_ok F0' p q' D w2 c2 hm2)
   have HT := hQQ ht
   have HX2 := hQQ hx
   have HY2 := hQQ hy
   have HP2 := hQQ hp2
   have HV2 := hQQ hv2
   have HN2 := hQQ hn2
   clear hv hk2 hm2 fp2 f02 fM2 hp2 hv2 hn2 ht hx hy
   go_wp2_with fail
   refine TOLD.out.mono ?_
   rintro e w3 ⟨v,rfl,hr,hm3⟩
   obtain ⟨n0,nf,nl⟩ := box_cells (hm3.block HN2.out)
   have HR := hQQ hr
   have HM3 := hQQ hm3
   clear hr hm3
   go_wp2_with fail
   have t4 : Turned (fun k => k = p ∨ k = w.heap.size) w3 (w3.setCell ⟨w.heap.size,0,none⟩ (.int .i64 (-1))) := turned_setCell (Turned.refl _ w3) (fun _ => .inr rfl) _
   have hp4 : (w3.setCell ⟨w.heap.size,0,none⟩ (.int .i64 (-1))).heap[p]? = _ := (Below.heap_setCell _ _ _ _ (Ne.symm ne2)).trans (HM3.out.block HP2.out)
   have hv4 : (w3.setCell ⟨w.heap.size,0,none⟩ (.int .i64 (-1))).heap[bv]? = _ := (Below.heap_setCell _ _ _ _ HB.out.vn).trans (HM3.out.block HV2.out)
   have hn4 := box_put (.int .i64 (-1)) (HM3.out.block HN2.out)
   have hm3 := HM3.out
   have hr := HR.out
   have hlp2 := cl
   have hln2 : w.heap.size < w2.heap.size := lt_of_heap HN2.out
   generalize w3.setCell ⟨w.heap.size,0,none⟩ (.int .i64 (-1)) = w4 at t4 hp4 hv4 hn4 ⊢
   refine leaves_cons (f:=72) (args:=#[.pointer (some ⟨bv,0,none⟩),.pointer (some ⟨w.heap.size,0,none⟩)]) (by simp) (by simp [go_sem]) ?_
   refine (catch_idle p bv w.heap.size M' q' (-1) w4 hp4 hv4 hn4 ne1 ne2 HB.out.vn).mono ?_
   rintro e u' w5 ⟨rfl,rfl,hc⟩
   obtain ⟨b0,_,_⟩ := box_cells hc.2.1
   have t35 : Turned (fun k => k = p ∨ k = w.heap.size) w3 w5 := t4.trans hc.2.2
   have FIN : RanX w S Y X (.done D) (.returned (.tuple #[.int .i64 (-1),v])) w5 := by
     refine ⟨v,p,W.heap.size,rfl,(hr.keep t35 (fun k hk q => by rcases q with q | q <;> omega)).mono (by omega),?_,?_,?_,hc.1⟩
     · exact ran_turn HB.out HT.out ((Turned.mono hm3 (fun _ _ q => q.elim)).trans t35)
     · have hlp := HB.out.lp
       exact HY.out w2 w5 HY2.out ((Turned.mono hm3 (fun _ _ q => q.elim)).trans (t35.mono (fun k _ q => by rcases q with q | q <;> omega)))
     · have hlp := HB.out.lp
       have hpW := HPW.out
       exact ⟨by omega,HX.out W.heap.size w2 w5 (by omega) HX2.out ((Turned.mono hm3 (fun _ _ q => q.elim)).trans (t35.mono (fun k _ q => by rcases q with q | q <;> omega)))⟩
   simp [Leaves,settle,results,Tryz.results40,go_sem,b0]
   exact FIN
def DidX (w : World) (S : Nat → Prop) (Y : World → Prop) (X : Nat → World → Prop) (R : Option (List Int × List KV)) (e : Ending) (w' : World) : Prop :=
 match R with
 | none => e = .returned (.tuple #[.slice none 0 0,.slice none 0 0,.int .i64 3]) ∧ Turned S w w' ∧ Y w'
 | some (ws,K) => ∃ v1 v2 b,e = .returned (.tuple #[v1,v2,.int .i64 0]) ∧ Rw w.heap.size w' v1 ws ∧ PRw w.heap.size w' v2 K ∧ Turned S w w' ∧ Y w' ∧ w.heap.size ≤ b ∧ X b w'
theorem doX_fin {w wb wr w2 w3 : World} {S : Nat → Prop} {Y : World → Prop} {X : Nat → World → Prop} {M : Nat} {zs : List Int} {sem : List KV → Ran} {R : Option (List Int × List KV)} {K D : List KV} {a' an : Option Addr} {cap' cn : Nat} {e : Ending} (h : OnY w wb wr S Y M zs sem R K (.slice an K.length cn)) (hs : sem K = .done D) (mb : More w wb) (hM : w.heap.size ≤ M)
   (hl : ∀ k,owned a' k → w.heap.size ≤ k ∧ k < wb.heap.size) (hS : ∀ k,S k → k < w.heap.size) (m2 : Turned S wr w2) (hf : Finished w2 zs D a' cap' (.slice an K.length cn) e w3)
   (hY : ∀ w' w'',Y w' → Turned (fun k => w.heap.size ≤ k) w' w'' → Y w'') (hX : ∀ b w' w'',w.heap.size ≤ b → X b w' → Turned (fun k => w.heap.size ≤ k ∧ k < b) w' w'' → X b w'') (y2 : Y w2) {b : Nat} (hb : wb.heap.size ≤ b) (x2 : X b w2) : DidX w S Y X R e w3 := by
 have hR := doP_done h.okn hs h.res
 have mbS : Turned S w wb := Turned.mono mb (fun _ _ q => q.elim)
 have t3 : Turned S w w3 := by
   have t1 : Turned S w wr := turned_own mbS h.turn (fun k q => by rcases q with q | q; exact .inr (by omega); exact .inl q)
   exact turned_own (turned_own t1 m2 (fun k q => .inl q)) hf.1 (fun k q => .inr (hl k q).1)
 have t23 : Turned (fun k => w.heap.size ≤ k) w2 w3 := hf.1.mono (fun k _ q => (hl k q).1)
 rcases hf.2 with ⟨h1,h2,h3⟩ | ⟨h1,h2⟩
 · rw [hR,if_pos h1]
   have hlen : (applyD zs D).length = zs.length := applyD_len D zs
   have hwb := mb.size
   refine ⟨_,_,b,h2,?_,?_,t3,hY _ _ y2 t23,by omega,hX b _ _ (by omega) x2 (hf.1.mono (fun k _ q => by have := hl k q; omega))⟩
   · have := h3.own (base:=w.heap.size) (fun k q => (hl k q).1)
     unfold Rw
     rw [List.length_map,hlen] at this
     rw [hlen]; exact this
   · have hb := mb.size
     exact ((h.row.keep m2 (fun k hk q => by have := hS k q; omega)).keep hf.1 (fun k hk q => by have := (hl k q).2; omega)).mono mb.size
 · rw [hR,h1]
   exact ⟨h2,t3,hY _ _ y2 t23⟩
theorem doX_ok (a : Option Addr) (cap : Nat) (zs : List Int) (sem : List KV → Ran) (R : Option (List Int × List KV)) (b : Nat) (w : World) (hz : IsWords w a zs) (hlen : zs.length ≤ 1000) (hok : OkW zs) (hfine : FineSem zs b sem) (hb : b ≤ 100000) (hR : doP sem zs (zs.length + 1) [] = R) (f : Nat) (clo : Array Value) (S : Nat → Prop) (Y : World → Prop) (X : Nat → World → Prop) (hS : ∀ k,S k → k < w.heap.size)
   (hY : ∀ w' w'',Y w' → Turned (fun k => w.heap.size ≤ k) w' w'' → Y w'') (hX : ∀ b w' w'',w.heap.size ≤ b → X b w' → Turned (fun k => w.heap.size ≤ k ∧ k < b) w' w'' → X b w'') (hY0 : Y w)
   (henter : ∀ args w,Sem.run Tryz.prog (callFunc f args) w = .ok (.enter f args) w)
   (hprog : ∀ (K : List KV),OkKn zs K → ∀ (W : World) (F : Nat → Prop) (p : Nat),Turned S w W → Y W → ViewAt W F p (look K) [] → (∀ k,F k → w.heap.size ≤ k) → Calls Tryz.prog f (#[.pointer (some ⟨p,0,none⟩)] ++ clo) W (WentY W F S Y (X W.heap.size) p (look K) (sem K))) :
   Calls Tryz.prog 10 #[.slice a zs.length cap,.func (.func f) #[] clo] w (DidX w S Y X R) := by
 have hmm := @run_makeMap Tryz.prog
 have CL := hQQ (clone_words a cap zs w hz (by omega))
 have HOK := hQQ hok
 have HF := hQQ hfine
 have HR0 := hQQ hR
 have HE := hQQ henter
 have HP := hQQ hprog
 have HSS := hQQ hS
 have HY := hQQ hY
 have HX := hQQ hX
 have HY0 := hQQ hY0
 clear hz hok hfine hR henter hprog hS hY hX hY0
 go_enter Tryz.func10,Tryz.ntmps10
 go_wp2_with fail
 refine CL.out.mono ?_
 rintro e w1 ⟨a',cap',rfl,hr1,hn1,hm1⟩
 have DO0 : Hid (OnY w (w1.alloc (.map #[] 0)) (w1.alloc (.map #[] 0)) S Y w1.heap.size zs sem R [] (.slice none 0 0)) := hQQ
   ⟨okKn_nil zs,HR0.out,PRw.nil _ _,KnownAt.made w1,Turned.refl _ _,HY.out _ _ HY0.out (Turned.mono (hm1.alloc _) (fun _ _ q => q.elim))⟩
 have MB : Hid (More w (w1.alloc (.map #[] 0))) := hQQ (hm1.alloc _)
 have RB := hQQ (hr1.keep ((More.refl w1).alloc (.map #[] 0)) (fun _ _ q => q))
 have HL : Hid (∀ k,owned a' k → w.heap.size ≤ k ∧ k < (w1.alloc (.map #[] 0)).heap.size ∧ k ≠ w1.heap.size) := hQQ fun k q => ⟨hn1 k q,by have := hr1.lt k q; simp; omega,by have := hr1.lt k q; omega⟩
 have hwM : w.heap.size ≤ w1.heap.size := hm1.size
 have hMb : w1.heap.size < (w1.alloc (.map #[] 0)).heap.size := by simp
 clear hr1 hn1 hm1 CL
 go_wp2_with fail
 generalize w1.alloc (.map #[] 0) = wb at DO0 MB RB HL hMb ⊢
 generalize w1.heap.size = M at DO0 HL hwM hMb ⊢
 go_loopw [8] (fun u8 wr => ∃ K,OnY w wb wr S Y M zs sem R K u8 ∧ lenOf u8 = K.length) (fun u8 _ => zs.length + 1 - lenOf u8)
 case atStart => exact ⟨[],DO0.out,rfl⟩
 case round =>
   obtain ⟨K,hdo,hln⟩ := hrel
   obtain ⟨an,cn,rfl,hpn,_⟩ := hdo.row.reads
   have DO := hQQ hdo
   have hKl := hdo.okn.len
   have hsz : w.heap.size ≤ wr.heap.size := Nat.le_trans MB.out.size hdo.turn.size
   have hmr : Turned S w wr := turned_own (Turned.mono MB.out (fun _ _ q => q.elim)) hdo.turn (fun k q => by rcases q with q | q; exact .inr (by omega); exact .inl q)
   have LS := hQQ (fun k (q : S k) => HSS.out k q)
   have RUN := hQQ (runX_ok (look K) (sem K) M K.length wr hdo.known f clo S Y X HE.out (fun k q => Nat.lt_of_lt_of_le (HSS.out k q) hsz) (fun w' w'' h t => HY.out w' w'' h (t.mono (fun k _ q => Nat.le_trans hsz q))) (fun b w' w'' hb h t => HX.out b w' w'' (by omega) h (t.mono (fun k _ q => by omega))) hdo.y
     (fun W F p m y v n => HP.out K hdo.okn W F p (turned_own (F' := fun _ => False) hmr m (fun _ q => q.elim)) y v (fun k hk => Nat.le_trans hsz (n k hk))))
   have HFK := hQQ (HF.out K hdo.okn)
   have RW : Hid (RowAt wr 3 (zs.map (Value.int .i64)) a' cap') := hQQ (RB.out.keep hdo.turn (fun k q e => by rcases e with e | e; exact (HL.out k q).2.2 e; have := HSS.out k e; have := (HL.out k q).1; omega))
   clear hdo hpn hmr hsz DO0 hln
   go_wp2_with fail
   refine RUN.out.mono ?_
   intro e w2 he
   cases hs : sem K with
   | need x =>
     rw [hs] at he
     obtain ⟨rfl,hm2,hy2⟩ := he
     have HS := hQQ hs
     have hx0 : 0 ≤ x := by have := HFK.out; rw [hs] at this; exact this.1
     clear hs RUN
     obtain ⟨j,rfl⟩ : ∃ j : Nat,x = j := ⟨x.toNat,by omega⟩
     have HM2 : Hid (Turned S wr w2) := hQQ hm2
     have Y2 := hQQ hy2
     have nSM : ¬ S M := fun q => by have := HSS.out M q; omega
     have nSa : ∀ k,owned a' k → ¬ S k := fun k q r => by have := HSS.out k r; have := (HL.out k q).1; omega
     have bW : w.heap.size ≤ wb.heap.size := MB.out.size
     clear hm2 hy2
     have HFJ := HFK.out
     rw [HS.out] at HFJ
     by_cases hj : j < zs.length
     · obtain ⟨q1,q2,q3,q4⟩ := doP_need DO.out.okn HFK.out HS.out (by omega) DO.out.res
       have d1 : decide ((zs.length : Int) ≤ (j : Int)) = false := by simp; omega
       have d3 : decide (zs.length ≤ j) = false := by simp; omega
       have d2 : decide ((j : Int) < 0) = false := by simp
       have hrow := RW.out.keep HM2.out nSa
       obtain ⟨g,rfl,hg,hcell,_⟩ := hrow.reads (by simp; omega)
       have hgM : g ≠ M := (HL.out g rfl).2.2
       have cw : w2.cell? ⟨g,j,none⟩ = some (.int .i64 (wAt zs j)) := by
         refine hcell j _ ?_
         unfold wAt
         rw [List.getElem?_map,List.getElem?_eq_getElem hj]
         simp [List.getD,hj]
       obtain ⟨w3,hst,hk3,ht3⟩ := (DO.out.known.keep HM2.out nSM).store HFJ.2.1 (wAt_ok HOK.out j) (by unfold maxLen; omega)
       rw [look_snoc q4] at hk3
       have T23 := hQQ ht3
       have K3 := hQQ hk3
       have cw3 := cell_turned ht3 hgM cw
       have hg3 : g < w3.heap.size := Nat.lt_of_lt_of_le hg ht3.size
       have TB3 : Hid (Turned (fun k => k = M ∨ S k) wb w3) := hQQ ((turned_own DO.out.turn HM2.out (fun _ q => .inl (.inr q))).trans (ht3.mono (fun _ _ q => .inl q)))
       have YW3 : Hid (Y w3) := hQQ (HY.out _ _ Y2.out (ht3.mono (fun k _ q => by subst q; exact hwM)))
       have R3 : Hid (PRw wb.heap.size w3 (.slice an K.length cn) K) := hQQ ((DO.out.row.keep HM2.out (fun k hk q => by have := HSS.out k q; omega)).keep ht3 (fun k hk e => by omega))
       have NX : Hid (∀ w4 v,PRw wb.heap.size w4 v (K ++ [((j : Int),wAt zs j)]) → Turned (fun k => k = M ∨ S k) wb w4 → (∀ k ob,w3.heap[k]? = some ob → (Value.slice an K.length cn).ownBlock ≠ some k → w4.heap[k]? = some ob) → Y w4 → OnY w wb w4 S Y M zs sem R (K ++ [((j : Int),wAt zs j)]) v) := hQQ fun w4 v h1 h2 h3 h5 =>
         ⟨q1,q2,h1,by rw [List.length_append]; exact K3.out.of_block (fun ob ho => h3 M ob ho (fun e => by have := (DO.out.row.lt M e).1; omega)),h2,h5⟩
       clear hrow hcell hk3 ht3 q1 q2 q3 q4 HFJ
       generalize wAt zs j = z at cw hst cw3 NX
       go_wp2_with (at_builtin; refine wpList_pairT (S:=fun k => k = M ∨ S k) (wa:=wb) (ps:=K) (j : Int) z rfl _ _ rfl rfl R3.out TB3.out (by omega) rfl ?_; intro g4 c4 w4 h4 t4 k4 u4; have N4 := hQQ (NX.out _ _ h4 t4 k4 (HY.out _ _ YW3.out (u4.mono (fun k _ q => Nat.le_trans bW (DO.out.row.lt k q).1)))); clear h4 t4 k4 u4)
       go_roundw
       case rel => exact ⟨_,N4.out,by simp [lenOf]⟩
       case measure => simp [lenOf]; omega
     · have hn := doP_far DO.out.okn HS.out (by omega) DO.out.res
       subst hn
       have d1 : decide ((zs.length : Int) ≤ (j : Int)) = true := by simp; omega
       have d3 : decide (zs.length ≤ j) = true := by simp; omega
       have d2 : decide ((j : Int) < 0) = false := by simp
       have FIN : Hid (DidX w S Y X none (.returned (.tuple #[.slice none 0 0,.slice none 0 0,.int .i64 3])) w2) := hQQ ⟨rfl,turned_own (turned_own (Turned.mono MB.out (fun _ _ q => q.elim)) DO.out.turn (fun k q => by rcases q with q | q; exact .inr (by omega); exact .inl q)) HM2.out (fun k q => .inl q),Y2.out⟩
       clear HFJ hj
       go_wp2_with fail
       go_ret3
       exact FIN.out
   | done D =>
     rw [hs] at he
     obtain ⟨v,p,bX,rfl,hr,hm2,hy2,⟨hbX,hx2⟩,_⟩ := he
     have nSa : ∀ k,owned a' k → ¬ S k := fun k q r => by have := HSS.out k r; have := (HL.out k q).1; omega
     obtain ⟨ad,cd,rfl,hpd,hbd⟩ := hr.reads
     have hfk := HFK.out
     rw [hs] at hfk
     have FINI := hQQ (finish_ok zs D a' ad an cap' cd K.length cn w2 (RW.out.keep hm2 nSa) hpd (by have := hfk.2.2; omega) (by omega) hfk.1 (fun k q r => by have := hbd k q; have := (HL.out k r).2.1; have := DO.out.turn.size; omega))
     have FIN : Hid (∀ e w3,Finished w2 zs D a' cap' (.slice an K.length cn) e w3 → DidX w S Y X R e w3) := hQQ fun e w3 h => doX_fin DO.out hs MB.out hwM (fun k q => ⟨(HL.out k q).1,(HL.out k q).2.1⟩) HSS.out hm2 h HY.out HX.out hy2 (Nat.le_trans DO.out.turn.size hbX) hx2
     clear hs RUN hr hm2 hpd hbd hfk hy2 hx2
     go_wp2_with fail
     refine FINI.out.mono ?_
     intro e w3 he
     have hfin := FIN.out e w3 he
     rcases he.2 with ⟨_,rfl,_⟩ | ⟨_,rfl⟩
     · have F2 := hQQ hfin
       clear hfin he
       go_wp2_with fail
       go_ret3
       exact F2.out
     · have F2 := hQQ hfin
       clear hfin he
       go_wp2_with fail
       go_ret3
       exact F2.out
theorem begin_at (y0 y1 y2 y3 y4 y5 y6 y7 y8 y9 y10 : Int) (f0 : (Lit.int .i64 y0).wf = true) (f1 : (Lit.int .i64 y1).wf = true) (f2 : (Lit.int .i64 y2).wf = true) (f3 : (Lit.int .i64 y3).wf = true) (f4 : (Lit.int .i64 y4).wf = true) (f5 : (Lit.int .i64 y5).wf = true) (f6 : (Lit.int .i64 y6).wf = true) (f7 : (Lit.int .i64 y7).wf = true) (f8 : (Lit.int .i64 y8).wf = true) (f9 : (Lit.int .i64 y9).wf = true) (f10 : (Lit.int .i64 y10).wf = true) : ∃ d : Cfg,d.Small ∧ Hid (∀ W,Calls Tryz.prog 7 #[.agg #[.int .i64 y0,.int .i64 y1,.int .i64 y2,.int .i64 y3,.int .i64 y4,.int .i64 y5,.int .i64 y6,.int .i64 y7,.int .i64 y8,.int .i64 y9,.int .i64 y10]] W (Begun8 W d)) := by
 obtain ⟨wk,cp,pg,st,tr,wt,ck,pr,ca,bi,ba,R0,S0⟩ := some_gives y0 y1 y2 y3 y4 y5 y6 y7 y8 y9 y10 f0 f1 f2 f3 f4 f5 f6 f7 f8 f9 f10
 have R : Cfg.Ok ⟨wk,cp,pg,st,tr,wt,ck,pr,ca,bi,ba⟩ := R0
 exact ⟨_,small_small R,fun W => begin_any R y0 y1 y2 y3 y4 y5 y6 y7 y8 y9 y10 W S0.out⟩
def BoxV (g : Nat) (w : World) (v : Value) : Prop := w.heap[g]? = some (.cells #[v] 31 (0,0))
structure L10Y (c : Cfg) (g1 g2 g3 : Nat) (w : World) : Prop where
 h1 : w.heap[g1]? = some (.cells c.arr 28 (0,0))
 h2 : ∃ v,BoxV g2 w v
 h3 : ∃ v,BoxV g3 w v
def BoxN (g : Nat) (w : World) (x : Int) : Prop := w.heap[g]? = some (.cells #[.int .i64 x] 3 (0,0))
structure L9Y (c : Cfg) (g1 g2 g3 g4 : Nat) (w : World) : Prop where
 h1 : w.heap[g1]? = some (.cells c.arr 28 (0,0))
 h2 : ∃ x,BoxN g2 w x
 h3 : ∃ x,BoxB g3 w x
 h4 : ∃ x,BoxN g4 w x
end Go.Proofs.YtflihdcliknggaaGreatDoor
