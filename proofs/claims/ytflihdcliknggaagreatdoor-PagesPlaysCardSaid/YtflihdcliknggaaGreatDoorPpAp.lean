/-
  What the document's own functions of lists do with words: a list laid anew.
-/
import Derived.Test.YtflihdcliknggaaGreatDoorPpAo
import Derived.Test.YtflihdcliknggaaGreatDoorPpAn
import Derived.Test.YtflihdcliknggaaGreatDoorPpAj
import Derived.Test.YtflihdcliknggaaGreatDoorPpAm
import Derived.Test.YtflihdcliknggaaGreatDoorPpAe
import Derived.Deep.AppendSrc
import Derived.Test.YtflihdcliknggaaGreatDoorPpAi
import Derived.Test.YtflihdcliknggaaGreatDoorPpAh
set_option maxRecDepth 100000
set_option maxHeartbeats 8000000
set_option linter.unusedVariables false
set_option linter.unusedSimpArgs false
set_option linter.unusedSectionVars false
namespace Go.Proofs.YtflihdcliknggaaGreatDoor
open Go.RowKit Go.Sort Go.Maps Go.Shelf
theorem LOff.symm {pg st : Int} {a b : List Int} (h : LOff pg st a b) : LOff pg st b a := ⟨h.len.symm,fun i h0 h1 h2 => (h.off i h0 h1 h2).symm⟩
def layA (pg st h : Int) (ps : List Int) (i : Nat) (ws : List Int) : List Int := (ws.set (nA pg st (ps.getD i 0)).toNat 0).set (vA pg st (ps.getD i 0)).toNat 0
def layB (pg st h : Int) (ps : List Int) (i : Nat) (ws : List Int) : List Int := if i = 0 then ws.set h.toNat (ps.getD i 0 + 1) else ws.set (vA pg st (ps.getD i 0)).toNat (ps.getD (i - 1) 0 + 1)
def layC (pg st h : Int) (ps : List Int) (i : Nat) (ws : List Int) : List Int := if i + 1 < ps.length then ws.set (nA pg st (ps.getD i 0)).toNat (ps.getD (i + 1) 0 + 1) else ws
def layN (pg st h : Int) (ps : List Int) : Nat → List Int → List Int
 | 0,ws => ws.set h.toNat 0
 | i + 1,ws => layC pg st h ps i (layB pg st h ps i (layA pg st h ps i (layN pg st h ps i ws)))
def layV (pg st h : Int) (ps : List Int) (ws : List Int) : List Int := layN pg st h ps ps.length ws
theorem layA_len (pg st h : Int) (ps : List Int) (i : Nat) (ws : List Int) : (layA pg st h ps i ws).length = ws.length := by unfold layA; simp
theorem layB_len (pg st h : Int) (ps : List Int) (i : Nat) (ws : List Int) : (layB pg st h ps i ws).length = ws.length := by unfold layB; split <;> simp
theorem layC_len (pg st h : Int) (ps : List Int) (i : Nat) (ws : List Int) : (layC pg st h ps i ws).length = ws.length := by unfold layC; split <;> simp
theorem layN_len (pg st h : Int) (ps : List Int) (i : Nat) (ws : List Int) : (layN pg st h ps i ws).length = ws.length := by
 induction i with
 | zero => unfold layN; simp
 | succ i ih => unfold layN; rw [layC_len,layB_len,layA_len,ih]
structure LayI (pg st h : Int) (ps : List Int) (ws : List Int) (i : Nat) (ws' : List Int) : Prop where
 hd : wAt ws' h = if i = 0 then 0 else hd1 ps
 nx : ∀ k,k < i → wAt ws' (nA pg st (ps.getD k 0)) = if k + 1 < ps.length then ps.getD (k + 1) 0 + 1 else 0
 pv : ∀ k,k < i → wAt ws' (vA pg st (ps.getD k 0)) = if k = 0 then 0 else ps.getD (k - 1) 0 + 1
 off : ∀ x : Int,0 ≤ x → x ≠ h → (∀ k,k < i → x ≠ nA pg st (ps.getD k 0) ∧ x ≠ vA pg st (ps.getD k 0)) → wAt ws' x = wAt ws x
theorem getD_mem {l : List Int} {k : Nat} (h : k < l.length) : l.getD k 0 ∈ l := by rw [List.getD_eq_getElem?_getD,List.getElem?_eq_getElem h]; exact List.getElem_mem h
theorem getD_inj {l : List Int} (hd : l.Nodup) {i j : Nat} (hi : i < l.length) (hj : j < l.length) (e : l.getD i 0 = l.getD j 0) : i = j := by
 rw [List.getD_eq_getElem?_getD,List.getD_eq_getElem?_getD,List.getElem?_eq_getElem hi,List.getElem?_eq_getElem hj] at e
 have hp := List.pairwise_iff_getElem.1 hd
 rcases Nat.lt_trichotomy i j with h | h | h
 · exact absurd e (hp i j hi hj h)
 · exact h
 · exact absurd e.symm (hp j i hj hi h)
section
variable {pg st : Int} {n : Nat} (H : HdIn pg st n)
include H
theorem nA_inj {p q : Int} (e : nA pg st p = nA pg st q) : p = q := by unfold nA at e; omega
theorem vA_inj {p q : Int} (e : vA pg st p = vA pg st q) : p = q := by unfold vA at e; omega
theorem layN_is {h : Int} (hh : isHd pg st h) {ps : List Int} (hp : ∀ p ∈ ps,isPage pg p = true) (hd : ps.Nodup) {ws : List Int} (hn : ws.length = n) (i : Nat) : i ≤ ps.length → LayI pg st h ps ws i (layN pg st h ps i ws) := by
 obtain ⟨h0,h1,_⟩ := hd_b H hh
 induction i with
 | zero =>
   intro _
   refine ⟨?_,fun k hk => by omega,fun k hk => by omega,fun x x0 xh _ => ?_⟩
   · show wAt (ws.set h.toNat 0) h = 0
     rw [wAt_set (by omega) (by omega) (by omega),if_pos rfl]
   · show wAt (ws.set h.toNat 0) x = _
     rw [wAt_set (by omega) x0 (by omega),if_neg xh]
 | succ i ih =>
   intro hi
   have I := ih (by omega)
   have hil : i < ps.length := by omega
   have hP := hp _ (getD_mem hil)
   obtain ⟨⟨n0,n1,_⟩,⟨v0,v1,_⟩⟩ := nv_b H hP
   obtain ⟨hn1,hv1⟩ := hd_nv H hh hP
   have hnv := nv_ne H hP hP
   have hL : (layN pg st h ps i ws).length = n := by rw [layN_len,hn]
   -- what the three steps do with a word
   have hA : ∀ x : Int,0 ≤ x → wAt (layA pg st h ps i (layN pg st h ps i ws)) x = if x = vA pg st (ps.getD i 0) then 0 else if x = nA pg st (ps.getD i 0) then 0 else wAt (layN pg st h ps i ws) x := fun x x0 => by
     unfold layA
     rw [wAt_set (by omega) x0 (by rw [List.length_set]; omega),wAt_set (by omega) x0 (by omega)]
   have hB : ∀ x : Int,0 ≤ x → wAt (layB pg st h ps i (layA pg st h ps i (layN pg st h ps i ws))) x = if i = 0 then (if x = h then ps.getD i 0 + 1 else wAt (layA pg st h ps i (layN pg st h ps i ws)) x) else (if x = vA pg st (ps.getD i 0) then ps.getD (i - 1) 0 + 1 else wAt (layA pg st h ps i (layN pg st h ps i ws)) x) := fun x x0 => by
     unfold layB
     split
     · rw [wAt_set (by omega) x0 (by rw [layA_len]; omega)]
     · rw [wAt_set (by omega) x0 (by rw [layA_len]; omega)]
   have hC : ∀ x : Int,0 ≤ x → wAt (layN pg st h ps (i + 1) ws) x = if i + 1 < ps.length then (if x = nA pg st (ps.getD i 0) then ps.getD (i + 1) 0 + 1 else wAt (layB pg st h ps i (layA pg st h ps i (layN pg st h ps i ws))) x) else wAt (layB pg st h ps i (layA pg st h ps i (layN pg st h ps i ws))) x := fun x x0 => by
     show wAt (layC pg st h ps i _) x = _
     unfold layC
     split
     · rw [wAt_set (by omega) x0 (by rw [layB_len,layA_len]; omega)]
     · rfl
   have key : ∀ x : Int,0 ≤ x → wAt (layN pg st h ps (i + 1) ws) x = if x = nA pg st (ps.getD i 0) then (if i + 1 < ps.length then ps.getD (i + 1) 0 + 1 else 0) else if x = vA pg st (ps.getD i 0) then (if i = 0 then 0 else ps.getD (i - 1) 0 + 1) else if x = h then (if i = 0 then ps.getD 0 0 + 1 else wAt (layN pg st h ps i ws) h) else wAt (layN pg st h ps i ws) x := fun x x0 => by
     rw [hC x x0,hB x x0,hA x x0]
     by_cases e1 : x = nA pg st (ps.getD i 0)
     · have e2 : x ≠ vA pg st (ps.getD i 0) := by rw [e1]; exact hnv
       have e3 : x ≠ h := by rw [e1]; exact fun q => hn1 q.symm
       simp only [if_pos e1,if_neg e2,if_neg e3,ite_self]
     · by_cases e2 : x = vA pg st (ps.getD i 0)
       · have e3 : x ≠ h := by rw [e2]; exact fun q => hv1 q.symm
         simp only [if_neg e1,if_pos e2,if_neg e3,ite_self]
       · by_cases e3 : x = h
         · by_cases z : i = 0
           · subst z; simp only [if_neg e1,if_neg e2,if_pos e3,ite_self,if_true]
           · rw [e3] at e1 e2 ⊢
             simp only [if_neg e1,if_neg e2,if_true,ite_self,if_neg z]
         · simp only [if_neg e1,if_neg e2,if_neg e3,ite_self]
   refine ⟨?_,fun k hk => ?_,fun k hk => ?_,fun x x0 xh hx => ?_⟩
   · rw [key h (by omega),if_neg hn1,if_neg hv1,if_pos rfl,if_neg (show ¬ (i + 1 = 0) by omega)]
     by_cases z : i = 0
     · rw [if_pos z]
       match ps,hil with
       | y :: l,_ => rfl
     · rw [if_neg z,I.hd,if_neg z]
   · obtain ⟨⟨m0,_,_⟩,_⟩ := nv_b H (hp _ (getD_mem (show k < ps.length by omega)))
     rw [key _ (by omega)]
     by_cases e : k = i
     · rw [e,if_pos rfl]
     · have ne : ps.getD k 0 ≠ ps.getD i 0 := fun q => e (getD_inj hd (by omega) hil q)
       obtain ⟨g1,g2⟩ := hd_nv H hh (hp _ (getD_mem (show k < ps.length by omega)))
       rw [if_neg (fun q => ne (nA_inj H q)),if_neg (nv_ne H (hp _ (getD_mem (show k < ps.length by omega))) hP),if_neg (fun q => g1 q.symm)]
       exact I.nx k (by omega)
   · obtain ⟨_,⟨m0,_,_⟩⟩ := nv_b H (hp _ (getD_mem (show k < ps.length by omega)))
     rw [key _ (by omega)]
     obtain ⟨g1,g2⟩ := hd_nv H hh (hp _ (getD_mem (show k < ps.length by omega)))
     rw [if_neg (fun q => nv_ne H hP (hp _ (getD_mem (show k < ps.length by omega))) q.symm)]
     by_cases e : k = i
     · rw [e,if_pos rfl]
     · have ne : ps.getD k 0 ≠ ps.getD i 0 := fun q => e (getD_inj hd (by omega) hil q)
       rw [if_neg (fun q => ne (vA_inj H q)),if_neg (fun q => g2 q.symm)]
       exact I.pv k (by omega)
   · have := hx i (by omega)
     rw [key x x0,if_neg this.1,if_neg this.2,if_neg xh]
     exact I.off x x0 xh (fun k hk => hx k (by omega))
theorem nxL_getD {l : List Int} (hd : l.Nodup) {k : Nat} (hk : k < l.length) : nxL l (l.getD k 0) = if k + 1 < l.length then l.getD (k + 1) 0 + 1 else 0 := by
 have hs : l = l.take k ++ l.getD k 0 :: l.drop (k + 1) := by
   rw [List.getD_eq_getElem?_getD,List.getElem?_eq_getElem hk]; simp
 have hnd : l.getD k 0 ∉ l.take k := by
   have hh := hd
   rw [hs] at hh
   intro q
   exact (List.nodup_append.1 hh).2.2 _ q _ (by simp) rfl
 have h1 := nxL_at (l.take k) (l.drop (k + 1)) _ hnd
 rw [← hs] at h1
 rw [h1]
 by_cases h0 : k + 1 < l.length
 · rw [if_pos h0,List.drop_eq_getElem_cons h0,List.getD_eq_getElem?_getD,List.getElem?_eq_getElem h0]; rfl
 · rw [if_neg h0,List.drop_eq_nil_of_le (by omega)]; rfl
theorem pvL_getD {l : List Int} (hd : l.Nodup) {k : Nat} (hk : k < l.length) : pvL 0 l (l.getD k 0) = if k = 0 then 0 else l.getD (k - 1) 0 + 1 := by
 have hs : l = l.take k ++ l.getD k 0 :: l.drop (k + 1) := by
   rw [List.getD_eq_getElem?_getD,List.getElem?_eq_getElem hk]; simp
 have hnd : l.getD k 0 ∉ l.take k := by
   have hh := hd
   rw [hs] at hh
   intro q
   exact (List.nodup_append.1 hh).2.2 _ q _ (by simp) rfl
 have h1 := pvL0_at (l.take k) (l.drop (k + 1)) _ hnd
 rw [← hs] at h1
 rw [h1]
 by_cases h0 : k = 0
 · subst h0; rfl
 · rw [if_neg h0]
   unfold lastO
   have hl : (l.take k).length = k := by simp; omega
   rw [hl,List.getD_eq_getElem?_getD,List.getD_eq_getElem?_getD,List.getElem?_take_of_lt (by omega),List.getElem?_eq_getElem (show k - 1 < l.length by omega)]
   rfl
theorem mem_getD {l : List Int} {p : Int} (h : p ∈ l) : ∃ k,k < l.length ∧ l.getD k 0 = p := by
 obtain ⟨k,hk,e⟩ := List.getElem_of_mem h
 exact ⟨k,hk,by rw [List.getD_eq_getElem?_getD,List.getElem?_eq_getElem hk]; exact e⟩
theorem lay_ln {a : Int} {G : Int → List Int} {ws0 ws : List Int} (L : Ln pg st G ws0) (ha : isHd pg st a) {ps : List Int} (hp : ∀ p ∈ ps,isPage pg p = true) (hd : ps.Nodup) (hn : ws.length = n)
   (hap : ∀ b,isHd pg st b → b ≠ a → ∀ p ∈ G b,p ∉ ps) (hs : ∀ b,isHd pg st b → b ≠ a → wAt ws b = wAt ws0 b ∧ ∀ p ∈ G b,wAt ws (nA pg st p) = wAt ws0 (nA pg st p) ∧ wAt ws (vA pg st p) = wAt ws0 (vA pg st p))
   (hf : ∀ p,isPage pg p = true → p ∉ ps → (∀ b,isHd pg st b → b ≠ a → p ∉ G b) → wAt ws (nA pg st p) = 0 ∧ wAt ws (vA pg st p) = 0) :
   Ln pg st (updG G a ps) (layV pg st a ps ws) ∧ LOff pg st ws (layV pg st a ps ws) := by
 have I := layN_is H ha hp hd hn ps.length (Nat.le_refl _)
 have offp : ∀ q,isPage pg q = true → q ∉ ps → wAt (layV pg st a ps ws) (nA pg st q) = wAt ws (nA pg st q) ∧ wAt (layV pg st a ps ws) (vA pg st q) = wAt ws (vA pg st q) := fun q hq hnq => by
   obtain ⟨⟨m0,_,_⟩,⟨m1,_,_⟩⟩ := nv_b H hq
   obtain ⟨g1,g2⟩ := hd_nv H ha hq
   refine ⟨I.off _ (by omega) (fun e => g1 e.symm) (fun k hk => ⟨fun e => ?_,?_⟩),I.off _ (by omega) (fun e => g2 e.symm) (fun k hk => ⟨fun e => ?_,fun e => ?_⟩)⟩
   · exact hnq (by rw [nA_inj H e]; exact getD_mem hk)
   · exact nv_ne H hq (hp _ (getD_mem hk))
   · exact nv_ne H (hp _ (getD_mem hk)) hq e.symm
   · exact hnq (by rw [vA_inj H e]; exact getD_mem hk)
 refine ⟨⟨fun b hb => ?_,fun b hb p hm => ?_,fun b hb => ?_,fun b1 b2 p h1 h2 m1 m2 => ?_,fun b p hb hm => ?_,fun b p hb hm => ?_,fun p hpg hno => ?_⟩,⟨by unfold layV; rw [layN_len],fun i i0 i1 i2 => I.off i i0 (fun e => i1 (e ▸ ha)) (fun k hk => i2 _ (hp _ (getD_mem hk)))⟩⟩
 · by_cases e : b = a
   · subst e
     rw [updG_at]
     have := I.hd
     by_cases z : ps.length = 0
     · rw [if_pos z] at this
       rw [List.length_eq_zero_iff.1 z]
       have e0 : layV pg st b [] ws = layN pg st b ps ps.length ws := by rw [List.length_eq_zero_iff.1 z]; rfl
       rw [e0]; exact this
     · rw [if_neg z] at this; exact this
   · rw [updG_ne _ _ _ e,← L.head b hb,← (hs b hb e).1]
     obtain ⟨b0,_,_⟩ := hd_b H hb
     exact I.off b (by omega) e (fun k hk => hd_nv H hb (hp _ (getD_mem hk)))
 · by_cases e : b = a
   · subst e; rw [updG_at] at hm; exact hp p hm
   · rw [updG_ne _ _ _ e] at hm; exact L.page b hb p hm
 · by_cases e : b = a
   · subst e; rw [updG_at]; exact hd
   · rw [updG_ne _ _ _ e]; exact L.nodup b hb
 · by_cases e1 : b1 = a
   · by_cases e2 : b2 = a
     · rw [e1,e2]
     · subst e1
       rw [updG_at] at m1
       rw [updG_ne _ _ _ e2] at m2
       exact absurd m1 (hap b2 h2 e2 p m2)
   · by_cases e2 : b2 = a
     · subst e2
       rw [updG_at] at m2
       rw [updG_ne _ _ _ e1] at m1
       exact absurd m2 (hap b1 h1 e1 p m1)
     · rw [updG_ne _ _ _ e1] at m1
       rw [updG_ne _ _ _ e2] at m2
       exact L.apart b1 b2 p h1 h2 m1 m2
 · by_cases e : b = a
   · subst e
     rw [updG_at] at hm ⊢
     obtain ⟨k,hk,rfl⟩ := mem_getD H hm
     rw [nxL_getD H hd hk]
     exact I.nx k hk
   · rw [updG_ne _ _ _ e] at hm ⊢
     rw [(offp p (L.page b hb p hm) (hap b hb e p hm)).1,((hs b hb e).2 p hm).1]
     exact L.next b p hb hm
 · by_cases e : b = a
   · subst e
     rw [updG_at] at hm ⊢
     obtain ⟨k,hk,rfl⟩ := mem_getD H hm
     rw [pvL_getD H hd hk]
     exact I.pv k hk
   · rw [updG_ne _ _ _ e] at hm ⊢
     rw [(offp p (L.page b hb p hm) (hap b hb e p hm)).2,((hs b hb e).2 p hm).2]
     exact L.prev b p hb hm
 · have hnp : p ∉ ps := fun q => hno a ha (by rw [updG_at]; exact q)
   obtain ⟨o1,o2⟩ := offp p hpg hnp
   obtain ⟨f1,f2⟩ := hf p hpg hnp (fun b hb e q => hno b hb (by rw [updG_ne _ _ _ e]; exact q))
   exact ⟨o1.trans f1,o2.trans f2⟩
theorem link_same {c f p : Int} {G : Int → List Int} {ws : List Int} (L : Ln pg st G ws) (hn : ws.length = n) (hz : headV pg st c f ≠ 0) (hp : isPage pg p = true) (hf : ∀ a,isHd pg st a → p ∉ G a) : layV pg st (headV pg st c f) (p :: G (headV pg st c f)) ws = (plLinkV pg st p c f ws).2 := by
 have ha := (head_hd hz).1
 obtain ⟨L1,o1⟩ := link_ln H L hn hz hp hf
 obtain ⟨L2,o2⟩ := lay_ln H L ha (ps:=p :: G (headV pg st c f)) (fun q hq => by
   rcases List.mem_cons.1 hq with rfl | hq
   · exact hp
   · exact L.page _ ha q hq) (List.nodup_cons.2 ⟨hf _ ha,L.nodup _ ha⟩) hn
   (fun b hb e q hq hm => by
     rcases List.mem_cons.1 hm with rfl | hm
     · exact hf b hb hq
     · exact e (L.apart b _ q hb ha hq hm))
   (fun b hb e => ⟨rfl,fun q hq => ⟨rfl,rfl⟩⟩)
   (fun q hq hm hno => L.free q hq (fun b hb h => by
     by_cases e : b = headV pg st c f
     · subst e; exact hm (List.mem_cons_of_mem _ h)
     · exact hno b hb e h))
 exact L1.uniq L2 (o1.symm.trans o2)
theorem filt_split {s t : List Int} {p : Int} (hs : p ∉ s) (ht : p ∉ t) : (s ++ p :: t).filter (fun x => decide (x ≠ p)) = s ++ t := by
 have h1 : ∀ l : List Int,p ∉ l → l.filter (fun x => decide (x ≠ p)) = l := fun l hl => List.filter_eq_self.2 (fun a ha => by simp; rintro rfl; exact hl ha)
 rw [List.filter_append,List.filter_cons,h1 s hs,h1 t ht]
 simp
theorem unlink_same {c f p : Int} {G : Int → List Int} {ws : List Int} (L : Ln pg st G ws) (hn : ws.length = n) (hz : headV pg st c f ≠ 0) {s t : List Int} (hG : G (headV pg st c f) = s ++ p :: t) (hs : p ∉ s) : layV pg st (headV pg st c f) (s ++ t) ((ws.set (nA pg st p).toNat 0).set (vA pg st p).toNat 0) = (plUnlinkV pg st p c f ws).2 := by
 have ha := (head_hd hz).1
 have hmp : p ∈ G (headV pg st c f) := by rw [hG]; simp
 have hp := L.page _ ha p hmp
 obtain ⟨_,L1,o1⟩ := unlink_ln H L hn hz hG hs
 have hnd := L.nodup _ ha
 have hpg := L.page _ ha
 rw [hG] at hnd hpg
 obtain ⟨⟨n0,n1,_⟩,⟨v0,v1,_⟩⟩ := nv_b H hp
 have hw : ∀ x : Int,0 ≤ x → wAt ((ws.set (nA pg st p).toNat 0).set (vA pg st p).toNat 0) x = if x = vA pg st p then 0 else if x = nA pg st p then 0 else wAt ws x := fun x x0 => by
   rw [wAt_set (by omega) x0 (by rw [List.length_set]; omega),wAt_set (by omega) x0 (by omega)]
 have ht : p ∉ t := by
   have := (List.nodup_append.1 hnd).2.1
   exact (List.nodup_cons.1 this).1
 have hsub : ∀ q,q ∈ s ++ t → q ∈ G (headV pg st c f) := fun q hq => by
   rw [hG]
   rcases List.mem_append.1 hq with h | h
   · exact List.mem_append_left _ h
   · exact List.mem_append_right _ (List.mem_cons_of_mem _ h)
 obtain ⟨L2,o2⟩ := lay_ln H L ha (ps:=s ++ t) (ws:=(ws.set (nA pg st p).toNat 0).set (vA pg st p).toNat 0) (fun q hq => L.page _ ha q (hsub q hq))
   (by
     refine List.nodup_append.2 ⟨(List.nodup_append.1 hnd).1,(List.nodup_cons.1 (List.nodup_append.1 hnd).2.1).2,fun a h1 b h2 => (List.nodup_append.1 hnd).2.2 a h1 b (List.mem_cons_of_mem _ h2)⟩)
   (by simp [hn])
   (fun b hb e q hq hm => e (L.apart b _ q hb ha hq (hsub q hm)))
   (fun b hb e => by
     obtain ⟨b0,_,_⟩ := hd_b H hb
     obtain ⟨g1,g2⟩ := hd_nv H hb hp
     refine ⟨by rw [hw b (by omega),if_neg g2,if_neg g1],fun q hq => ?_⟩
     have hqg := L.page b hb q hq
     obtain ⟨⟨m0,_,_⟩,⟨m1,_,_⟩⟩ := nv_b H hqg
     have hne : q ≠ p := by rintro rfl; exact e (L.apart b _ q hb ha hq hmp)
     exact ⟨by rw [hw _ (by omega),if_neg (nv_ne H hqg hp),if_neg (fun z => hne (nA_inj H z))],by rw [hw _ (by omega),if_neg (fun z => hne (vA_inj H z)),if_neg (fun z => nv_ne H hp hqg z.symm)]⟩)
   (fun q hq hm hno => by
     obtain ⟨⟨m0,_,_⟩,⟨m1,_,_⟩⟩ := nv_b H hq
     by_cases e : q = p
     · subst e
       exact ⟨by rw [hw _ (by omega),if_neg (nv_ne H hq hq),if_pos rfl],by rw [hw _ (by omega),if_pos rfl]⟩
     · have hfree := L.free q hq (fun b hb h => by
         by_cases e2 : b = headV pg st c f
         · subst e2
           rw [hG] at h
           rcases List.mem_append.1 h with h | h
           · exact hm (List.mem_append_left _ h)
           · rcases List.mem_cons.1 h with h | h
             · exact e h
             · exact hm (List.mem_append_right _ h)
         · exact hno b hb e2 h)
       exact ⟨by rw [hw _ (by omega),if_neg (nv_ne H hq hp),if_neg (fun z => e (nA_inj H z))]; exact hfree.1,by rw [hw _ (by omega),if_neg (fun z => e (vA_inj H z)),if_neg (fun z => nv_ne H hp hq z.symm)]; exact hfree.2⟩)
 have o3 : LOff pg st ws ((ws.set (nA pg st p).toNat 0).set (vA pg st p).toNat 0) := ⟨by simp,fun i i0 i1 i2 => by rw [hw i i0,if_neg (i2 p hp).2,if_neg (i2 p hp).1]⟩
 exact L1.uniq L2 (o1.symm.trans (o3.trans o2))
end
end Go.Proofs.YtflihdcliknggaaGreatDoor
namespace Go.Proofs.YtflihdcliknggaaGreatDoor
theorem okW_apG {n : Nat} {zs : List Int} {D : List KV} (hz : OkW zs) (h : InvD n D) (hn : zs.length = n) : OkW (applyD zs D) := by
 subst hn
 intro x hx
 obtain ⟨i,hi,rfl⟩ := List.getElem_of_mem hx
 have hl : i < zs.length := by rw [applyD_len] at hi; exact hi
 have h1 := word_all (zs:=zs) h (a:=(i : Int)) (by omega) (by omega)
 have h2 : wAt (applyD zs D) (i : Int) = (applyD zs D)[i] := by simp [wAt,List.getD,hi]
 rw [← h2]
 exact word_ok (okK_all hz) h.ok h1
theorem okW_at' {ws : List Int} (h : OkW ws) (a : Int) : W64 (wAt ws a) := by
 unfold wAt
 by_cases e : a.toNat < ws.length
 · rw [List.getD,List.getElem?_eq_getElem e]; exact h _ (List.getElem_mem e)
 · rw [List.getD,List.getElem?_eq_none (by omega)]; unfold W64; constructor <;> decide
theorem flat_bindW {α β : Type} {n : Nat} {p : Prg α} {f : α → Prg β} {g : List Int → α × List Int} {k : α → List Int → β × List Int} {Q : α → Prop} (h : Flat n p g) (hq : ∀ ws,ws.length = n → OkW ws → Q (g ws).1) (hf : ∀ x,Q x → Flat n (f x) (k x)) : Flat n (bindP p f) (fun ws => k (g ws).1 (g ws).2) := fun zs D hn hz hD => by
 obtain ⟨D1,e1,a1,i1⟩ := h zs D hn hz hD
 obtain ⟨D2,e2,a2,i2⟩ := hf (g (applyD zs D)).1 (hq _ (by rw [applyD_len]; exact hn) (okW_apG hz hD hn)) zs D1 hn hz i1
 refine ⟨D2,?_,?_,i2⟩
 · rw [bindP_ok e1,e2,a1]
 · rw [a2,a1]
def giver2V (pg st k x : Int) (ws : List Int) : Int × List Int :=
 if x = -1 then (if (takeV pg st (findV pg st 1 1 ws) 1 (k + 1) ws).1 then findV pg st 1 1 ws else -1,(takeV pg st (findV pg st 1 1 ws) 1 (k + 1) ws).2) else (x,ws)
def giverV (pg st k : Int) (ws : List Int) : Int × List Int := if slotsC k = 0 then (-1,ws) else giver2V pg st k (plFirstV pg st k (slotsC k).toNat 1 ws) ws
def pgPutV (pg st q k b : Int) (ws : List Int) : List Int := if openV k b = slotsC k then (dropV pg st q ws).2 else (ws.set (bA pg st q).toNat b).set (cA pg st q).toNat (openV k b)
def movesV (pg st q k was : Int) (ws : List Int) : List Int := (plLinkV pg st q k (cntV pg st (plUnlinkV pg st q k was ws).2 q) (plUnlinkV pg st q k was ws).2).2
def putMoveV (pg st q k was b : Int) (ws : List Int) : List Int := movesV pg st q k was (pgPutV pg st q k b ws)
def grab2V (us pg st k q : Int) (ws : List Int) : (Int × Bool) × List Int :=
 if q = -1 then ((0,false),ws) else if slFirstV (bitV pg st ws q) (slotsC k) = -1 then ((0,false),ws)
 else ((us + 32 * q + slFirstV (bitV pg st ws q) (slotsC k) * szV k,true),putMoveV pg st q k (cntV pg st ws q) (setV (bitV pg st ws q) (slFirstV (bitV pg st ws q) (slotsC k))) ws)
def grabV (us pg st k : Int) (ws : List Int) : (Int × Bool) × List Int := grab2V us pg st k (giverV pg st k ws).1 (giverV pg st k ws).2
def tkRestV (pg st q wd x : Int) (ws : List Int) : TkA :=
 if slotsC (IntKind.i64.wrap (x - 1)) = 0 then none else if wd % szV (IntKind.i64.wrap (x - 1)) ≠ 0 then none
 else some (q,IntKind.i64.wrap (x - 1),wd / szV (IntKind.i64.wrap (x - 1)),hasB (bitV pg st ws q) (wd / szV (IntKind.i64.wrap (x - 1))))
def takenV (us pg st a : Int) (ws : List Int) : TkA := if us ≤ a ∧ a < us + 32 * pg then tkRestV pg st ((a - us) / 32) ((a - us) % 32) (kindV pg st ws ((a - us) / 32)) ws else none
def backToV (pg st : Int) (x : Option (Int × Int × Int)) (ws : List Int) : Bool × List Int :=
 match x with
 | some (q,k,i) => (true,putMoveV pg st q k (cntV pg st ws q) (clearV (bitV pg st ws q) i) ws)
 | none => (false,ws)
def backV (us pg st a : Int) (ws : List Int) : Bool × List Int := backToV pg st (tkYes (takenV us pg st a ws)) ws
def lookRV : Option (Int × Int × Int) → Int × Bool
 | some (_,k,_) => (k,true)
 | none => (0,false)
def lookV (us pg st a : Int) (ws : List Int) : Int × Bool := lookRV (tkYes (takenV us pg st a ws))
def roomV (pg st k : Int) (ws : List Int) : Bool := plFirstV pg st k (slotsC k).toNat 1 ws != -1
def freeNV (pg st k : Int) : Nat → Int → Int → List Int → Int
 | 0,_,s,_ => s
 | m + 1,q,s,ws => if kindV pg st ws q = k + 1 then freeNV pg st k m (q + 1) (s + openV k (bitV pg st ws q)) ws else freeNV pg st k m (q + 1) s ws
def freeV (pg st k : Int) (ws : List Int) : Int := if slotsC k = 0 then 0 else freeNV pg st k pg.toNat 0 0 ws
section
variable {pg st : Int} {n : Nat} (H : HdIn pg st n)
include H
theorem page_c {q : Int} (hq : isPage pg q = true) : (0 ≤ cA pg st q ∧ cA pg st q < n ∧ W64 (cA pg st q)) ∧ 0 ≤ bA pg st q ∧ bA pg st q < n ∧ W64 (bA pg st q) := by
 obtain ⟨_,⟨b0,b1,b2⟩,c0,c1,c2⟩ := page_b H.toPgIn hq
 exact ⟨⟨by omega,b1,b2⟩,by omega,c1,c2⟩
theorem plFirst_b (k : Int) (m : Nat) (ws : List Int) : ∀ f,plFirstV pg st k m f ws = -1 ∨ isPage pg (plFirstV pg st k m f ws) = true := by
 induction m with
 | zero => intro f; exact .inl rfl
 | succ m ih =>
   intro f
   show (if _ then _ else _) = -1 ∨ isPage pg (if _ then _ else _) = true
   split
   · exact ih _
   · exact lead_b H _ _
theorem flat_giver2 {k : Int} (hk : 0 ≤ k ∧ k ≤ 4) (x : Int) : Flat n (if x = -1 then bindP (efindP pg st 1 1) (fun y => bindP (etakeP pg st y 1 (k + 1)) fun b => pureP (if b then y else -1)) else pureP x) (giver2V pg st k x) := by
 unfold giver2V
 exact flat_ite (fun _ => flat_bind (flat_find H.toPgIn 1 1) fun y => flat_bind (flat_take H.toPgIn y 1 (k + 1) (by unfold W64; omega) w64_1) fun b => flat_pure n _) (fun _ => flat_pure n x)
theorem flat_giver (k : Int) : Flat n (giverP pg st k) (giverV pg st k) := by
 unfold giverP giverV
 exact flat_ite (fun _ => flat_pure n _) (fun h => flat_bind (flat_plFirstN H k _ 1) fun x => flat_giver2 H (slots_cls h) x)
theorem take_page {y m k : Int} {ws : List Int} (h : (takeV pg st y m k ws).1 = true) : isPage pg y = true := by
 unfold takeV at h
 split at h
 · rename_i e
   simp at e
   have := (vacB_iff.1 e.2).1
   have := there_iff.1 this
   exact isPage_iff.2 ⟨by omega,by omega⟩
 · cases h
theorem giver_b (k : Int) (ws : List Int) : (giverV pg st k ws).1 = -1 ∨ isPage pg (giverV pg st k ws).1 = true := by
 unfold giverV
 split
 · exact .inl rfl
 · unfold giver2V
   split
   · show (if _ then _ else _) = -1 ∨ isPage pg (if _ then _ else _) = true
     split
     · rename_i e; exact .inr (take_page H e)
     · exact .inl rfl
   · exact plFirst_b H k _ ws 1
theorem flat_pgPut {q k b : Int} (hq : isPage pg q = true) (hb : W64 b) : Flat n (pgPutP pg st q k b) (fun ws => ((),pgPutV pg st q k b ws)) := by
 obtain ⟨⟨b0,b1,b2⟩,c0,c1,c2⟩ := page_c H hq
 unfold pgPutP
 refine flat_eq (flat_ite (fun _ => flat_bind (flat_drop H.toPgIn q) fun _ => flat_pure n ()) (fun _ => flat_bind (flat_write c0 c1 c2 hb) fun _ => flat_bind (flat_write b0 b1 b2 (x:=openV k b) (by have := cnt_b b k; unfold W64; omega)) fun _ => flat_pure n _)) (fun ws _ => ?_)
 unfold pgPutV
 split <;> rfl
theorem flat_moves {q : Int} (hq : isPage pg q = true) (k was : Int) : Flat n (movesP pg st q k was) (fun ws => ((),movesV pg st q k was ws)) := by
 obtain ⟨⟨b0,b1,b2⟩,_⟩ := page_c H hq
 exact flat_bind (flat_plUnlink H q k was) fun _ => flat_bind (flat_read b0 b1) fun f => flat_bind (flat_plLink H q k f) fun _ => flat_pure n ()
theorem flat_grab2 (us k : Int) {q : Int} (hq : q = -1 ∨ isPage pg q = true) : Flat n (if q = -1 then pureP (0,false) else bindP (readP (bA pg st q)) fun b =>
   if slFirstV b (slotsC k) = -1 then pureP (0,false) else bindP (readP (cA pg st q)) fun was =>
     bindP (pgPutP pg st q k (setV b (slFirstV b (slotsC k)))) fun _ => bindP (movesP pg st q k was) fun _ => pureP (us + 32 * q + slFirstV b (slotsC k) * szV k,true)) (grab2V us pg st k q) := by
 unfold grab2V
 refine flat_ite (fun _ => flat_pure n _) (fun h => ?_)
 have hq := hq.resolve_left h
 obtain ⟨⟨b0,b1,b2⟩,c0,c1,c2⟩ := page_c H hq
 refine flat_eq (flat_bindW (Q:=W64) (flat_read c0 c1) (fun ws _ ho => okW_at' ho _) fun b hb => flat_ite (fun _ => flat_pure n ((0 : Int),false)) fun _ => flat_bind (flat_read b0 b1) fun was => flat_bind (flat_pgPut H hq (set_w64 hb _)) fun _ => flat_bind (flat_moves H hq k was) fun _ => flat_pure n (us + 32 * q + slFirstV b (slotsC k) * szV k,true)) (fun ws _ => ?_)
 rfl
theorem flat_grab (us k : Int) : Flat n (grabP us pg st k) (grabV us pg st k) :=
 flat_bindQ (Q:=fun q => q = -1 ∨ isPage pg q = true) (flat_giver H k) (fun ws _ => giver_b H k ws) fun q hq => flat_grab2 H us k hq
theorem flat_tkRest {q : Int} (hq : isPage pg q = true) (wd x : Int) : Flat n (tkRest pg st q wd x) (fun ws => (tkRestV pg st q wd x ws,ws)) := by
 obtain ⟨_,c0,c1,c2⟩ := page_c H hq
 unfold tkRest
 refine flat_eq (flat_ite (fun _ => flat_pure n _) (fun _ => flat_ite (fun _ => flat_pure n _) (fun _ => flat_bind (flat_read c0 c1) fun b => flat_pure n _))) (fun ws _ => ?_)
 unfold tkRestV
 split
 · rfl
 · split <;> rfl
theorem flat_taken1 {q : Int} (hq : isPage pg q = true) (wd : Int) : Flat n (bindP (ekindP pg st q) fun x => tkRest pg st q wd x) (fun ws => (tkRestV pg st q wd (kindV pg st ws q) ws,ws)) :=
 flat_eq (flat_bind (flat_kind H.toPgIn q) fun x => flat_tkRest H hq wd x) (fun ws _ => rfl)
theorem flat_taken (us a : Int) : Flat n (takenP us pg st a) (fun ws => (takenV us pg st a ws,ws)) := by
 unfold takenP
 generalize hq : (a - us) / 32 = q
 generalize hw : (a - us) % 32 = wd
 refine flat_eq (flat_ite (fun h => flat_taken1 H (by rw [← hq]; exact (place_b h).1) wd) (fun _ => flat_pure n (none : TkA))) (fun ws _ => ?_)
 unfold takenV
 rw [hq,hw]
 split <;> rfl
theorem taken_b {us a : Int} {ws : List Int} {q k i : Int} {t : Bool} (h : takenV us pg st a ws = some (q,k,i,t)) : isPage pg q = true ∧ 0 ≤ k ∧ k ≤ 4 := by
 unfold takenV at h
 split at h
 · rename_i hin
   unfold tkRestV at h
   split at h
   · cases h
   · rename_i hz
     split at h
     · cases h
     · cases h
       have := slots_cls hz
       exact ⟨(place_b hin).1,this.1,this.2⟩
 · cases h
theorem flat_backRest {q : Int} (hq : isPage pg q = true) (k i : Int) : Flat n (backRest pg st q k i) (fun ws => (true,putMoveV pg st q k (cntV pg st ws q) (clearV (bitV pg st ws q) i) ws)) := by
 obtain ⟨⟨b0,b1,b2⟩,c0,c1,c2⟩ := page_c H hq
 refine flat_eq (flat_bind (flat_read b0 b1) fun was => flat_bindW (Q:=W64) (flat_read c0 c1) (fun ws _ ho => okW_at' ho _) fun b hb => flat_bind (flat_pgPut H hq (clear_w64 hb i)) fun _ => flat_bind (flat_moves H hq k was) fun _ => flat_pure n true) (fun ws _ => ?_)
 rfl
theorem flat_backTo (x : Option (Int × Int × Int)) (hx : ∀ q k i,x = some (q,k,i) → isPage pg q = true) : Flat n (backTo pg st x) (backToV pg st x) := by
 cases x with
 | none => exact flat_pure n _
 | some y =>
   obtain ⟨q,k,i⟩ := y
   exact flat_backRest H (hx q k i rfl) k i
theorem flat_back (us a : Int) : Flat n (backP us pg st a) (backV us pg st a) :=
 flat_bindQ (k:=fun x ws => backToV pg st (tkYes x) ws) (Q:=fun x : TkA => ∀ q k i t,x = some (q,k,i,t) → isPage pg q = true) (flat_taken H us a) (fun ws _ q k i t e => (taken_b H e).1) fun x hx => flat_backTo H _ fun q k i e => hx q k i true (tkYes_some e)
theorem flat_lookR (x : Option (Int × Int × Int)) : Flat n (lookRest x) (fun ws => (lookRV x,ws)) := by
 cases x with
 | none => exact flat_pure n _
 | some y => exact flat_pure n _
theorem flat_look (us a : Int) : Flat n (lookP us pg st a) (fun ws => (lookV us pg st a ws,ws)) :=
 flat_bind (k:=fun x ws => (lookRV (tkYes x),ws)) (flat_taken H us a) fun x => flat_lookR H _
theorem flat_room (k : Int) : Flat n (roomP pg st k) (fun ws => (roomV pg st k ws,ws)) := flat_bind (flat_plFirstN H k _ 1) fun x => flat_pure n _
theorem flat_freeN (k : Int) (m : Nat) : ∀ (q s : Int),0 ≤ q → q + m ≤ pg → Flat n (freeN pg st k m q s) (fun ws => (freeNV pg st k m q s ws,ws)) := by
 induction m with
 | zero => intro q s _ _; exact flat_pure n s
 | succ m ih =>
   intro q s h0 h1
   have hq : isPage pg q = true := isPage_iff.2 ⟨h0,by omega⟩
   obtain ⟨_,c0,c1,c2⟩ := page_c H hq
   refine flat_eq (flat_bind (flat_kind H.toPgIn q) fun x => flat_ite (fun _ => flat_bind (flat_read c0 c1) fun b => ih (q + 1) (s + openV k b) (by omega) (by omega)) (fun _ => ih (q + 1) s (by omega) (by omega))) (fun ws _ => ?_)
   rw [show freeNV pg st k (m + 1) q s ws = if kindV pg st ws q = k + 1 then freeNV pg st k m (q + 1) (s + openV k (bitV pg st ws q)) ws else freeNV pg st k m (q + 1) s ws from rfl]
   show (if kindV pg st ws q = k + 1 then _ else _) = _
   split <;> rfl
theorem flat_free' (k : Int) : Flat n (freeP pg st k) (fun ws => (freeV pg st k ws,ws)) := by
 have := H.pg1
 unfold freeP
 refine flat_eq (flat_ite (fun _ => flat_pure n _) (fun _ => flat_freeN H k pg.toNat 0 0 (by omega) (by omega))) (fun ws _ => ?_)
 unfold freeV
 split <;> rfl
end
end Go.Proofs.YtflihdcliknggaaGreatDoor
namespace Go.Proofs.YtflihdcliknggaaGreatDoor
open Go.RowKit Go.Sort Go.Maps Go.Shelf
abbrev V4 := Int × Int × Int × Int
def val4 (t : V4) : Value := .agg #[.int .i64 t.1,.int .i64 t.2.1,.int .i64 t.2.2.1,.int .i64 t.2.2.2]
def gdoneP (us pg st kind k ad : Int) : Prg V4 :=
 if kind = 0 ∨ kind = 1 then bindP (grabP us pg st k) (fun x => pureP (x.1,b2i x.2,0,0))
 else if kind = 2 ∨ kind = 3 then bindP (backP us pg st ad) (fun b => pureP (b2i b,0,0,0))
 else bindP (lookP us pg st ad) (fun x => bindP (roomP pg st k) (fun b => bindP (freeP pg st k) (fun f => pureP (x.1,b2i x.2,b2i b,f))))
theorem sound_freeN (pg st k : Int) : ∀ (m : Nat) (q s : Int),Sound (freeN pg st k m q s)
 | 0,q,s => sound_pure s
 | m + 1,q,s => sound_bind (sound_kind _ _ _) fun x => sound_ite (sound_bind (sound_read _) fun b => sound_freeN pg st k m _ _) (sound_freeN pg st k m _ _)
theorem sound_freeP (pg st k : Int) : Sound (freeP pg st k) := sound_ite (sound_pure _) (sound_freeN _ _ _ _ _ _)
theorem sound_gdone (us pg st kind k ad : Int) : Sound (gdoneP us pg st kind k ad) :=
 sound_ite (sound_bind (sound_grab _ _ _ _) fun _ => sound_pure _) (sound_ite (sound_bind (sound_back _ _ _ _) fun _ => sound_pure _) (sound_bind (sound_look _ _ _ _) fun _ => sound_bind (sound_room _ _ _) fun _ => sound_bind (sound_freeP _ _ _) fun _ => sound_pure _))
def gdoneV (us pg st kind k ad : Int) (ws : List Int) : V4 × List Int :=
 if kind = 0 ∨ kind = 1 then (((grabV us pg st k ws).1.1,b2i (grabV us pg st k ws).1.2,0,0),(grabV us pg st k ws).2)
 else if kind = 2 ∨ kind = 3 then ((b2i (backV us pg st ad ws).1,0,0,0),(backV us pg st ad ws).2)
 else (((lookV us pg st ad ws).1,b2i (lookV us pg st ad ws).2,b2i (roomV pg st k ws),freeV pg st k ws),ws)
section
variable {pg st : Int} {n : Nat} (H : HdIn pg st n)
include H
theorem good_roomP (k : Int) : Good n (fun _ => True) (roomP pg st k) := good_bind (good_plFirstN H _ _ _) fun _ _ => good_pure n trivial
theorem good_freeN (k : Int) : ∀ (m : Nat) (q s : Int),0 ≤ q → q + m ≤ pg → Good n (fun _ => True) (freeN pg st k m q s)
 | 0,q,s,_,_ => good_pure n trivial
 | m + 1,q,s,h0,h1 => good_bind (good_kind H.toPgIn q) fun x _ => good_ite (fun _ => good_bind (good_read n (page_b H.toPgIn (isPage_iff.2 ⟨h0,by omega⟩)).2.2.2.1) fun b _ => good_freeN k m _ _ (by omega) (by omega)) (fun _ => good_freeN k m _ _ (by omega) (by omega))
theorem good_freeP (k : Int) : Good n (fun _ => True) (freeP pg st k) := good_ite (fun _ => good_pure n trivial) (fun _ => good_freeN H k _ _ _ (by omega) (by have := H.pg1; omega))
theorem good_gdone (us kind k ad : Int) : Good n (fun _ => True) (gdoneP us pg st kind k ad) :=
 good_ite (fun _ => good_bind (good_grab H _ _) fun _ _ => good_pure n trivial) (fun _ => good_ite (fun _ => good_bind (good_back H _ _) fun _ _ => good_pure n trivial) (fun _ => good_bind (good_look H _ _) fun _ _ => good_bind (good_roomP H _) fun _ _ => good_bind (good_freeP H _) fun _ _ => good_pure n trivial))
theorem flat_gdone (us kind k ad : Int) : Flat n (gdoneP us pg st kind k ad) (gdoneV us pg st kind k ad) := by
 unfold gdoneP gdoneV
 split
 · exact flat_eq (flat_bind (flat_grab H us k) fun x => flat_pure n _) fun ws _ => rfl
 · split
   · exact flat_eq (flat_bind (flat_back H us ad) fun x => flat_pure n _) fun ws _ => rfl
   · exact flat_eq (flat_bind (flat_look H us ad) fun x => flat_bind (flat_room H k) fun b => flat_bind (flat_free' H k) fun f => flat_pure n _) fun ws _ => rfl
end
theorem l11_number (b : Bool) (w : World) : Calls Tryz.prog 42 #[.bool b] w (Gives w (.int .i64 (b2i b))) := by
 cases b <;> (go_enter Tryz.func42,Tryz.ntmps42; go_wp2_with fail; go_ret; exact ⟨rfl,More.refl _⟩)
theorem build4 (x : Int) (W : World) : (Instr.build 39 #[(0,.int .i64 x)]).run Tryz.prog W = .ok (.agg #[.int .i64 x,.int .i64 0,.int .i64 0,.int .i64 0]) W := run_build W _ _ _ (by kernel_rfl)
theorem build4b (x y : Int) (W : World) : (Instr.build 39 #[(0,.int .i64 x),(1,.int .i64 y)]).run Tryz.prog W = .ok (.agg #[.int .i64 x,.int .i64 y,.int .i64 0,.int .i64 0]) W := run_build W _ _ _ (by kernel_rfl)
theorem build4d (x y z u : Int) (W : World) : (Instr.build 39 #[(0,.int .i64 x),(1,.int .i64 y),(2,.int .i64 z),(3,.int .i64 u)]).run Tryz.prog W = .ok (.agg #[.int .i64 x,.int .i64 y,.int .i64 z,.int .i64 u]) W := run_build W _ _ _ (by kernel_rfl)
def DoneG (c : Cfg) (kind k m : Int) (g : Nat) (W : World) : Prop := W.heap[g]? = some (.cells c.arr 28 (0,0)) ∧ W.heap[g + 1]? = some (.cells #[.int .i64 kind,.int .i64 k,.int .i64 m] 38 (0,0))
theorem DoneG.l {c : Cfg} {kind k m : Int} {g : Nat} {W : World} (h : DoneG c kind k m g W) : W.heap[g]? = some (.cells c.arr 28 (0,0)) := h.1
theorem DoneG.a {c : Cfg} {kind k m : Int} {g : Nat} {W : World} (h : DoneG c kind k m g W) : W.heap[g + 1]? = some (.cells #[.int .i64 kind,.int .i64 k,.int .i64 m] 38 (0,0)) := h.2
theorem g_done {c : Cfg} (R : c.Ok) {n : Nat} (H : HdIn c.pg c.st n) (hn : n ≤ 10000) (F : Nat → Prop) (p : Nat) (kn : Int → Option Int) (D : List KV) (kind k m ad : Int) (w : World) (hv : ViewAt w F p kn D) (hk : OkK kn) (hD : InvD n D) (bt : Nat) (hs : SzAt bt w) (nF0 : ¬ F 0) (nFb : ¬ F bt) :
   Calls Tryz.prog 12 #[.pointer (some ⟨p,0,none⟩),.agg c.arr,.agg #[.int .i64 kind,.int .i64 k,.int .i64 m],.int .i64 ad] w (WentV w F p kn val4 (gdoneP c.us c.pg c.st kind k ad kn D)) := by
 obtain ⟨Rr,hRr⟩ : ∃ Rr,gdoneP c.us c.pg c.st kind k ad kn D = Rr := ⟨_,rfl⟩
 rw [hRr]
 obtain ⟨w1,e1,hb0,hb1,hb2,m1,s1⟩ := entry3 w (.cells c.arr 28) (.cells #[.int .i64 kind,.int .i64 k,.int .i64 m] 38) (.cells #[.int .i64 0,.int .i64 0,.int .i64 0,.int .i64 0] 39)
 have nF : ∀ b,w.heap.size ≤ b → ¬ F b := fun b hb r => by have := hv.lt _ r; omega
 have MM := hQQ m1
 have L0 := hQQ hb0
 have A0 := hQQ hb1
 have Z0 := hQQ hb2
 have M0 : Hid (MidV w1 w1 F (fun _ => False) p kn n D F) := hQQ (MidV.begin (hv.more m1) hD)
 have KP : Hid (∀ wr D' F',MidV w1 wr F (fun _ => False) p kn n D' F' → wr.heap[w.heap.size]? = some (.cells c.arr 28 (0,0)) ∧ wr.heap[w.heap.size + 1]? = some (.cells #[.int .i64 kind,.int .i64 k,.int .i64 m] 38 (0,0)) ∧ wr.heap[w.heap.size + 2]? = some (.cells #[.int .i64 0,.int .i64 0,.int .i64 0,.int .i64 0] 39 (0,0))) := hQQ fun wr D' F' h =>
   ⟨mid_own h L0.out (nF _ (by omega)) (fun q => q),mid_own h A0.out (nF _ (by omega)) (fun q => q),mid_own h Z0.out (nF _ (by omega)) (fun q => q)⟩
 have NEED : Hid (∀ a w2,Rr = .need a → DeadAt w2 p a → Turned (fun b => F b ∨ False) w1 w2 → WentV w F p kn val4 Rr (.panicked (endOf p)) w2) := hQQ fun a w2 e hd ht => mid_need MM.out (fun _ q => q.elim) e hd ht
 have DONE : Hid (∀ x w2 D' F',Rr = .ok x D' → MidV w1 w2 F (fun _ => False) p kn n D' F' → WentV w F p kn val4 Rr (.returned (val4 x)) (w2.setRow (w.heap.size + 2) #[.int .i64 x.1,.int .i64 x.2.1,.int .i64 x.2.2.1,.int .i64 x.2.2.2])) := hQQ fun x w2 D' F' e h => done_fin MM.out h e (g:=w.heap.size + 2) (by omega) (by omega) (nF _ (by omega)) (KP.out _ _ _ h).2.2 (Turned.setRow (Turned.refl _ w2) _ _ (fun _ => rfl))
 have y0 := cell_more (j:=0) hb1 (More.refl _) rfl
 have y1 := cell_more (j:=1) hb1 (More.refl _) rfl
 have HK := hQQ hk
 have HR := hQQ R
 have HH := hQQ H
 have b41 := build4
 have b42 := build4b
 have b44 := build4d
 have SZ : Hid (∀ wr D' F',MidV w1 wr F (fun _ => False) p kn n D' F' → SzAt bt wr) := hQQ fun wr D' F' h => (hs.more MM.out).keep h.turn (by rintro (q | q); exact nF0 q; exact q) (by rintro (q | q); exact nFb q; exact q)
 have NF : Hid (∀ wr D' F',MidV w1 wr F (fun _ => False) p kn n D' F' → ¬ F' 0 ∧ ¬ F' bt) := hQQ fun wr D' F' h => ⟨h.off (hs.more MM.out).lt0 nF0,h.off (hs.more MM.out).lt nFb⟩
 unfold gdoneP at hRr
 clear hb0 hb1 hb2 m1 hv hD hk R H nF hs nF0 nFb
 by_cases z0 : kind = 0
 · have t0 : (kind == 0) = true := by simp [z0]
   rw [if_pos (.inl z0)] at hRr
   have HRr := hQQ hRr
   clear hRr z0
   have START := 0
   clear START
   go_enter Tryz.func12,Tryz.ntmps12
   go_wp2_with (refine wpList_load_rowG rfl 28 _ rfl _ rfl 28 _ _ _ L0.out Tryz.underlying28 rfl (by kernel_rfl) ?_)
   refine (g_Grab HR.out HH.out hn F p kn D k w1 M0.out.view HK.out M0.out.inv bt (SZ.out _ _ _ M0.out) (NF.out _ _ _ M0.out).1 (NF.out _ _ _ M0.out).2).mono ?_
   intro e w4 he
   rcases M0.out.step (More.refl _) HK.out (good_grab HH.out _ _) he with ⟨a',hE,rfl,hd',ht',_⟩ | ⟨x4,D4,F4,hE,rfl,M4,hq4,_,_⟩
   · exact ⟨rfl,NEED.out a' w4 (HRr.out.symm.trans (bindP_need hE)) hd' ht'⟩
   have R4 := hQQ ((bindP_ok hE).symm.trans HRr.out)
   have M4 := hQQ M4
   clear he hE
   obtain ⟨xa,xb⟩ := x4
   go_wp2_with fail
   refine (l11_number xb _).mono ?_
   rintro e w5 ⟨rfl,h5⟩
   have M5 := hQQ (M4.out.more h5)
   have Z5 := hQQ (KP.out _ _ _ M5.out).2.2
   have FIN := hQQ (DONE.out (xa,b2i xb,0,0) w5 _ _ R4.out.symm M5.out)
   clear h5 R4
   go_wp2_with (refine wpList_store_row rfl 39 _ _ rfl (w.heap.size + 2) _ rfl rfl 39 #[.int .i64 0,.int .i64 0,.int .i64 0,.int .i64 0] Z5.out (by kernel_rfl) rfl (by simp [Value.oneCell']) ?_)
   refine bodyPost_ret (v:=val4 (xa,b2i xb,0,0)) (results_cell_row Tryz.results12 _ _ _ 39 _ (0,0) _ rfl (setRow_heap _ _ _ _ _ _ Z5.out) Tryz.underlying39 rfl (by kernel_rfl)) rfl FIN.out
 have t0 : (kind == 0) = false := by simp [z0]
 by_cases z1 : kind = 1
 · have t1 : (kind == 1) = true := by simp [z1]
   rw [if_pos (.inr z1)] at hRr
   have HRr := hQQ hRr
   clear hRr z0 z1
   have START := 0
   clear START
   go_enter Tryz.func12,Tryz.ntmps12
   go_wp2_with (refine wpList_load_rowG rfl 28 _ rfl _ rfl 28 _ _ _ L0.out Tryz.underlying28 rfl (by kernel_rfl) ?_)
   refine (g_Grab HR.out HH.out hn F p kn D k w1 M0.out.view HK.out M0.out.inv bt (SZ.out _ _ _ M0.out) (NF.out _ _ _ M0.out).1 (NF.out _ _ _ M0.out).2).mono ?_
   intro e w4 he
   rcases M0.out.step (More.refl _) HK.out (good_grab HH.out _ _) he with ⟨a',hE,rfl,hd',ht',_⟩ | ⟨x4,D4,F4,hE,rfl,M4,hq4,_,_⟩
   · exact ⟨rfl,NEED.out a' w4 (HRr.out.symm.trans (bindP_need hE)) hd' ht'⟩
   have R4 := hQQ ((bindP_ok hE).symm.trans HRr.out)
   have M4 := hQQ M4
   clear he hE
   obtain ⟨xa,xb⟩ := x4
   go_wp2_with fail
   refine (l11_number xb _).mono ?_
   rintro e w5 ⟨rfl,h5⟩
   have M5 := hQQ (M4.out.more h5)
   have Z5 := hQQ (KP.out _ _ _ M5.out).2.2
   have FIN := hQQ (DONE.out (xa,b2i xb,0,0) w5 _ _ R4.out.symm M5.out)
   clear h5 R4
   go_wp2_with (refine wpList_store_row rfl 39 _ _ rfl (w.heap.size + 2) _ rfl rfl 39 #[.int .i64 0,.int .i64 0,.int .i64 0,.int .i64 0] Z5.out (by kernel_rfl) rfl (by simp [Value.oneCell']) ?_)
   refine bodyPost_ret (v:=val4 (xa,b2i xb,0,0)) (results_cell_row Tryz.results12 _ _ _ 39 _ (0,0) _ rfl (setRow_heap _ _ _ _ _ _ Z5.out) Tryz.underlying39 rfl (by kernel_rfl)) rfl FIN.out
 have t1 : (kind == 1) = false := by simp [z1]
 rw [if_neg (show ¬ (kind = 0 ∨ kind = 1) by rintro (q | q); exact z0 q; exact z1 q)] at hRr
 by_cases z2 : kind = 2
 · have t2 : (kind == 2) = true := by simp [z2]
   rw [if_pos (.inl z2)] at hRr
   have HRr := hQQ hRr
   clear hRr z0 z1 z2
   have START := 0
   clear START
   go_enter Tryz.func12,Tryz.ntmps12
   go_wp2_with (refine wpList_load_rowG rfl 28 _ rfl _ rfl 28 _ _ _ L0.out Tryz.underlying28 rfl (by kernel_rfl) ?_)
   refine (g_Return HR.out HH.out hn F p kn D ad w1 M0.out.view HK.out M0.out.inv bt (SZ.out _ _ _ M0.out) (NF.out _ _ _ M0.out).1 (NF.out _ _ _ M0.out).2).mono ?_
   intro e w4 he
   rcases M0.out.step (More.refl _) HK.out (good_back HH.out _ _) he with ⟨a',hE,rfl,hd',ht',_⟩ | ⟨x4,D4,F4,hE,rfl,M4,hq4,_,_⟩
   · exact ⟨rfl,NEED.out a' w4 (HRr.out.symm.trans (bindP_need hE)) hd' ht'⟩
   have R4 := hQQ ((bindP_ok hE).symm.trans HRr.out)
   have M4 := hQQ M4
   clear he hE
   go_wp2_with fail
   refine (l11_number x4 _).mono ?_
   rintro e w5 ⟨rfl,h5⟩
   have M5 := hQQ (M4.out.more h5)
   have Z5 := hQQ (KP.out _ _ _ M5.out).2.2
   have FIN := hQQ (DONE.out (b2i x4,0,0,0) w5 _ _ R4.out.symm M5.out)
   clear h5 R4
   go_wp2_with (refine wpList_store_row rfl 39 _ _ rfl (w.heap.size + 2) _ rfl rfl 39 #[.int .i64 0,.int .i64 0,.int .i64 0,.int .i64 0] Z5.out (by kernel_rfl) rfl (by simp [Value.oneCell']) ?_)
   refine bodyPost_ret (v:=val4 (b2i x4,0,0,0)) (results_cell_row Tryz.results12 _ _ _ 39 _ (0,0) _ rfl (setRow_heap _ _ _ _ _ _ Z5.out) Tryz.underlying39 rfl (by kernel_rfl)) rfl FIN.out
 have t2 : (kind == 2) = false := by simp [z2]
 by_cases z3 : kind = 3
 · have t3 : (kind == 3) = true := by simp [z3]
   rw [if_pos (.inr z3)] at hRr
   have HRr := hQQ hRr
   clear hRr z0 z1 z2 z3
   have START := 0
   clear START
   go_enter Tryz.func12,Tryz.ntmps12
   go_wp2_with (refine wpList_load_rowG rfl 28 _ rfl _ rfl 28 _ _ _ L0.out Tryz.underlying28 rfl (by kernel_rfl) ?_)
   refine (g_Return HR.out HH.out hn F p kn D ad w1 M0.out.view HK.out M0.out.inv bt (SZ.out _ _ _ M0.out) (NF.out _ _ _ M0.out).1 (NF.out _ _ _ M0.out).2).mono ?_
   intro e w4 he
   rcases M0.out.step (More.refl _) HK.out (good_back HH.out _ _) he with ⟨a',hE,rfl,hd',ht',_⟩ | ⟨x4,D4,F4,hE,rfl,M4,hq4,_,_⟩
   · exact ⟨rfl,NEED.out a' w4 (HRr.out.symm.trans (bindP_need hE)) hd' ht'⟩
   have R4 := hQQ ((bindP_ok hE).symm.trans HRr.out)
   have M4 := hQQ M4
   clear he hE
   go_wp2_with fail
   refine (l11_number x4 _).mono ?_
   rintro e w5 ⟨rfl,h5⟩
   have M5 := hQQ (M4.out.more h5)
   have Z5 := hQQ (KP.out _ _ _ M5.out).2.2
   have FIN := hQQ (DONE.out (b2i x4,0,0,0) w5 _ _ R4.out.symm M5.out)
   clear h5 R4
   go_wp2_with (refine wpList_store_row rfl 39 _ _ rfl (w.heap.size + 2) _ rfl rfl 39 #[.int .i64 0,.int .i64 0,.int .i64 0,.int .i64 0] Z5.out (by kernel_rfl) rfl (by simp [Value.oneCell']) ?_)
   refine bodyPost_ret (v:=val4 (b2i x4,0,0,0)) (results_cell_row Tryz.results12 _ _ _ 39 _ (0,0) _ rfl (setRow_heap _ _ _ _ _ _ Z5.out) Tryz.underlying39 rfl (by kernel_rfl)) rfl FIN.out
 have t3 : (kind == 3) = false := by simp [z3]
 rw [if_neg (show ¬ (kind = 2 ∨ kind = 3) by rintro (q | q); exact z2 q; exact z3 q)] at hRr
 have HRr := hQQ hRr
 clear hRr z0 z1 z2 z3
 have KC : Hid (∀ wr D' F',MidV w1 wr F (fun _ => False) p kn n D' F' → DoneG c kind k m w.heap.size wr) := hQQ fun wr D' F' h => ⟨(KP.out _ _ _ h).1,(KP.out _ _ _ h).2.1⟩
 go_enter Tryz.func12,Tryz.ntmps12
 go_wp2_with (refine wpList_load_rowG rfl 28 _ rfl _ rfl 28 _ _ _ L0.out Tryz.underlying28 rfl (by kernel_rfl) ?_)
 refine (g_Taken HR.out HH.out hn F p kn D ad w1 M0.out.view HK.out M0.out.inv bt (SZ.out _ _ _ M0.out) (NF.out _ _ _ M0.out).1 (NF.out _ _ _ M0.out).2).mono ?_
 intro e w3 he
 rcases M0.out.step (More.refl _) HK.out (good_look HH.out _ _) he with ⟨a',hE,rfl,hd',ht',_⟩ | ⟨x3,D3,F3,hE,rfl,M3,hq3,_,_⟩
 · exact ⟨rfl,NEED.out a' w3 (HRr.out.symm.trans (bindP_need hE)) hd' ht'⟩
 have R3 := hQQ ((bindP_ok hE).symm.trans HRr.out)
 have M3 := hQQ M3
 clear he hE
 go_wp2_with fail
 obtain ⟨xa,xb⟩ := x3
 refine wp_region_anyC (DoneG c kind k m w.heap.size) (by kernel_rfl) ?_
 have MR := hQQ (M3.out.more ((More.refl w3).drewN 1))
 change anyC _ _ _ _ _ _ _ _ (w3.drewN 1)
 generalize w3.drewN 1 = wr at MR ⊢
 generalize hA : Act.mk _ _ = A
 have HF : AG 61 A [(0,.pointer (some ⟨p,0,none⟩)),(5,.pointer (some ⟨w.heap.size,0,none⟩)),(6,.pointer (some ⟨w.heap.size + 1,0,none⟩)),(8,.pointer (some ⟨w.heap.size + 2,0,none⟩)),(11,.int .i64 xa),(12,.bool xb)] := by
   rw [← hA]
   refine ⟨⟨Nat.le_of_ble_eq_true rfl,rfl⟩,?_⟩
   intro z hz; simp only [List.mem_cons,List.not_mem_nil,or_false] at hz; rcases hz with rfl | rfl | rfl | rfl | rfl | rfl <;> rfl
 refine anyC_start (fun a W => a.eval (.tmp 8) = .pointer (some ⟨w.heap.size + 2,0,none⟩) ∧ a.defers = [] ∧ ∃ x W0 D0 F0,W = W0.setRow (w.heap.size + 2) #[.int .i64 x.1,.int .i64 x.2.1,.int .i64 x.2.2.1,.int .i64 x.2.2.2] ∧ Rr = .ok x D0 ∧ MidV w1 W0 F (fun _ => False) p kn n D0 F0) (fun W => WentV w F p kn val4 Rr (.panicked (endOf p)) W) (endOf p) (fun a W hd h => ⟨hd,h⟩) (fun _ _ _ _ _ h => h) ?_ ?_
 · skip
   clear HF hA A
   rintro a W ⟨t8,hdf,x,W0,D0,F0,rfl,hx,hM⟩
   have FIN := hQQ (DONE.out x W0 D0 F0 hx hM)
   have Z := (KP.out _ _ _ hM).2.2
   clear hx hM
   have ha8 : a.tmps.getD 8 undef = .pointer (some ⟨w.heap.size + 2,0,none⟩) := t8
   go_wp2_with fail
   refine bodyPost_ret (v:=val4 x) (results_cell_row Tryz.results12 _ _ _ 39 _ (0,0) _ ha8 (setRow_heap _ _ _ _ _ _ Z) Tryz.underlying39 rfl (by kernel_rfl)) hdf FIN.out
 intro QQ FINE FIND FINQ
 clear hA
 refine anyC_takeD (i:=0) (v:=.int .i64 xa) (some 46) rfl rfl (by kernel_rfl) (by kernel_rfl) (by kernel_rfl) (fun c a w => FINQ c a _ _ w) (KC.out _ _ _ MR.out) (by exact yieldsC_moveG (wanted_none rfl) _ rfl (HF.get 4 rfl)) ?_
 replace HF := HF.put 46 (.int .i64 xa) (by decide) rfl
 generalize hB1_46 : Act.put _ _ _ = A at HF ⊢
 refine anyC_takeD (i:=1) (v:=.bool xb) (some 47) rfl rfl (by kernel_rfl) (by kernel_rfl) (by kernel_rfl) (fun c a w => FINQ c a _ _ w) (KC.out _ _ _ MR.out) (by exact yieldsC_moveG (wanted_none rfl) _ rfl (HF.get 6 rfl)) ?_
 replace HF := HF.put 47 (.bool xb) (by decide) rfl
 generalize hB2_47 : Act.put _ _ _ = A at HF ⊢
 refine anyC_takeD (i:=3) (v:=.pointer (some ⟨p,0,none⟩)) (some 49) rfl rfl (by kernel_rfl) (by kernel_rfl) (by kernel_rfl) (fun c a w => FINQ c a _ _ w) (KC.out _ _ _ MR.out) (by exact yieldsC_moveG (wanted_none rfl) _ rfl (HF.get 2 rfl)) ?_
 replace HF := HF.put 49 (.pointer (some ⟨p,0,none⟩)) (by decide) rfl
 generalize hB3_49 : Act.put _ _ _ = A at HF ⊢
 refine anyC_takeD (i:=4) (v:=.agg c.arr) (some 50) rfl rfl (by kernel_rfl) (by kernel_rfl) (by kernel_rfl) (fun c a w => FINQ c a _ _ w) (KC.out _ _ _ MR.out) (by exact yieldsC_row (C:=(DoneG c kind k m w.heap.size)) (wanted_none rfl) 28 _ rfl w.heap.size (HF.get 4 rfl) 28 _ _ _ (fun W hW => DoneG.l hW) Tryz.underlying28 rfl (by kernel_rfl)) ?_
 replace HF := HF.put 50 (.agg c.arr) (by decide) rfl
 generalize hB4_50 : Act.put _ _ _ = A at HF ⊢
 refine anyC_takeD (i:=5) (v:=.pointer (some ⟨w.heap.size + 1,1,none⟩)) (some 51) rfl rfl (by kernel_rfl) (by kernel_rfl) (by kernel_rfl) (fun c a w => FINQ c a _ _ w) (KC.out _ _ _ MR.out) (by exact (Or.inl ⟨rfl,fun W hW => by have h5 := (HF.getD 6 rfl); go_simp⟩)) ?_
 replace HF := HF.put 51 (.pointer (some ⟨w.heap.size + 1,1,none⟩)) (by decide) rfl
 generalize hB5_51 : Act.put _ _ _ = A at HF ⊢
 refine anyC_takeD (i:=6) (v:=.int .i64 k) (some 52) rfl rfl (by kernel_rfl) (by kernel_rfl) (by kernel_rfl) (fun c a w => FINQ c a _ _ w) (KC.out _ _ _ MR.out) (by exact (Or.inl ⟨rfl,fun W hW => by have h5 := (HF.getD 0 rfl); have c1 := cell_more (j:=1) (DoneG.a hW) (More.refl _) rfl; go_simp⟩)) ?_
 replace HF := HF.put 52 (.int .i64 k) (by decide) rfl
 generalize hB6_52 : Act.put _ _ _ = A at HF ⊢
 refine anyC_takeD (i:=9) (v:=.pointer (some ⟨p,0,none⟩)) (some 55) rfl rfl (by kernel_rfl) (by kernel_rfl) (by kernel_rfl) (fun c a w => FINQ c a _ _ w) (KC.out _ _ _ MR.out) (by exact yieldsC_moveG (wanted_none rfl) _ rfl (HF.get 6 rfl)) ?_
 replace HF := HF.put 55 (.pointer (some ⟨p,0,none⟩)) (by decide) rfl
 generalize hB7_55 : Act.put _ _ _ = A at HF ⊢
 refine anyC_takeD (i:=10) (v:=.agg c.arr) (some 56) rfl rfl (by kernel_rfl) (by kernel_rfl) (by kernel_rfl) (fun c a w => FINQ c a _ _ w) (KC.out _ _ _ MR.out) (by exact yieldsC_row (C:=(DoneG c kind k m w.heap.size)) (wanted_none rfl) 28 _ rfl w.heap.size (HF.get 8 rfl) 28 _ _ _ (fun W hW => DoneG.l hW) Tryz.underlying28 rfl (by kernel_rfl)) ?_
 replace HF := HF.put 56 (.agg c.arr) (by decide) rfl
 generalize hB8_56 : Act.put _ _ _ = A at HF ⊢
 refine anyC_takeD (i:=11) (v:=.pointer (some ⟨w.heap.size + 1,1,none⟩)) (some 57) rfl rfl (by kernel_rfl) (by kernel_rfl) (by kernel_rfl) (fun c a w => FINQ c a _ _ w) (KC.out _ _ _ MR.out) (by exact (Or.inl ⟨rfl,fun W hW => by have h5 := (HF.getD 10 rfl); go_simp⟩)) ?_
 replace HF := HF.put 57 (.pointer (some ⟨w.heap.size + 1,1,none⟩)) (by decide) rfl
 generalize hB9_57 : Act.put _ _ _ = A at HF ⊢
 refine anyC_takeD (i:=12) (v:=.int .i64 k) (some 58) rfl rfl (by kernel_rfl) (by kernel_rfl) (by kernel_rfl) (fun c a w => FINQ c a _ _ w) (KC.out _ _ _ MR.out) (by exact (Or.inl ⟨rfl,fun W hW => by have h5 := (HF.getD 0 rfl); have c1 := cell_more (j:=1) (DoneG.a hW) (More.refl _) rfl; go_simp⟩)) ?_
 replace HF := HF.put 58 (.int .i64 k) (by decide) rfl
 generalize hB10_58 : Act.put _ _ _ = A at HF ⊢
 refine anyC_oneK (i:=2) (some 48) (by kernel_rfl) rfl (wanted_none rfl) rfl (fun K hK => ?_)
 refine wp_call1 (v0:=.bool xb) rfl (HF.get 8 rfl) (enters_of Tryz.func42 (by kernel_rfl) rfl) ?_
 refine (l11_number xb _).mono ?_
 rintro e w4 ⟨rfl,h4⟩
 have M4 := hQQ (MR.out.more h4)
 clear h4
 refine hK _ _ (KC.out _ _ _ M4.out) ?_
 clear hK K
 replace HF := HF.put 48 (.int .i64 (b2i xb)) (by decide) rfl
 generalize hB11_48 : Act.put _ _ _ = A at HF ⊢
 refine anyC_oneK (i:=7) (some 53) (by kernel_rfl) rfl (wanted_none rfl) rfl (fun K hK => ?_)
 refine wp_call3 (v0:=.pointer (some ⟨p,0,none⟩)) (v1:=.agg c.arr) (v2:=.int .i64 k) rfl (HF.get 8 rfl) (HF.get 7 rfl) (HF.get 5 rfl) (enters_of Tryz.func24 (by kernel_rfl) rfl) ?_
 refine (g_Room HR.out HH.out F3 p kn D3 k w4 M4.out.view HK.out M4.out.inv bt (SZ.out _ _ _ M4.out) (NF.out _ _ _ M4.out).1 (NF.out _ _ _ M4.out).2).mono ?_
 intro e w5 he
 rcases M4.out.step (More.refl _) HK.out (good_roomP HH.out _) he with ⟨a',hE,rfl,hd',ht',_⟩ | ⟨x5,D5,F5,hE,rfl,M5,hq5,_,_⟩
 · exact FIND _ _ HF.1.2 (NEED.out a' w5 (R3.out.symm.trans (bindP_need hE)) hd' ht')
 have R5 := hQQ ((bindP_ok hE).symm.trans R3.out)
 have M5 := hQQ M5
 clear he hE
 refine hK _ _ (KC.out _ _ _ M5.out) ?_
 clear hK K
 replace HF := HF.put 53 (.bool x5) (by decide) rfl
 generalize hB12_53 : Act.put _ _ _ = A at HF ⊢
 refine anyC_oneK (i:=8) (some 54) (by kernel_rfl) rfl (wanted_none rfl) rfl (fun K hK => ?_)
 refine wp_call1 (v0:=.bool x5) rfl (HF.get 0 rfl) (enters_of Tryz.func42 (by kernel_rfl) rfl) ?_
 refine (l11_number x5 _).mono ?_
 rintro e w6 ⟨rfl,h6⟩
 have M6 := hQQ (M5.out.more h6)
 clear h6
 refine hK _ _ (KC.out _ _ _ M6.out) ?_
 clear hK K
 replace HF := HF.put 54 (.int .i64 (b2i x5)) (by decide) rfl
 generalize hB13_54 : Act.put _ _ _ = A at HF ⊢
 refine anyC_oneK (i:=13) (some 59) (by kernel_rfl) rfl (wanted_none rfl) rfl (fun K hK => ?_)
 refine wp_call3 (v0:=.pointer (some ⟨p,0,none⟩)) (v1:=.agg c.arr) (v2:=.int .i64 k) rfl (HF.get 6 rfl) (HF.get 5 rfl) (HF.get 3 rfl) (enters_of Tryz.func29 (by kernel_rfl) rfl) ?_
 refine (g_Free HR.out HH.out hn F5 p kn D5 k w6 M6.out.view HK.out M6.out.inv bt (SZ.out _ _ _ M6.out) (NF.out _ _ _ M6.out).1 (NF.out _ _ _ M6.out).2).mono ?_
 intro e w7 he
 rcases M6.out.step (More.refl _) HK.out (good_freeP HH.out _) he with ⟨a',hE,rfl,hd',ht',_⟩ | ⟨x7,D7,F7,hE,rfl,M7,hq7,_,_⟩
 · exact FIND _ _ HF.1.2 (NEED.out a' w7 (R5.out.symm.trans (bindP_need hE)) hd' ht')
 have R7 := hQQ ((bindP_ok hE).symm.trans R5.out)
 have M7 := hQQ M7
 clear he hE
 refine hK _ _ (KC.out _ _ _ M7.out) ?_
 clear hK K
 replace HF := HF.put 59 (.int .i64 x7) (by decide) rfl
 generalize hB14_59 : Act.put _ _ _ = A at HF ⊢
 refine anyC_takeD (i:=14) (v:=.agg #[.int .i64 xa,.int .i64 (b2i xb),.int .i64 (b2i x5),.int .i64 x7]) (some 60) rfl rfl (by kernel_rfl) (by kernel_rfl) (by kernel_rfl) (fun c a w => FINQ c a _ _ w) (KC.out _ _ _ M7.out) (by exact (Or.inl ⟨rfl,fun W hW => by have h1 := (HF.getD 13 rfl); have h2 := (HF.getD 3 rfl); have h3 := (HF.getD 1 rfl); have h4 := (HF.getD 0 rfl); go_simp⟩)) ?_
 replace HF := HF.put 60 (.agg #[.int .i64 xa,.int .i64 (b2i xb),.int .i64 (b2i x5),.int .i64 x7]) (by decide) rfl
 generalize hB15_60 : Act.put _ _ _ = A at HF ⊢
 refine anyC_one (i:=15) (by kernel_rfl) rfl rfl ?_
 refine wp_store_row 39 _ _ rfl (w.heap.size + 2) _ (HF.get 18 rfl) (HF.get 0 rfl) 39 #[.int .i64 0,.int .i64 0,.int .i64 0,.int .i64 0] (KP.out _ _ _ M7.out).2.2 (by kernel_rfl) rfl (by simp [Value.oneCell']) ?_
 have TS := Turned.setRow (S:=fun b => b = w.heap.size + 2) (Turned.refl _ w7) (w.heap.size + 2) #[.int .i64 xa,.int .i64 (b2i xb),.int .i64 (b2i x5),.int .i64 x7] (fun _ => rfl)
 refine ⟨⟨(TS.block _ (lt_of_heap (KC.out _ _ _ M7.out).1) (by omega)).trans (KC.out _ _ _ M7.out).1,(TS.block _ (lt_of_heap (KC.out _ _ _ M7.out).2) (by omega)).trans (KC.out _ _ _ M7.out).2⟩,?_⟩
 exact anyC_done (by kernel_rfl) (FINE _ _ ⟨(HF.get 18 rfl),HF.1.2,(xa,b2i xb,b2i x5,x7),w7,D7,F7,rfl,R7.out.symm,M7.out⟩)
theorem wpList_words {ops : Array Oper} {rest : List Oper} {o : Oper} {act : Act} {Q : Exit → Act → World → Prop} {w : World} {a : Option Addr} {cap : Nat} {zs : List Int} (hgd : o.guard = none) (s x : Operand)
   (ho : o.op = .call { callee := .builtin .append,args := #[s,x],argTypes := #[31,31] })
   (hs : act.eval s = .slice (some ⟨w.heap.size,0,none⟩) 0 0) (hx : act.eval x = .slice a zs.length cap) (hz : IsWords w a zs) (hl : zs.length ≤ 1000000)
   (h : ∀ a' cap' w',RowAt w' 3 (zs.map (Value.int .i64)) a' cap' → (∀ k,owned a' k → w.heap.size ≤ k) → More w w' → wpList Tryz.prog ops Q rest (act.put o.dst (.slice a' zs.length cap')) w') :
   wpList Tryz.prog ops Q (o :: rest) act (w.alloc (.cells #[] 3)) := by
 obtain ⟨i,i1,i2,i3,i4⟩ := int_info
 have M0 : More w (w.alloc (.cells #[] 3)) := (More.refl w).alloc _
 have hown : (w.alloc (.cells #[] 3)).ownsRow w.heap.size 3 1 (.slice (some ⟨w.heap.size,0,none⟩) 0 0) 0 [] := World.ownsRow_made w #[] 0 (Nat.le_refl _) (by simp only [maxLen]; omega) rfl
 have many : ∀ (ad : Addr),a = some ad → (∀ j u,(zs.map (Value.int .i64))[j]? = some u → (w.alloc (.cells #[] 3)).cell? (ad.add j) = some u) → wpList Tryz.prog ops Q (o :: rest) act (w.alloc (.cells #[] 3)) := by
   intro ad e hc
   subst e
   refine wpList_append_own _ hgd s x 31 ho w.heap.size 3 i _ 1 8 Tryz.underlying31 i1 i2 i3 i4 rfl (by omega) _ 0 [] hs hown ad zs.length cap (zs.map (Value.int .i64)) hx (by simp) hc
     (by intro u hu; obtain ⟨z,_,rfl⟩ := List.mem_map.1 hu; rfl) (by simp only [maxLen]; omega) (by omega) (by simp) ?_
   intro v' w' h1 h2 _
   rw [Nat.zero_add,List.nil_append] at h1
   obtain ⟨a',cap',rfl,hr,hn,_⟩ := RowAt.of_own h1
   exact h a' cap' w' hr hn (more_of_grown M0 hown h2)
 cases a with
 | none =>
   obtain rfl : zs = [] := by
     rcases hz with q | ⟨_,_,q,_⟩
     · exact q
     · cases q
   refine wpList_plain hgd fun K hK => ?_
   have hr := run_append_room_src (P:=Tryz.prog) (w.alloc (.cells #[] 3)) 31 31 o.type 3 i Tryz.underlying31 i1 w.heap.size 0 0 0 (.slice none 0 cap) 0 [] (Src.ofNil _ Tryz.underlying31 cap) (Nat.le_refl _) (fun j hj => by simp at hj) (fun j hj => by simp at hj)
   unfold Oper.wp
   simp [execOp,ho,resolve,invoke,builtin,hs,hx,hr,Result.andThen]
   refine hK _ _ (h (some ⟨w.heap.size,0,none⟩) 0 _ ?_ (fun k hk => by cases hk; exact Nat.le_refl _) M0)
   exact .inr ⟨w.heap.size,#[],rfl,heap_new w _,by simp,by simp only [maxLen]; omega,rfl,rfl⟩
 | some ad =>
   by_cases h0 : zs = []
   · subst h0
     exact many ad rfl (fun j u hj => by simp at hj)
   · obtain ⟨g,off,e,hg,hc⟩ := hz.resolve_left h0
     cases e
     refine many _ rfl (fun j u hj => ?_)
     rw [List.getElem?_map] at hj
     by_cases q : j < zs.length
     · rw [List.getElem?_eq_getElem q] at hj
       have hu : u = .int .i64 zs[j] := by simpa using hj.symm
       rw [hu,Addr.add_lit]
       have := M0.cell (hc j q)
       simpa [List.getD,q] using this
     · rw [List.getElem?_eq_none (by omega)] at hj; cases hj
theorem begin_at (y0 y1 y2 y3 y4 y5 y6 y7 y8 y9 y10 : Int) (f0 : (Lit.int .i64 y0).wf = true) (f1 : (Lit.int .i64 y1).wf = true) (f2 : (Lit.int .i64 y2).wf = true) (f3 : (Lit.int .i64 y3).wf = true) (f4 : (Lit.int .i64 y4).wf = true) (f5 : (Lit.int .i64 y5).wf = true) (f6 : (Lit.int .i64 y6).wf = true) (f7 : (Lit.int .i64 y7).wf = true) (f8 : (Lit.int .i64 y8).wf = true) (f9 : (Lit.int .i64 y9).wf = true) (f10 : (Lit.int .i64 y10).wf = true) : ∃ d : Cfg,d.Small ∧ Hid (∀ W,Calls Tryz.prog 7 #[.agg #[.int .i64 y0,.int .i64 y1,.int .i64 y2,.int .i64 y3,.int .i64 y4,.int .i64 y5,.int .i64 y6,.int .i64 y7,.int .i64 y8,.int .i64 y9,.int .i64 y10]] W (Begun8 W d)) := by
 obtain ⟨wk,cp,pg,st,tr,wt,ck,pr,ca,bi,ba,R0,S0⟩ := some_gives y0 y1 y2 y3 y4 y5 y6 y7 y8 y9 y10 f0 f1 f2 f3 f4 f5 f6 f7 f8 f9 f10
 have R : Cfg.Ok ⟨wk,cp,pg,st,tr,wt,ck,pr,ca,bi,ba⟩ := R0
 exact ⟨_,small_small R,fun W => begin_any R y0 y1 y2 y3 y4 y5 y6 y7 y8 y9 y10 W S0.out⟩
theorem Ws.of_row' {w : World} {a : Option Addr} {cap : Nat} {zs : List Int} (h : RowAt w 3 (zs.map (Value.int .i64)) a cap) (hne : 0 < zs.length) : ∃ g,a = some ⟨g,0,none⟩ ∧ Ws w g cap zs := by
 rcases h with ⟨_,_,q⟩ | ⟨g,cur,rfl,hg,h1,h2,h3,h4⟩
 · have : zs = [] := List.map_eq_nil_iff.1 q
   rw [this] at hne; simp at hne
 · refine ⟨g,rfl,cur,hg,by simpa using h1,h2,h3,fun i hi => ?_⟩
   have h5 : (cur.toList.take (zs.map (Value.int .i64)).length)[i]? = some (.int .i64 (zs.getD i 0)) := by
     rw [h4,List.getElem?_map,List.getElem?_eq_getElem hi]; simp [List.getD,hi]
   rw [List.getElem?_take,if_pos (by simpa using hi)] at h5
   simpa using h5
def BoxV (g : Nat) (w : World) (v : Value) : Prop := w.heap[g]? = some (.cells #[v] 31 (0,0))
structure L10Y (c : Cfg) (g1 g2 g3 : Nat) (w : World) : Prop where
 h1 : w.heap[g1]? = some (.cells c.arr 28 (0,0))
 h2 : ∃ v,BoxV g2 w v
 h3 : ∃ v,BoxV g3 w v
def BoxN (g : Nat) (w : World) (x : Int) : Prop := w.heap[g]? = some (.cells #[.int .i64 x] 3 (0,0))
structure L9Y (c : Cfg) (g1 g2 g3 g4 : Nat) (w : World) : Prop where
 h1 : w.heap[g1]? = some (.cells c.arr 28 (0,0))
 h2 : ∃ x,BoxN g2 w x
 h3 : ∃ x,BoxB g3 w x
 h4 : ∃ x,BoxN g4 w x
def row4 (t : V4) : Array Value := #[.int .i64 t.1,.int .i64 t.2.1,.int .i64 t.2.2.1,.int .i64 t.2.2.2]
def Box4 (g : Nat) (w : World) (t : V4) : Prop := w.heap[g]? = some (.cells (row4 t) 39 (0,0))
def put4 (t : V4) (j : Nat) (x : Int) : V4 := if j = 0 then (x,t.2) else if j = 1 then (t.1,x,t.2.2) else if j = 2 then (t.1,t.2.1,x,t.2.2.2) else (t.1,t.2.1,t.2.2.1,x)
theorem row_put (t : V4) {j : Nat} (h : j ≤ 3) (x : Int) : (row4 t).setIfInBounds j (.int .i64 x) = row4 (put4 t j x) := by
 match j,h with
 | 0,_ => rfl
 | 1,_ => rfl
 | 2,_ => rfl
 | 3,_ => rfl
def live11N (us pg st : Int) : Nat → Nat → V4 → Prg V4
 | 0,_,t => bindP (freeP pg st 4) fun f => pureP (put4 t 3 f)
 | m + 1,j,t => bindP (grabP us pg st 4) fun x => live11N us pg st m (j + 1) (put4 t j x.1)
theorem live11_eq (us pg st : Int) (t : V4) : live11N us pg st 3 0 t = live11N us pg st 3 0 (0,0,0,0) := rfl
theorem MidV.own {W wr w2 : World} {F S F' : Nat → Prop} {p n : Nat} {kn : Int → Option Int} {D : List KV} (h : MidV W wr F S p kn n D F') {b : Nat} (hS : b < W.heap.size → S b) (t : Turned (fun k => k = b) wr w2) (nF : ¬ F' b) {cs : Array Value} {ty : TypeId} {fr : Nat × Nat} (hb : wr.heap[b]? = some (.cells cs ty fr)) : MidV W w2 F S p kn n D F' :=
 ⟨h.view.keepS t (fun k q e => nF (e ▸ q)) (fun k es cl e q => by subst e; rw [hb] at q; cases q),h.from',turned_own h.turn t (fun k q => by
     subst q
     rcases Nat.lt_or_ge k W.heap.size with r | r
     · exact .inl (.inr (hS r))
     · exact .inr r),h.inv⟩
theorem sound_live11 (us pg st : Int) : ∀ m j t,Sound (live11N us pg st m j t)
 | 0,_,t => sound_bind (sound_freeP _ _ _) fun _ => sound_pure _
 | m + 1,j,t => sound_bind (sound_grab _ _ _ _) fun x => sound_live11 us pg st m _ _
theorem good_live11 {pg st : Int} {n : Nat} (H : HdIn pg st n) (us : Int) : ∀ m j t,Good n (fun _ => True) (live11N us pg st m j t)
 | 0,_,t => good_bind (good_freeP H _) fun _ _ => good_pure n trivial
 | m + 1,j,t => good_bind (good_grab H _ _) fun x _ => good_live11 H us m _ _
structure L11Y (c : Cfg) (g1 g2 bt : Nat) (w : World) : Prop where
 h1 : w.heap[g1]? = some (.cells c.arr 28 (0,0))
 h2 : ∃ t,Box4 g2 w t
 sz : SzAt bt w
theorem L11Y.keep {c : Cfg} {g1 g2 bt : Nat} {w w' : World} {S : Nat → Prop} (h : L11Y c g1 g2 bt w) (t : Turned S w w') (n1 : ¬ S g1) (n0 : ¬ S 0) (nb : ¬ S bt) (b : ∃ t,Box4 g2 w' t) : L11Y c g1 g2 bt w' :=
 ⟨(t.block g1 (lt_of_heap h.h1) n1).trans h.h1,b,h.sz.keep t n0 nb⟩
theorem live11_clo {c : Cfg} (R : c.Ok) {n : Nat} (H : HdIn c.pg c.st n) (hn : n ≤ 10000) (F : Nat → Prop) (p g1 g2 bt : Nat) (kn : Int → Option Int) (W : World) (hv : ViewAt W F p kn []) (hk : OkK kn) (hY : L11Y c g1 g2 bt W) (n1 : ¬ F g1) (n2 : ¬ F g2) (n0 : ¬ F 0) (nb : ¬ F bt) (hd : g1 ≠ g2 ∧ 0 ≠ g2 ∧ bt ≠ g2) (a0 : V4)
   (ht : ∀ x D,live11N c.us c.pg c.st 3 0 (0,0,0,0) kn [] = .ok x D → x = a0) :
   Calls Tryz.prog 35 #[.pointer (some ⟨p,0,none⟩),.pointer (some ⟨g1,0,none⟩),.pointer (some ⟨g2,0,none⟩)] W (WentY W F (fun b => b = g2) (fun w' => L11Y c g1 g2 bt w') (fun w' => Box4 g2 w' a0) p kn (ranOf (live11N c.us c.pg c.st 3 0 (0,0,0,0) kn []))) := by
 obtain ⟨t0,h2⟩ := hY.h2
 obtain ⟨Rr,hR⟩ : ∃ Rr,live11N c.us c.pg c.st 3 0 (0,0,0,0) kn [] = Rr := ⟨_,rfl⟩
 rw [hR] at ht ⊢
 have hR := (congrFun (congrFun (live11_eq c.us c.pg c.st t0) kn) []).trans hR
 have l1 := lt_of_heap hY.h1
 have l2 := lt_of_heap h2
 have l0 := hY.sz.lt0
 have lb := hY.sz.lt
 have HYY := hQQ hY
 have HK := hQQ hk
 have HR := hQQ R
 have HH := hQQ H
 have M0 : Hid (MidV W W F (fun b => b = g2) p kn n [] F) := hQQ (MidV.begin hv (invD_nil n))
 have B0 : Hid (Box4 g2 W t0) := hQQ h2
 have nf2 : ∀ D wr {F'},MidV W wr F (fun b => b = g2) p kn n D F' → ¬ F' g2 := fun D wr F' h => h.off l2 n2
 have KY : Hid (∀ wr,Turned (fun b => F b ∨ b = g2) W wr → (∃ t,Box4 g2 wr t) → L11Y c g1 g2 bt wr) := hQQ fun wr t b => hY.keep t (by rintro (q | q); exact n1 q; exact hd.1 q) (by rintro (q | q); exact n0 q; exact hd.2.1 q) (by rintro (q | q); exact nb q; exact hd.2.2 q) b
 have KL : Hid (∀ wr D' F',MidV W wr F (fun b => b = g2) p kn n D' F' → wr.heap[g1]? = some (.cells c.arr 28 (0,0)) ∧ SzAt bt wr ∧ ¬ F' 0 ∧ ¬ F' bt) := hQQ fun wr D' F' h => ⟨mid_own h hY.h1 n1 (fun q => hd.1 q),hY.sz.keep h.turn (by rintro (q | q); exact n0 q; exact hd.2.1 q) (by rintro (q | q); exact nb q; exact hd.2.2 q),h.off l0 n0,h.off lb nb⟩
 have NEED : Hid (∀ a w2 t,Rr = .need a → DeadAt w2 p a → Turned (fun b => F b ∨ b = g2) W w2 → Box4 g2 w2 t → WentY W F (fun b => b = g2) (fun w' => L11Y c g1 g2 bt w') (fun w' => Box4 g2 w' a0) p kn (ranOf Rr) (.panicked (endOf p)) w2) := hQQ fun a w2 t e hd' ht' b =>
   wy_need (ranOf_need e) hd' ht' (KY.out _ ht' ⟨t,b⟩)
 have DONE : Hid (∀ x w2 D F',Rr = .ok x D → MidV W w2 F (fun b => b = g2) p kn n D F' → Box4 g2 w2 x → WentY W F (fun b => b = g2) (fun w' => L11Y c g1 g2 bt w') (fun w' => Box4 g2 w' a0) p kn (ranOf Rr) (.returned (.tuple #[])) w2) := hQQ fun x w2 D F' e h b => by
   have := ht x D e
   subst this
   exact wy_done h (ranOf_ok e) (KY.out _ h.turn ⟨_,b⟩) b
 have HRr := hQQ hR
 have HN := hQQ hn
 clear hv hk hY R H hR ht h2 n1 n0 nb hn
 go_enter Tryz.func35,Tryz.ntmps35
 go_wp2_with fail
 go_loopw [4] (fun i wr => ∃ (j : Nat) (t : V4) (D : List KV) (F' : Nat → Prop),i = .int .i64 (j : Int) ∧ j ≤ 3 ∧ MidV W wr F (fun b => b = g2) p kn n D F' ∧ Box4 g2 wr t ∧ live11N c.us c.pg c.st (3 - j) j t kn D = Rr) (fun i _ => (3 - (intOf i)).toNat)
 case atStart => exact ⟨0,t0,[],F,rfl,by omega,M0.out,B0.out,HRr.out⟩
 case round =>
   obtain ⟨j,t,D1,F1,rfl,hj,M1',B1',E1'⟩ := hrel
   have M1 := hQQ M1'
   have B1 := hQQ B1'
   have L1 := hQQ (KL.out _ _ _ M1')
   by_cases h3 : j = 3
   · subst h3
     have E1 := hQQ (show bindP (freeP c.pg c.st 4) (fun f => pureP (put4 t 3 f)) kn D1 = Rr from E1')
     clear M1' B1' E1' hj
     go_wp2_with (refine wpList_load_rowG rfl 28 _ rfl _ rfl 28 _ _ _ L1.out.1 Tryz.underlying28 rfl (by kernel_rfl) ?_)
     refine (g_Free HR.out HH.out HN.out F1 p kn D1 4 wr M1.out.view HK.out M1.out.inv bt L1.out.2.1 L1.out.2.2.1 L1.out.2.2.2).mono ?_
     intro e w3 he
     rcases M1.out.step (More.refl _) HK.out (good_freeP HH.out _) he with ⟨a',hE,rfl,hd',ht',hk'⟩ | ⟨x3,D3,F3,hE,rfl,M3',hq3,hk',hf'⟩
     · exact ⟨rfl,NEED.out a' w3 _ (E1.out.symm.trans (bindP_need hE)) hd' ht' (hk' _ _ (nf2 _ _ M1.out) B1.out)⟩
     have B3 : Hid (Box4 g2 w3 t) := hQQ (hk' _ _ (nf2 _ _ M1.out) B1.out)
     have E3 := hQQ ((bindP_ok hE).symm.trans E1.out)
     have M3 := hQQ M3'
     clear he hE hk' hf' M3' hq3
     go_wp2_with (refine wpList_store_int rfl 3 _ _ rfl rfl g2 3 rfl x3 rfl (row4 t) _ B3.out (by simp [row4]) (by kernel_rfl) ?_; rw [row_put t (by omega)]; intro w4 hb4 ht4; have B4 : Hid (Box4 g2 w4 (put4 t 3 x3)) := hQQ hb4; have M4 := hQQ (M3.out.own (fun _ => rfl) ht4 (nf2 _ _ M3.out) B3.out); clear hb4 ht4)
     go_end0
     exact DONE.out _ _ _ _ E3.out.symm M4.out B4.out
   · rcases (show j = 0 ∨ j = 1 ∨ j = 2 by omega) with rfl | rfl | rfl
     · skip
       have E1 := hQQ (show bindP (grabP c.us c.pg c.st 4) (fun x => live11N c.us c.pg c.st 2 1 (put4 t 0 x.1)) kn D1 = Rr from E1')
       clear M1' B1' E1' hj h3
       go_wp2_with (refine wpList_load_rowG rfl 28 _ rfl _ rfl 28 _ _ _ L1.out.1 Tryz.underlying28 rfl (by kernel_rfl) ?_)
       refine (g_Grab HR.out HH.out HN.out F1 p kn D1 4 wr M1.out.view HK.out M1.out.inv bt L1.out.2.1 L1.out.2.2.1 L1.out.2.2.2).mono ?_
       intro e w3 he
       rcases M1.out.step (More.refl _) HK.out (good_grab HH.out _ _) he with ⟨a',hE,rfl,hd',ht',hk'⟩ | ⟨⟨x3,ok3⟩,D3,F3,hE,rfl,M3',hq3,hk',hf'⟩
       · exact ⟨rfl,NEED.out a' w3 _ (E1.out.symm.trans (bindP_need hE)) hd' ht' (hk' _ _ (nf2 _ _ M1.out) B1.out)⟩
       have B3 : Hid (Box4 g2 w3 t) := hQQ (hk' _ _ (nf2 _ _ M1.out) B1.out)
       have E3 := hQQ ((bindP_ok hE).symm.trans E1.out)
       have M3 := hQQ M3'
       clear he hE hk' hf' M3' hq3
       go_wp2_with (refine wpList_store_int rfl 3 _ _ rfl rfl g2 0 rfl x3 rfl (row4 t) _ B3.out (by simp [row4]) (by kernel_rfl) ?_; rw [row_put t (by omega)]; intro w4 hb4 ht4; have B4 : Hid (Box4 g2 w4 (put4 t 0 x3)) := hQQ hb4; have M4 := hQQ (M3.out.own (fun _ => rfl) ht4 (nf2 _ _ M3.out) B3.out); clear hb4 ht4)
       refine ⟨⟨1,put4 t 0 x3,D3,F3,rfl,by omega,M4.out,B4.out,E3.out⟩,?_⟩
       simp [intOf]
     · skip
       have E1 := hQQ (show bindP (grabP c.us c.pg c.st 4) (fun x => live11N c.us c.pg c.st 1 2 (put4 t 1 x.1)) kn D1 = Rr from E1')
       clear M1' B1' E1' hj h3
       go_wp2_with (refine wpList_load_rowG rfl 28 _ rfl _ rfl 28 _ _ _ L1.out.1 Tryz.underlying28 rfl (by kernel_rfl) ?_)
       refine (g_Grab HR.out HH.out HN.out F1 p kn D1 4 wr M1.out.view HK.out M1.out.inv bt L1.out.2.1 L1.out.2.2.1 L1.out.2.2.2).mono ?_
       intro e w3 he
       rcases M1.out.step (More.refl _) HK.out (good_grab HH.out _ _) he with ⟨a',hE,rfl,hd',ht',hk'⟩ | ⟨⟨x3,ok3⟩,D3,F3,hE,rfl,M3',hq3,hk',hf'⟩
       · exact ⟨rfl,NEED.out a' w3 _ (E1.out.symm.trans (bindP_need hE)) hd' ht' (hk' _ _ (nf2 _ _ M1.out) B1.out)⟩
       have B3 : Hid (Box4 g2 w3 t) := hQQ (hk' _ _ (nf2 _ _ M1.out) B1.out)
       have E3 := hQQ ((bindP_ok hE).symm.trans E1.out)
       have M3 := hQQ M3'
       clear he hE hk' hf' M3' hq3
       go_wp2_with (refine wpList_store_int rfl 3 _ _ rfl rfl g2 1 rfl x3 rfl (row4 t) _ B3.out (by simp [row4]) (by kernel_rfl) ?_; rw [row_put t (by omega)]; intro w4 hb4 ht4; have B4 : Hid (Box4 g2 w4 (put4 t 1 x3)) := hQQ hb4; have M4 := hQQ (M3.out.own (fun _ => rfl) ht4 (nf2 _ _ M3.out) B3.out); clear hb4 ht4)
       refine ⟨⟨2,put4 t 1 x3,D3,F3,rfl,by omega,M4.out,B4.out,E3.out⟩,?_⟩
       simp [intOf]
     · skip
       have E1 := hQQ (show bindP (grabP c.us c.pg c.st 4) (fun x => live11N c.us c.pg c.st 0 3 (put4 t 2 x.1)) kn D1 = Rr from E1')
       clear M1' B1' E1' hj h3
       go_wp2_with (refine wpList_load_rowG rfl 28 _ rfl _ rfl 28 _ _ _ L1.out.1 Tryz.underlying28 rfl (by kernel_rfl) ?_)
       refine (g_Grab HR.out HH.out HN.out F1 p kn D1 4 wr M1.out.view HK.out M1.out.inv bt L1.out.2.1 L1.out.2.2.1 L1.out.2.2.2).mono ?_
       intro e w3 he
       rcases M1.out.step (More.refl _) HK.out (good_grab HH.out _ _) he with ⟨a',hE,rfl,hd',ht',hk'⟩ | ⟨⟨x3,ok3⟩,D3,F3,hE,rfl,M3',hq3,hk',hf'⟩
       · exact ⟨rfl,NEED.out a' w3 _ (E1.out.symm.trans (bindP_need hE)) hd' ht' (hk' _ _ (nf2 _ _ M1.out) B1.out)⟩
       have B3 : Hid (Box4 g2 w3 t) := hQQ (hk' _ _ (nf2 _ _ M1.out) B1.out)
       have E3 := hQQ ((bindP_ok hE).symm.trans E1.out)
       have M3 := hQQ M3'
       clear he hE hk' hf' M3' hq3
       go_wp2_with (refine wpList_store_int rfl 3 _ _ rfl rfl g2 2 rfl x3 rfl (row4 t) _ B3.out (by simp [row4]) (by kernel_rfl) ?_; rw [row_put t (by omega)]; intro w4 hb4 ht4; have B4 : Hid (Box4 g2 w4 (put4 t 2 x3)) := hQQ hb4; have M4 := hQQ (M3.out.own (fun _ => rfl) ht4 (nf2 _ _ M3.out) B3.out); clear hb4 ht4)
       refine ⟨⟨3,put4 t 2 x3,D3,F3,rfl,by omega,M4.out,B4.out,E3.out⟩,?_⟩
       simp [intOf]
def live2 : Cfg := ⟨2,2,2,2,0,0,1,2,0,0,2⟩
theorem live2_ok : live2.Ok := by constructor <;> decide
theorem live2_words : live2.words = (320 : Nat) := by decide
theorem live2_us : live2.us = 256 := by decide
theorem live2_hd : HdIn live2.pg live2.st 320 := { st1 := by decide,st2 := by decide,pg1 := by decide,pg2 := by decide,top := by decide,top5 := by decide,top62 := by decide }
def liveS11 : Cfg := ⟨withinV 0 1 64,withinV 0 1 8,withinV 0 1 256,withinV 0 1 64,withinV 0 0 16,withinV 0 0 64,withinV 0 1 1099511627776,withinV 0 1 8,withinV 0 0 8,withinV 0 0 16,withinV 0 1 8⟩
theorem liveS11_ok : liveS11.Ok := some_ok 0 0 0 0 0 0 0 0 0 0 0
theorem liveS11_is : smallC liveS11 = live2 := by rfl
def live11D : List KV := [(5,1),(6,5),(7,5),(8,0),(9,1),(10,3),(11,1),(12,0),(13,0),(14,0),(15,0),(76,2)]
theorem live11_run : live11N live2.us live2.pg live2.st 3 0 (0,0,0,0) (allK (zeros 320)) [] = .ok (256,272,288,1) live11D := by kernel_rfl
theorem live11_ends : ∃ K',doP (fun K => ranOf (live11N live2.us live2.pg live2.st 3 0 (0,0,0,0) (look K) [])) (zeros 320) ((zeros 320).length + 1) [] = some (applyD (zeros 320) live11D,K') := by
 have H : HdIn live2.pg live2.st (zeros 320).length := by rw [zeros_len]; exact live2_hd
 obtain ⟨K',_,h⟩ := doP_run (sound_live11 _ _ _ _ _ _) (good_live11 H _ _ _ _) (okW_zeros 320) live11_run ((zeros 320).length + 1) [] (okKn_nil _) (by simp)
 exact ⟨K',h⟩
theorem live11_do (w : World) (g1 g2 bt : Nat) (a : Option Addr) (cap : Nat) (hY : L11Y live2 g1 g2 bt w) (hd : g1 ≠ g2 ∧ 0 ≠ g2 ∧ bt ≠ g2) (hz : IsWords w a (zeros 320)) :
   Calls Tryz.prog 10 #[.slice a 320 cap,.func (.func 35) #[] #[.pointer (some ⟨g1,0,none⟩),.pointer (some ⟨g2,0,none⟩)]] w (fun e w' => ∃ v1 v2,e = .returned (.tuple #[v1,v2,.int .i64 0]) ∧ Rw w.heap.size w' v1 (applyD (zeros 320) live11D) ∧ w'.heap[g1]? = some (.cells live2.arr 28 (0,0)) ∧ Box4 g2 w' (256,272,288,1) ∧ Turned (fun b => b = g2) w w') := by
 have hl : (zeros 320).length = 320 := zeros_len 320
 obtain ⟨K',hK'⟩ := live11_ends
 have l1 := lt_of_heap hY.h1
 have l2 : g2 < w.heap.size := by obtain ⟨x,h⟩ := hY.h2; exact lt_of_heap h
 have l0 := hY.sz.lt0
 have lb := hY.sz.lt
 have H : HdIn live2.pg live2.st (zeros 320).length := by rw [hl]; exact live2_hd
 have M := doY_ok a cap (zeros 320) (fun K => ranOf (live11N live2.us live2.pg live2.st 3 0 (0,0,0,0) (look K) [])) (some (applyD (zeros 320) live11D,K')) (zeros 320).length w hz (by omega) (okW_zeros _) (fine_of (good_live11 H _ _ _ _) (okW_zeros _) (by omega)) (by omega) hK' 35 #[.pointer (some ⟨g1,0,none⟩),.pointer (some ⟨g2,0,none⟩)] (fun b => b = g2)
   (fun w' => L11Y live2 g1 g2 bt w') (fun w' => Box4 g2 w' (256,272,288,1))
   (fun k q => by subst q; exact l2)
   (fun w' w'' y t => y.keep t (by omega) (by omega) (by omega) (by obtain ⟨z,q⟩ := y.h2; exact ⟨z,(t.block g2 (lt_of_heap q) (by omega)).trans q⟩))
   (fun w' w'' y t => (t.block g2 (lt_of_heap y) (by omega)).trans y) hY (enters_of Tryz.func35 (by kernel_rfl) rfl)
   (fun K hK W F p t y hv hF => live11_clo live2_ok live2_hd (by omega) F p g1 g2 bt (look K) W hv (okK_of hK (okW_zeros _)) y (fun q => by have := hF _ q; omega) (fun q => by have := hF _ q; omega) (fun q => by have := hF _ q; omega) (fun q => by have := hF _ q; omega) hd (256,272,288,1)
     (fun x D e => (sound_same (sound_live11 _ _ _ _ _ _) hK live11_run e).1))
 rw [hl] at M
 refine M.mono ?_
 rintro e w' ⟨v1,v2,rfl,r1,_,t,y,x⟩
 exact ⟨v1,v2,rfl,r1,y.h1,x,t⟩
theorem lives11_ok (bt : Nat) (w : World) (hs : SzAt bt w) : Calls Tryz.prog 6 #[] w (Gives w (.bool true)) := by
 have SM := hQQ (small_any liveS11_ok 0 0 0 0 0 0 0 0 0 0 0 _ w (fun W => some_any 0 0 0 0 0 0 0 0 0 0 0 W (by omega) (by omega) (by omega) (by omega) (by omega) (by omega) (by omega) (by omega) (by omega) (by omega) (by omega)) rfl)
 have D0 : Hid ((smallC liveS11).cells.setIfInBounds 2 (.int .i64 2) = live2.cells) := hQQ (by rw [liveS11_is]; rfl)
 generalize smallC liveS11 = d at SM D0
 have R5 := hQQ live2_ok
 have hc4 := cells_one d
 have HS := hQQ hs
 have l0 := hs.lt0
 have lb := hs.lt
 clear hs
 go_enter Tryz.func6,Tryz.ntmps6
 go_wp2_with fail
 refine (SM.out).mono ?_
 rintro e w1 ⟨rfl,m1⟩
 have MA := hQQ m1
 have hs1 := m1.size
 have C2 := row_new w1 #[.int .i64 0,.int .i64 0,.int .i64 0,.int .i64 0,.int .i64 0,.int .i64 0,.int .i64 0,.int .i64 0,.int .i64 0,.int .i64 0,.int .i64 0] 23
 clear m1 SM
 go_wp2_with (first
   | (refine wpList_store_row rfl 23 _ _ rfl w1.heap.size d.cells rfl rfl 23 _ C2 (by kernel_rfl) rfl hc4 ?_; have C3 := setRow_heap _ _ _ d.cells _ _ C2; have M5 : Hid (More w ((w1.alloc (.cells #[.int .i64 0,.int .i64 0,.int .i64 0,.int .i64 0,.int .i64 0,.int .i64 0,.int .i64 0,.int .i64 0,.int .i64 0,.int .i64 0,.int .i64 0] 23)).setRow w1.heap.size d.cells)) := hQQ ((MA.out.alloc _).setRow _ _ hs1); generalize World.setRow _ _ _ = w5 at C3 M5 ⊢; clear C2)
   | (refine wpList_store_int rfl 3 _ _ rfl rfl w1.heap.size 2 rfl 2 rfl _ _ C3 (by simp [Cfg.cells]) (by kernel_rfl) ?_; rw [D0.out]; intro w6 hb6 ht6; have HB := hQQ hb6; have HM : Hid (More w w6) := hQQ (Turned.mono (turned_own (F:=fun _ => False) M5.out ht6 (fun k q => .inr (by omega))) (fun _ _ q => q)); clear hb6 ht6)
   | (refine wpList_load_row rfl 23 _ rfl w1.heap.size rfl 23 _ _ _ HB.out Tryz.underlying23 rfl (by kernel_rfl) ?_))
 refine (y_of R5.out _).mono ?_
 rintro e w7 ⟨rfl,m7⟩
 have D1 := row_new w7 zero24 28
 have D2 := setRow_heap (w7.alloc (.cells zero24 28)) w7.heap.size _ live2.arr _ _ D1
 have M7 := HM.out.trans m7
 have M8 : More w ((w7.alloc (.cells zero24 28)).setRow w7.heap.size live2.arr) := (M7.alloc _).setRow _ _ M7.size
 have s8 : ((w7.alloc (.cells zero24 28)).setRow w7.heap.size live2.arr).heap.size = w7.heap.size + 1 := by simp
 have hs7 := M7.size
 have D1 := hQQ D1
 obtain ⟨w8,e8⟩ : ∃ w8,(w7.alloc (.cells zero24 28)).setRow w7.heap.size live2.arr = w8 := ⟨_,rfl⟩
 rw [e8] at D2 M8 s8
 obtain ⟨w9,e9,ha,m9,s9⟩ := entry1 w8 (.cells (row4 (0,0,0,0)) 39)
 simp only [row4] at e9
 have M13 := hQQ (M8.trans m9)
 have HD := hQQ (m9.block D2)
 have HA : Hid (Box4 w8.heap.size w9 (0,0,0,0)) := hQQ ha
 have l7 : w7.heap.size < w8.heap.size := by omega
 clear m7 HM HB C3 M5 M7 M8 ha m9 hc4 D2 s8
 go_wp2_with (first
   | (refine wpList_store_row rfl 28 _ _ rfl w7.heap.size live2.arr rfl rfl 28 _ D1.out (by kernel_rfl) rfl (arr_one live2) ?_)
   | (refine wpList_load_row rfl 28 _ rfl w7.heap.size rfl 28 _ _ _ HD.out Tryz.underlying28 rfl (by kernel_rfl) ?_))
 refine (y_words R5.out _).mono ?_
 rw [live2_words]
 rintro e w14 ⟨rfl,m14⟩
 obtain ⟨w15,hmk,N1,m15,s15⟩ : ∃ w15,(Instr.makeSlice 31 (.int .i64 320) (.int .i64 320)).run Tryz.prog w14 = .ok (.slice (some ⟨w14.heap.size,0,none⟩) 320 320) w15 ∧ w15.heap[w14.heap.size]? = some (.cells (rowOf (zeros 320)) 3 (0,0)) ∧ More w14 w15 ∧ w15.heap.size = w14.heap.size + 1 :=
   ⟨_,run_make_zeros 320 (by omega) w14,row_new w14 _ _,(More.refl _).alloc _,by simp⟩
 have mm := m14.trans m15
 have M15 := hQQ (M13.out.trans mm)
 have DO := hQQ (live11_do w15 w7.heap.size w8.heap.size bt (some ⟨w14.heap.size,0,none⟩) 320 ⟨mm.block HD.out,⟨_,mm.block HA.out⟩,HS.out.more M15.out⟩ ⟨by omega,by omega,by omega⟩ (zeros_row _ _ _ N1))
 have hw8 : w.heap.size ≤ w8.heap.size := by omega
 clear m14 m15 mm N1 s15 HD HA M13 e8 e9 D1 s9
 go_wp2_with fail
 refine DO.out.mono ?_
 rintro e w16 ⟨v1,v2,rfl,hr,h1,hx,ht⟩
 have L1 := hQQ h1
 have HX := hQQ hx
 have c0 : w16.cell? ⟨w8.heap.size,0,none⟩ = some (.int .i64 256) := cell_more (j:=0) hx (More.refl _) rfl
 have c1 : w16.cell? ⟨w8.heap.size,1,none⟩ = some (.int .i64 272) := cell_more (j:=1) hx (More.refl _) rfl
 have c2 : w16.cell? ⟨w8.heap.size,2,none⟩ = some (.int .i64 288) := cell_more (j:=2) hx (More.refl _) rfl
 have c3 : w16.cell? ⟨w8.heap.size,3,none⟩ = some (.int .i64 1) := cell_more (j:=3) hx (More.refl _) rfl
 have FIN := hQQ (Turned.mono (turned_own (F:=fun _ => False) M15.out ht (fun k q => .inr (by omega))) (fun _ _ q => q))
 have US : Hid (∀ W,Calls Tryz.prog 36 #[.agg live2.arr] W (Gives W (.int .i64 256))) := hQQ fun W => by rw [← live2_us]; exact xuser R5.out W
 clear hr h1 hx ht DO M15
 go_wp2_with fail
 refine wp_region_more (by kernel_rfl) (by kernel_rfl) ?_
 iterate 9
   with_reducible refine wpQuiet_step (fun K hK => ?_)
   go_simp
   first
   | (refine hK _ ?_; clear hK K)
   | (apply Exists.intro
      refine ⟨fun W hW => ?_,hK _ ?_⟩
      first
      | (have c0' := hW.cell c0; go_simp; try rfl)
      clear hK K)
 refine wpQuiet_load_row rfl 28 _ rfl _ rfl 28 _ _ _ (fun W hW => hW.block L1.out) Tryz.underlying28 rfl (by kernel_rfl) ?_
 iterate 1
   with_reducible refine wpQuiet_step (fun K hK => ?_)
   go_simp
   first
   | (refine hK _ ?_; clear hK K)
   | (apply Exists.intro
      refine ⟨fun W hW => ?_,hK _ ?_⟩
      first
      | (go_at_call 36; exact Calls.more hW (US.out W))
      | (go_simp; try rfl)
      clear hK K)
 iterate 24
   with_reducible refine wpQuiet_step (fun K hK => ?_)
   go_simp
   first
   | (refine hK _ ?_; clear hK K)
   | (apply Exists.intro
      refine ⟨fun W hW => ?_,hK _ ?_⟩
      first
      | (have c0' := hW.cell c0; have c1' := hW.cell c1; have c2' := hW.cell c2; have c3' := hW.cell c3; go_simp; try rfl)
      clear hK K)
 refine wpQuiet_nil ?_
 intro w4 m4
 have F17 := hQQ (FIN.out.trans m4)
 clear m4
 go_wp2_with fail
 go_ret
 exact ⟨rfl,F17.out⟩
end Go.Proofs.YtflihdcliknggaaGreatDoor
