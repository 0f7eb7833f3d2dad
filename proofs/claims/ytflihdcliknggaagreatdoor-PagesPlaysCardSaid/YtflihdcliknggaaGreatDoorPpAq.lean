/-
  Words behind pages' calls: which pages are of which class, which of their blocks are taken, and in which list each is.
-/
import Derived.Test.YtflihdcliknggaaGreatDoorPpAp
import Derived.Test.YtflihdcliknggaaGreatDoorPpAe
import Derived.Test.YtflihdcliknggaaGreatDoorPpAo
import Derived.Test.YtflihdcliknggaaGreatDoorPpAh
set_option maxRecDepth 100000
set_option maxHeartbeats 8000000
set_option linter.unusedVariables false
set_option linter.unusedSimpArgs false
set_option linter.unusedSectionVars false
namespace Go.Proofs.YtflihdcliknggaaGreatDoor
theorem bit_zero (j : Nat) : bitB 0 j = false := by simp [bitB,bvOf]
theorem endN_slots {k : Int} : ((endN (slotsC k) : Nat) : Int) = slotsC k := by
 have := slots_in k
 unfold endN; omega
theorem open_zero (k : Int) : openV k 0 = slotsC k := by
 have : onN 0 (endN (slotsC k)) = [] := List.filter_eq_nil_iff.2 (fun j _ => by rw [bit_zero]; simp)
 unfold openV slCountV
 rw [this]; simp
theorem open_set {b k : Int} {j : Nat} (hj : (j : Int) < slotsC k) (hb : bitB b j = false) : openV k (setV b (j : Int)) = openV k b - 1 := by
 have hs := slots_in k
 have he := endN_slots (k:=k)
 have := on_set (w:=b) (i:=(j : Int)) (inR_nat (by omega)) (by simpa using hb) (endN (slotsC k)) (endN_le _)
 rw [if_pos (by omega)] at this
 unfold openV slCountV
 omega
theorem first_open {b k : Int} (h : 1 ≤ openV k b) : ∃ j : Nat,slFirstV b (slotsC k) = (j : Int) ∧ (j : Int) < slotsC k ∧ bitB b j = false ∧ openV k (setV b (j : Int)) = openV k b - 1 := by
 have he := endN_slots (k:=k)
 rcases offN_ways b (endN (slotsC k)) with ⟨_,ha⟩ | ⟨j,hj,e,hb,_⟩
 · have := on_all ha
   unfold openV slCountV at h
   omega
 · exact ⟨j,e,by omega,hb,open_set (by omega) hb⟩
theorem first_zero {k : Int} (h : slotsC k ≠ 0) : slFirstV 0 (slotsC k) = 0 := by
 have hs := slots_in k
 have he := endN_slots (k:=k)
 exact offN_some (w:=0) (k:=endN (slotsC k)) (j:=0) (by omega) (bit_zero 0) (fun i hi => by omega)
theorem open_clear {b k i : Int} (hw : W64 b) (h0 : 0 ≤ i) (h1 : i < slotsC k) (h : hasB b i = true) : openV k (clearV b i) = openV k b + 1 := by
 have hs := slots_in k
 have hi : inR i = true := (inR_iff i).2 ⟨h0,by omega⟩
 obtain ⟨j,rfl⟩ : ∃ j : Nat,i = (j : Int) := ⟨i.toNat,by omega⟩
 have hb : bitB (clearV b (j : Int)) j = false := by
   have := has_clear (w:=b) hi
   unfold hasB at this
   rw [hi] at this
   simpa using this
 have e := open_set (b:=clearV b (j : Int)) (k:=k) h1 hb
 rw [set_clear hw.1 hw.2 hi h] at e
 omega
def NoL (pg st i : Int) : Prop := ¬ isHd pg st i ∧ ∀ p,isPage pg p = true → i ≠ nA pg st p ∧ i ≠ vA pg st p
section
variable {pg st : Int} {n : Nat} (H : HdIn pg st n)
include H
theorem noL_k {q : Int} (h : isPage pg q = true) : NoL pg st (kA pg st q) := by
 have := isPage_iff.1 h
 refine ⟨fun z => ?_,fun p hp => ?_⟩
 · unfold isHd headsV kA at z; omega
 · have := isPage_iff.1 hp; unfold kA nA vA; omega
theorem noL_c {q : Int} (h : isPage pg q = true) : NoL pg st (cA pg st q) := by
 have := isPage_iff.1 h
 refine ⟨fun z => ?_,fun p hp => ?_⟩
 · unfold isHd headsV cA at z; omega
 · have := isPage_iff.1 hp; unfold cA nA vA; omega
theorem noL_b {q : Int} (h : isPage pg q = true) : NoL pg st (bA pg st q) := by
 have := isPage_iff.1 h
 refine ⟨fun z => ?_,fun p hp => ?_⟩
 · unfold isHd headsV bA at z; omega
 · have := isPage_iff.1 hp; unfold bA nA vA; omega
theorem noL_t {j : Int} (h : isChunk pg j = true) : NoL pg st (tblV pg st j) := by
 have := isChunk_iff.1 h
 have h1 := H.pg1
 rw [tbl_in h]
 refine ⟨fun z => ?_,fun p hp => ?_⟩
 · unfold isHd headsV at z; omega
 · have := isPage_iff.1 hp; unfold nA vA; omega
theorem LOff.kind {a b : List Int} (o : LOff pg st a b) (p : Int) : kindV pg st b p = kindV pg st a p := by
 cases h : isPage pg p with
 | false => rw [kind_out h,kind_out h]
 | true =>
   have h0 := (page_b H.toPgIn h).1.1
   rw [kind_in h,kind_in h,o.off _ (by omega) (noL_k H h).1 (noL_k H h).2]
theorem LOff.cnt {a b : List Int} (o : LOff pg st a b) {p : Int} (h : isPage pg p = true) : cntV pg st b p = cntV pg st a p :=
 o.off _ (page_c H h).1.1 (noL_c H h).1 (noL_c H h).2
theorem LOff.bit {a b : List Int} (o : LOff pg st a b) {p : Int} (h : isPage pg p = true) : bitV pg st b p = bitV pg st a p :=
 o.off _ (page_c H h).2.1 (noL_b H h).1 (noL_b H h).2
theorem LOff.map {a b : List Int} (o : LOff pg st a b) (j : Int) : mappedV pg st b j = mappedV pg st a j := by
 unfold mappedV
 cases h : isChunk pg j with
 | false => rfl
 | true =>
   have h0 := (tbl_b H.toTblIn h).1
   rw [o.off _ (by omega) (noL_t H h).1 (noL_t H h).2]
theorem Ln.same {G : Int → List Int} {a b : List Int} (L : Ln pg st G a) (h : ∀ i,0 ≤ i → ¬ NoL pg st i → wAt b i = wAt a i) : Ln pg st G b := by
 have hh : ∀ i,isHd pg st i → wAt b i = wAt a i := fun i hi => h i (by have := (hd_b H hi).1; omega) (fun z => z.1 hi)
 have hn : ∀ p,isPage pg p = true → wAt b (nA pg st p) = wAt a (nA pg st p) ∧ wAt b (vA pg st p) = wAt a (vA pg st p) := fun p hp =>
   ⟨h _ (by have := (nv_b H hp).1.1; omega) (fun z => (z.2 p hp).1 rfl),h _ (by have := (nv_b H hp).2.1; omega) (fun z => (z.2 p hp).2 rfl)⟩
 refine ⟨fun i hi => by rw [hh i hi]; exact L.head i hi,L.page,L.nodup,L.apart,fun i p hi hp => ?_,fun i p hi hp => ?_,fun p hp hf => ?_⟩
 · rw [(hn p (L.page i hi p hp)).1]; exact L.next i p hi hp
 · rw [(hn p (L.page i hi p hp)).2]; exact L.prev i p hi hp
 · rw [(hn p hp).1,(hn p hp).2]; exact L.free p hp hf
structure Mod (pg st : Int) (n : Nat) (q f' : Int) (T : List Int → List Int) : Prop where
 len : ∀ a,a.length = n → (T a).length = n
 off : ∀ a b,a.length = n → b.length = n → LOff pg st a b → LOff pg st (T a) (T b)
 no : ∀ a,a.length = n → ∀ i,0 ≤ i → ¬ NoL pg st i → wAt (T a) i = wAt a i
 cnt : ∀ a,a.length = n → cntV pg st (T a) q = f'
def setsW (pg st q b f : Int) (ws : List Int) : List Int := (ws.set (bA pg st q).toNat b).set (cA pg st q).toNat f
theorem sets_at {q : Int} (h : isPage pg q = true) (b f : Int) {ws : List Int} (hn : ws.length = n) {i : Int} (hi : 0 ≤ i) : wAt (setsW pg st q b f ws) i = if i = cA pg st q then f else if i = bA pg st q then b else wAt ws i := by
 obtain ⟨⟨b0,b1,_⟩,c0,c1,_⟩ := page_c H h
 unfold setsW
 rw [wAt_set b0 hi (by simp [hn]; exact b1),wAt_set c0 hi (by rw [hn]; exact c1)]
theorem mod_sets {q : Int} (h : isPage pg q = true) (b f : Int) : Mod pg st n q f (setsW pg st q b f) := by
 refine ⟨fun a e => by simp [setsW,e],fun a a' e e' o => ⟨by simp [setsW,e,e'],fun i h0 h1 h2 => ?_⟩,fun a e i h0 h1 => ?_,fun a e => ?_⟩
 · rw [sets_at H h b f e' h0,sets_at H h b f e h0,o.off i h0 h1 h2]
 · have k1 : i ≠ cA pg st q := fun z => h1 (by rw [z]; exact noL_c H h)
   have k2 : i ≠ bA pg st q := fun z => h1 (by rw [z]; exact noL_b H h)
   rw [sets_at H h b f e h0,if_neg k1,if_neg k2]
 · show wAt (setsW pg st q b f a) (cA pg st q) = f
   rw [sets_at H h b f e (page_c H h).1.1,if_pos rfl]
theorem mod_put3 {q : Int} (h : isPage pg q = true) (k x : Int) : Mod pg st n q x (put3V pg st q k x) := by
 refine ⟨fun a e => by rw [put3_len H.toPgIn]; exact e,fun a a' e e' o => ⟨by rw [put3_len H.toPgIn,put3_len H.toPgIn,e,e'],fun i h0 h1 h2 => ?_⟩,fun a e i h0 h1 => ?_,fun a e => ?_⟩
 · rw [put3_at H.toPgIn h k x e' h0,put3_at H.toPgIn h k x e h0,o.off i h0 h1 h2]
 · have k1 : i ≠ cA pg st q := fun z => h1 (by rw [z]; exact noL_c H h)
   have k2 : i ≠ bA pg st q := fun z => h1 (by rw [z]; exact noL_b H h)
   have k3 : i ≠ kA pg st q := fun z => h1 (by rw [z]; exact noL_k H h)
   rw [put3_at H.toPgIn h k x e h0,if_neg k2,if_neg k1,if_neg k3]
 · rw [cnt_put3 H.toPgIn h k x e h,if_pos rfl]
def unlG (pg st : Int) (G : Int → List Int) (k f : Int) (s t : List Int) : Int → List Int := if headV pg st k f = 0 then G else updG G (headV pg st k f) (s ++ t)
def lnkG (pg st : Int) (G : Int → List Int) (q k f : Int) : Int → List Int := if headV pg st k f = 0 then G else updG G (headV pg st k f) (q :: G (headV pg st k f))
theorem lnk_ln {q k f : Int} (hq : isPage pg q = true) {G : Int → List Int} {ws : List Int} (L : Ln pg st G ws) (hn : ws.length = n) (hf : ∀ a,isHd pg st a → q ∉ G a) :
   Ln pg st (lnkG pg st G q k f) (plLinkV pg st q k f ws).2 ∧ LOff pg st ws (plLinkV pg st q k f ws).2 := by
 unfold lnkG
 by_cases hz : headV pg st k f = 0
 · have e : plLinkV pg st q k f ws = (false,ws) := by unfold plLinkV; exact if_neg (fun z => z.1 hz)
   rw [if_pos hz,e]
   exact ⟨L,LOff.refl _ _ _⟩
 · rw [if_neg hz]
   exact link_ln H L hn hz hq hf
theorem unl_ln {q k f : Int} {G : Int → List Int} {s t : List Int} (hin : headV pg st k f ≠ 0 → G (headV pg st k f) = s ++ q :: t ∧ q ∉ s) {ws : List Int} (L : Ln pg st G ws) (hn : ws.length = n) :
   Ln pg st (unlG pg st G k f s t) (plUnlinkV pg st q k f ws).2 ∧ LOff pg st ws (plUnlinkV pg st q k f ws).2 := by
 unfold unlG
 by_cases hz : headV pg st k f = 0
 · rw [if_pos hz,unlink_no H L (fun _ z => absurd hz z)]
   exact ⟨L,LOff.refl _ _ _⟩
 · rw [if_neg hz]
   obtain ⟨h1,h2⟩ := hin hz
   exact (unlink_ln H L hn hz h1 h2).2
theorem moved {q k f f' : Int} {T : List Int → List Int} (M : Mod pg st n q f' T) (hq : isPage pg q = true) {G : Int → List Int} {ws : List Int} (L : Ln pg st G ws) (hn : ws.length = n)
   (hin : ∀ a,isHd pg st a → (q ∈ G a ↔ headV pg st k f = a)) :
   ∃ G1 G2,Ln pg st G1 (plUnlinkV pg st q k f ws).2 ∧ LOff pg st ws (plUnlinkV pg st q k f ws).2 ∧ (plUnlinkV pg st q k f ws).2.length = n ∧ (∀ a,isHd pg st a → q ∉ G1 a) ∧
     Ln pg st G2 (movesV pg st q k f (T ws)) ∧ LOff pg st (T ws) (movesV pg st q k f (T ws)) ∧
     (plLinkV pg st q k f' (T (plUnlinkV pg st q k f ws).2)).2 = movesV pg st q k f (T ws) ∧
     (∀ a p,isHd pg st a → p ≠ q → (p ∈ G2 a ↔ p ∈ G a)) ∧ ∀ a,isHd pg st a → (q ∈ G2 a ↔ headV pg st k f' = a) := by
 obtain ⟨s,t,hst⟩ : ∃ s t,headV pg st k f ≠ 0 → G (headV pg st k f) = s ++ q :: t ∧ q ∉ s := by
   by_cases hz : headV pg st k f = 0
   · exact ⟨[],[],fun z => absurd hz z⟩
   · obtain ⟨s,t,h1,h2⟩ := split_mem ((hin _ (head_hd hz).1).2 rfl)
     exact ⟨s,t,fun _ => ⟨h1,h2⟩⟩
 have m1 : ∀ a,isHd pg st a → q ∉ unlG pg st G k f s t a := fun a ha hm => by
   unfold unlG at hm
   by_cases hz : headV pg st k f = 0
   · rw [if_pos hz] at hm
     have := (hin a ha).1 hm
     rw [hz] at this
     have := (hd_b H ha).1
     omega
   · rw [if_neg hz] at hm
     obtain ⟨h1,h2⟩ := hst hz
     by_cases e : a = headV pg st k f
     · subst e
       rw [updG_at] at hm
       have nd := L.nodup _ (head_hd hz).1
       rw [h1] at nd
       rcases List.mem_append.1 hm with z | z
       · exact h2 z
       · exact (List.nodup_cons.1 (List.nodup_append.1 nd).2.1).1 z
     · rw [updG_ne _ _ _ e] at hm
       exact e ((hin a ha).1 hm).symm
 have m2 : ∀ a p,isHd pg st a → p ≠ q → (p ∈ unlG pg st G k f s t a ↔ p ∈ G a) := fun a p ha hp => by
   unfold unlG
   by_cases hz : headV pg st k f = 0
   · rw [if_pos hz]
   · rw [if_neg hz]
     obtain ⟨h1,h2⟩ := hst hz
     by_cases e : a = headV pg st k f
     · subst e
       rw [updG_at,h1]
       simp [hp]
     · rw [updG_ne _ _ _ e]
 obtain ⟨L1,o1⟩ := unl_ln H hst L hn
 have hB : (T ws).length = n := M.len _ hn
 have LB : Ln pg st G (T ws) := L.same H (M.no ws hn)
 obtain ⟨L2,o2⟩ := unl_ln H hst LB hB
 have n1 : (plUnlinkV pg st q k f ws).2.length = n := o1.len.trans hn
 have n2 : (plUnlinkV pg st q k f (T ws)).2.length = n := o2.len.trans hB
 have ec : cntV pg st (plUnlinkV pg st q k f (T ws)).2 q = f' := by rw [o2.cnt H hq,M.cnt ws hn]
 have em : movesV pg st q k f (T ws) = (plLinkV pg st q k f' (plUnlinkV pg st q k f (T ws)).2).2 := by unfold movesV; rw [ec]
 obtain ⟨L3,o3⟩ := lnk_ln H (k:=k) (f:=f') hq L2 n2 m1
 have LT : Ln pg st (unlG pg st G k f s t) (T (plUnlinkV pg st q k f ws).2) := L1.same H (M.no _ n1)
 obtain ⟨L4,o4⟩ := lnk_ln H (k:=k) (f:=f') hq LT (M.len _ n1) m1
 have oB := o2.trans o3
 have oY := (M.off _ _ hn n1 o1).trans o4
 refine ⟨_,lnkG pg st (unlG pg st G k f s t) q k f',L1,o1,n1,m1,by rw [em]; exact L3,by rw [em]; exact oB,?_,fun a p ha hp => ?_,fun a ha => ?_⟩
 · rw [em]
   exact Ln.uniq L3 L4 (oB.symm.trans oY)
 · rw [← m2 a p ha hp]
   unfold lnkG
   by_cases hz : headV pg st k f' = 0
   · rw [if_pos hz]
   · rw [if_neg hz]
     by_cases e : a = headV pg st k f'
     · subst e; rw [updG_at]; simp [hp]
     · rw [updG_ne _ _ _ e]
 · unfold lnkG
   by_cases hz : headV pg st k f' = 0
   · rw [if_pos hz]
     exact ⟨fun z => absurd z (m1 a ha),fun z => by have := (hd_b H ha).1; omega⟩
   · rw [if_neg hz]
     by_cases e : a = headV pg st k f'
     · subst e; rw [updG_at]; simp
     · rw [updG_ne _ _ _ e]
       exact ⟨fun z => absurd z (m1 a ha),fun z => absurd z.symm e⟩
end
structure PgF (pg st : Int) (G : Int → List Int) (ws : List Int) : Prop where
 kd : ∀ p,isPage pg p = true → 0 ≤ kindV pg st ws p ∧ kindV pg st ws p ≤ 5
 free : ∀ p,isPage pg p = true → kindV pg st ws p = 0 → cntV pg st ws p = 0 ∧ bitV pg st ws p = 0
 map : ∀ p,isPage pg p = true → kindV pg st ws p ≠ 0 → mappedV pg st ws (p / 4) = true
 cnt : ∀ p,isPage pg p = true → 1 ≤ kindV pg st ws p → cntV pg st ws p = openV (kindV pg st ws p - 1) (bitV pg st ws p) ∧ cntV pg st ws p < slotsC (kindV pg st ws p - 1)
 mem : ∀ a p,isHd pg st a → (p ∈ G a ↔ isPage pg p = true ∧ 1 ≤ kindV pg st ws p ∧ headV pg st (kindV pg st ws p - 1) (cntV pg st ws p) = a)
structure PgW (pg st : Int) (G : Int → List Int) (ws : List Int) : Prop where
 ln : Ln pg st G ws
 f : PgF pg st G ws
section
variable {pg st : Int} {n : Nat} (H : HdIn pg st n)
include H
theorem PgF.off {G : Int → List Int} {a b : List Int} (F : PgF pg st G a) (o : LOff pg st a b) : PgF pg st G b := by
 refine ⟨fun p hp => by rw [o.kind H]; exact F.kd p hp,fun p hp => by rw [o.kind H,o.cnt H hp,o.bit H hp]; exact F.free p hp,fun p hp => by rw [o.kind H,o.map H]; exact F.map p hp,fun p hp => by rw [o.kind H,o.cnt H hp,o.bit H hp]; exact F.cnt p hp,fun x p hx => ?_⟩
 rw [F.mem x p hx]
 constructor
 · rintro ⟨h1,h2,h3⟩
   exact ⟨h1,by rw [o.kind H]; exact h2,by rw [o.kind H,o.cnt H h1]; exact h3⟩
 · rintro ⟨h1,h2,h3⟩
   rw [o.kind H] at h2
   rw [o.kind H,o.cnt H h1] at h3
   exact ⟨h1,h2,h3⟩
theorem PgF.turn {G G2 : Int → List Int} {a b : List Int} (F : PgF pg st G a) {q : Int} (hq : isPage pg q = true) {k f c : Int}
   (hk : ∀ p,isPage pg p = true → kindV pg st b p = if p = q then k else kindV pg st a p) (hc : ∀ p,isPage pg p = true → cntV pg st b p = if p = q then f else cntV pg st a p) (hb : ∀ p,isPage pg p = true → bitV pg st b p = if p = q then c else bitV pg st a p)
   (hm : ∀ p,isPage pg p = true → p ≠ q → mappedV pg st a (p / 4) = true → mappedV pg st b (p / 4) = true) (hmq : k ≠ 0 → mappedV pg st b (q / 4) = true)
   (k0 : 0 ≤ k ∧ k ≤ 5) (kf : k = 0 → f = 0 ∧ c = 0) (kc : 1 ≤ k → f = openV (k - 1) c ∧ f < slotsC (k - 1))
   (g1 : ∀ x p,isHd pg st x → p ≠ q → (p ∈ G2 x ↔ p ∈ G x)) (g2 : ∀ x,isHd pg st x → (q ∈ G2 x ↔ 1 ≤ k ∧ headV pg st (k - 1) f = x)) : PgF pg st G2 b := by
 refine ⟨fun p hp => ?_,fun p hp => ?_,fun p hp => ?_,fun p hp => ?_,fun x p hx => ?_⟩
 · rw [hk p hp]; split
   · exact k0
   · exact F.kd p hp
 · rw [hk p hp,hc p hp,hb p hp]; split
   · exact kf
   · exact F.free p hp
 · rw [hk p hp]; split
   · rename_i e; rw [e]; exact hmq
   · rename_i e; exact fun z => hm p hp e (F.map p hp z)
 · rw [hk p hp,hc p hp,hb p hp]; split
   · exact kc
   · exact F.cnt p hp
 · by_cases e : p = q
   · subst e
     rw [g2 x hx,hk p hq,hc p hq,if_pos rfl,if_pos rfl]
     exact ⟨fun z => ⟨hq,z⟩,fun z => z.2⟩
   · rw [g1 x p hx e,F.mem x p hx]
     constructor
     · rintro ⟨h1,h2⟩
       rw [hk p h1,hc p h1,if_neg e,if_neg e]; exact ⟨h1,h2⟩
     · rintro ⟨h1,h2⟩
       rw [hk p h1,hc p h1,if_neg e,if_neg e] at h2; exact ⟨h1,h2⟩
theorem sets_kind {q : Int} (h : isPage pg q = true) (b f : Int) {ws : List Int} (hn : ws.length = n) (p : Int) : kindV pg st (setsW pg st q b f ws) p = kindV pg st ws p := by
 cases hp : isPage pg p with
 | false => rw [kind_out hp,kind_out hp]
 | true =>
   have h0 := (page_b H.toPgIn hp).1.1
   have := isPage_iff.1 h; have := isPage_iff.1 hp
   rw [kind_in hp,kind_in hp,sets_at H h b f hn (by omega),if_neg (by unfold kA cA; omega),if_neg (by unfold kA bA; omega)]
theorem sets_cnt {q : Int} (h : isPage pg q = true) (b f : Int) {ws : List Int} (hn : ws.length = n) {p : Int} (hp : isPage pg p = true) : cntV pg st (setsW pg st q b f ws) p = if p = q then f else cntV pg st ws p := by
 have := isPage_iff.1 h; have := isPage_iff.1 hp
 unfold cntV
 rw [sets_at H h b f hn (page_c H hp).1.1]
 by_cases e : p = q
 · rw [if_pos e,if_pos (by rw [e])]
 · rw [if_neg e,if_neg (by unfold cA; omega),if_neg (by unfold cA bA; omega)]
theorem sets_bit {q : Int} (h : isPage pg q = true) (b f : Int) {ws : List Int} (hn : ws.length = n) {p : Int} (hp : isPage pg p = true) : bitV pg st (setsW pg st q b f ws) p = if p = q then b else bitV pg st ws p := by
 have := isPage_iff.1 h; have := isPage_iff.1 hp
 unfold bitV
 rw [sets_at H h b f hn (page_c H hp).2.1,if_neg (by unfold cA bA; omega)]
 by_cases e : p = q
 · rw [if_pos e,if_pos (by rw [e])]
 · rw [if_neg e,if_neg (by unfold bA; omega)]
theorem sets_map {q : Int} (h : isPage pg q = true) (b f : Int) {ws : List Int} (hn : ws.length = n) (j : Int) : mappedV pg st (setsW pg st q b f ws) j = mappedV pg st ws j := by
 unfold mappedV
 cases hj : isChunk pg j with
 | false => rfl
 | true =>
   have h0 := (tbl_b H.toTblIn hj).1
   obtain ⟨t0,t1,t2⟩ := tbl_page H.toPgIn hj h
   rw [sets_at H h b f hn (by omega),if_neg t1,if_neg t2]
theorem fst_at {G : Int → List Int} {ws : List Int} (L : Ln pg st G ws) {k f : Int} (h0 : headV pg st k f ≠ 0) : plLeadV pg (headV pg st k f) ws = fst1 (G (headV pg st k f)) := by
 have ha := (head_hd h0).1
 have := (hd_b H ha).1
 exact lead_hd H (by omega) (L.head _ ha) (L.page _ ha)
theorem first_is {G : Int → List Int} {ws : List Int} (L : Ln pg st G ws) {k : Int} (hk : 0 ≤ k ∧ k ≤ 4) (m : Nat) : ∀ f : Int,1 ≤ f → f + m = slotsC k + 1 →
   (plFirstV pg st k m f ws = -1 ∧ ∀ x,f ≤ x → x ≤ slotsC k → G (headV pg st k x) = []) ∨
   ∃ x t,f ≤ x ∧ x ≤ slotsC k ∧ headV pg st k x ≠ 0 ∧ G (headV pg st k x) = plFirstV pg st k m f ws :: t ∧ ∀ y,f ≤ y → y < x → G (headV pg st k y) = [] := by
 have hs := slotsC_eq hk
 have hh : ∀ x,1 ≤ x → x ≤ slotsC k → headV pg st k x ≠ 0 := fun x h1 h2 => by
   have h3 := H.st1; have h4 := H.pg1
   unfold headV; rw [if_pos ⟨hk.1,hk.2,h1,by omega⟩]
   unfold headsV tableV chunksV aheadV
   (repeat' split) <;> omega
 induction m with
 | zero => intro f h1 h2; exact .inl ⟨rfl,fun x h3 h4 => by omega⟩
 | succ m ih =>
   intro f h1 h2
   have hz := hh f h1 (by omega)
   have hl := fst_at H L hz
   show (((if plLeadV pg (headV pg st k f) ws = -1 then plFirstV pg st k m (f + 1) ws else plLeadV pg (headV pg st k f) ws) = -1) ∧ _) ∨ ∃ x t,f ≤ x ∧ x ≤ slotsC k ∧ headV pg st k x ≠ 0 ∧ G (headV pg st k x) = (if plLeadV pg (headV pg st k f) ws = -1 then plFirstV pg st k m (f + 1) ws else plLeadV pg (headV pg st k f) ws) :: t ∧ _
   rw [hl]
   cases hG : G (headV pg st k f) with
   | nil =>
     rw [show fst1 ([] : List Int) = -1 from rfl,if_pos rfl]
     rcases ih (f + 1) (by omega) (by omega) with ⟨h3,h4⟩ | ⟨x,t,h3,h4,h5,h6,h7⟩
     · refine .inl ⟨h3,fun x h5 h6 => ?_⟩
       by_cases e : x = f
       · rw [e]; exact hG
       · exact h4 x (by omega) h6
     · refine .inr ⟨x,t,by omega,h4,h5,h6,fun y h8 h9 => ?_⟩
       by_cases e : y = f
       · rw [e]; exact hG
       · exact h7 y (by omega) h9
   | cons p t =>
     have hp := isPage_iff.1 (L.page _ (head_hd hz).1 p (by rw [hG]; simp))
     rw [show fst1 (p :: t) = p from rfl,if_neg (by omega)]
     exact .inr ⟨f,t,Int.le_refl _,by omega,hz,hG,fun y h8 h9 => by omega⟩
theorem find_one (ws : List Int) : (findV pg st 1 1 ws = -1 ∧ ∀ p,isPage pg p = true → kindV pg st ws p ≠ 0) ∨ (isPage pg (findV pg st 1 1 ws) = true ∧ kindV pg st ws (findV pg st 1 1 ws) = 0) := by
 have h1 := H.pg1
 have key : ∀ f : Int → Bool,(leastV f pg 1 1 = -1 ∧ ∀ p,isPage pg p = true → f p = false) ∨ (isPage pg (leastV f pg 1 1) = true ∧ f (leastV f pg 1 1) = true) := fun f => by
   rcases seek_specR (f:=f) (pg:=pg) (m:=1) (step:=1) (by omega) (by omega) (pg.toNat + 1) 0 0 rfl (by omega) (by omega) with ⟨e,hn⟩ | ⟨k,e,h0,hh,_⟩
   · refine .inl ⟨e,fun p hp => ?_⟩
     have hp := isPage_iff.1 hp
     cases hf : f p with
     | false => rfl
     | true =>
       refine absurd ?_ (hn p (by omega))
       rw [Int.mul_one]
       exact ⟨by omega,fun i i0 i1 => by rw [show i = p by omega]; exact hf⟩
   · rw [Int.mul_one] at e hh h0
     have e : leastV f pg 1 1 = k := e
     rw [e]
     exact .inr ⟨isPage_iff.2 ⟨h0,by have := hh.1; omega⟩,hh.2 k (by omega) (by omega)⟩
 unfold findV
 rw [if_pos ⟨by omega,by omega⟩]
 rcases key (openB pg st ws) with ⟨e,hn⟩ | ⟨e,hf⟩
 · rw [if_pos e]
   rcases key (freeB pg st ws) with ⟨e2,hn2⟩ | ⟨e2,hf2⟩
   · refine .inl ⟨e2,fun p hp => ?_⟩
     have := hn2 p hp
     simpa [freeB] using this
   · refine .inr ⟨e2,?_⟩
     simpa [freeB] using hf2
 · have := isPage_iff.1 e
   rw [if_neg (by omega)]
   refine .inr ⟨e,?_⟩
   simp [openB] at hf
   exact hf.2
theorem take_one {y k : Int} (hk : 0 ≤ k ∧ k ≤ 4) {ws : List Int} (hn : ws.length = n) (hy : isPage pg y = true) (h0 : kindV pg st ws y = 0) : (takeV pg st y 1 (k + 1) ws).1 = true ∧ Took pg st y 1 (k + 1) ws (takeV pg st y 1 (k + 1) ws).2 := by
 have hp := isPage_iff.1 hy
 have ht : thereB pg y 1 = true := there_iff.2 ⟨hp.1,by omega,by omega⟩
 have hv : vacB pg st y 1 ws = true := vacB_iff.2 ⟨ht,fun i i0 i1 => by rw [show i = y by omega]; exact h0⟩
 have hf : fitB (k + 1) 1 = true := fit_iff.2 (.inr ⟨by omega,by omega,rfl⟩)
 have T := take_took H.toPgIn (p:=y) (m:=1) (k:=k + 1) hn ht
 unfold takeV
 rw [hf,hv]
 exact ⟨rfl,T⟩
theorem took_no {y m k : Int} {a b : List Int} (T : Took pg st y m k a b) : ∀ i,0 ≤ i → ¬ NoL pg st i → wAt b i = wAt a i := fun i h0 h1 =>
 T.off i h0 (fun p hp => ⟨fun z => h1 (by rw [z]; exact noL_k H hp),fun z => h1 (by rw [z]; exact noL_c H hp),fun z => h1 (by rw [z]; exact noL_b H hp)⟩) (fun j hj z => h1 (by rw [z]; exact noL_t H hj))
end
section
variable {pg st : Int} {n : Nat} (H : HdIn pg st n)
include H
theorem grab_none1 (us : Int) {k : Int} (h : slotsC k = 0) (ws : List Int) : grabV us pg st k ws = ((0,false),ws) := by
 unfold grabV giverV
 rw [if_pos h]
 unfold grab2V
 rw [if_pos rfl]
theorem take_none {m k : Int} (ws : List Int) : takeV pg st (-1) m k ws = (false,ws) := by
 have : vacB pg st (-1) m ws = false := by
   cases e : vacB pg st (-1) m ws with
   | false => rfl
   | true => have := there_iff.1 (vacB_iff.1 e).1; omega
 unfold takeV
 rw [this]
 simp
theorem grab_none2 (us : Int) {k : Int} (hs : slotsC k ≠ 0) {ws : List Int} (h1 : plFirstV pg st k (slotsC k).toNat 1 ws = -1) (h2 : findV pg st 1 1 ws = -1) : grabV us pg st k ws = ((0,false),ws) := by
 have e : giverV pg st k ws = (-1,ws) := by
   unfold giverV giver2V
   rw [if_neg hs,h1,if_pos rfl,h2,take_none H]
   rfl
 unfold grabV
 rw [e]
 unfold grab2V
 rw [if_pos rfl]
theorem giver_old {k : Int} (hs : slotsC k ≠ 0) {ws : List Int} {q : Int} (h1 : plFirstV pg st k (slotsC k).toNat 1 ws = q) (hq : q ≠ -1) : giverV pg st k ws = (q,ws) := by
 unfold giverV giver2V
 rw [if_neg hs,h1,if_neg hq]
theorem giver_new {k : Int} (hs : slotsC k ≠ 0) {ws : List Int} {y : Int} (h1 : plFirstV pg st k (slotsC k).toNat 1 ws = -1) (h2 : findV pg st 1 1 ws = y) (h3 : (takeV pg st y 1 (k + 1) ws).1 = true) : giverV pg st k ws = (y,(takeV pg st y 1 (k + 1) ws).2) := by
 unfold giverV giver2V
 rw [if_neg hs,h1,if_pos rfl,h2,h3]
 rfl
theorem put_sets {q k b f : Int} (ho : openV k b = f) (hf : f ≠ slotsC k) (ws : List Int) : pgPutV pg st q k b ws = setsW pg st q b f ws := by
 unfold pgPutV setsW
 rw [if_neg (by rw [ho]; exact hf),ho]
structure PgMoved (pg st : Int) (n : Nat) (q k f f' : Int) (T : List Int → List Int) (ws : List Int) (G G1 G2 : Int → List Int) (u X : List Int) : Prop where
 eu : (plUnlinkV pg st q k f ws).2 = u
 l1 : Ln pg st G1 u
 nu : u.length = n
 o1 : LOff pg st ws u
 m1 : ∀ a,isHd pg st a → q ∉ G1 a
 lt : Ln pg st G1 (T u)
 nt : (T u).length = n
 eX : (plLinkV pg st q k f' (T u)).2 = X
 eM : movesV pg st q k f (T ws) = X
 l2 : Ln pg st G2 X
 o2 : LOff pg st (T ws) X
 m2 : ∀ a p,isHd pg st a → p ≠ q → (p ∈ G2 a ↔ p ∈ G a)
 m3 : ∀ a,isHd pg st a → (q ∈ G2 a ↔ headV pg st k f' = a)
theorem moved' {q k f f' : Int} {T : List Int → List Int} (M : Mod pg st n q f' T) (hq : isPage pg q = true) {G : Int → List Int} {ws : List Int} (L : Ln pg st G ws) (hn : ws.length = n)
   (hin : ∀ a,isHd pg st a → (q ∈ G a ↔ headV pg st k f = a)) : ∃ G1 G2 u X,PgMoved pg st n q k f f' T ws G G1 G2 u X := by
 obtain ⟨G1,G2,h1,h2,h3,h4,h5,h6,h7,h8,h9⟩ := moved H M hq L hn hin
 exact ⟨G1,G2,_,_,⟨rfl,h1,h3,h2,h4,h1.same H (M.no _ h3),M.len _ h3,h7,rfl,h5,h6,h8,h9⟩⟩
theorem grab_old (us : Int) {k : Int} (hs : slotsC k ≠ 0) {G : Int → List Int} {ws : List Int} (P : PgW pg st G ws) (hn : ws.length = n) {q : Int} (h1 : plFirstV pg st k (slotsC k).toNat 1 ws = q) (hq : q ≠ -1) :
   ∃ (j : Nat) (G1 G2 : Int → List Int) (u X : List Int),isPage pg q = true ∧ kindV pg st ws q = k + 1 ∧ 1 ≤ cntV pg st ws q ∧ (∀ y,1 ≤ y → y < cntV pg st ws q → G (headV pg st k y) = []) ∧
     slFirstV (bitV pg st ws q) (slotsC k) = (j : Int) ∧ (j : Int) < slotsC k ∧ bitB (bitV pg st ws q) j = false ∧
     PgMoved pg st n q k (cntV pg st ws q) (cntV pg st ws q - 1) (setsW pg st q (setV (bitV pg st ws q) j) (cntV pg st ws q - 1)) ws G G1 G2 u X ∧
     grabV us pg st k ws = ((us + 32 * q + j * szV k,true),X) ∧ PgW pg st G2 X := by
 have hk := slots_cls hs
 obtain ⟨L,F⟩ := P
 rcases first_is H L hk (slotsC k).toNat 1 (by omega) (by have := slots_in k; omega) with ⟨e,_⟩ | ⟨x,t,x1,x2,hz,hG,hno⟩
 · exact absurd (h1.symm.trans e) hq
 rw [h1] at hG
 have ha := (head_hd hz).1
 have hm := (F.mem _ q ha).1 (by rw [hG]; simp)
 obtain ⟨hqp,hk1,hh⟩ := hm
 have hkb := F.kd q hqp
 have hc := F.cnt q hqp hk1
 have inj := head_inj hz hh.symm
 have ek : kindV pg st ws q = k + 1 := by omega
 have ef : cntV pg st ws q = x := inj.2.symm
 rw [ek] at hc
 have hop : openV k (bitV pg st ws q) = cntV pg st ws q := by rw [hc.1]; congr 1; omega
 obtain ⟨j,hj1,hj2,hj3,hj4⟩ := first_open (b:=bitV pg st ws q) (k:=k) (by omega)
 have hlt : cntV pg st ws q < slotsC k := by have := hc.2; rwa [show k + 1 - 1 = k by omega] at this
 obtain ⟨G1,G2,u,X,M⟩ := moved' H (mod_sets H hqp (setV (bitV pg st ws q) j) (cntV pg st ws q - 1)) hqp L hn (k:=k) (f:=cntV pg st ws q) (fun a h => by
   rw [F.mem a q h,ek,show k + 1 - 1 = k by omega]
   exact ⟨fun z => z.2.2,fun z => ⟨hqp,by omega,z⟩⟩)
 refine ⟨j,G1,G2,u,X,hqp,ek,by omega,fun y y1 y2 => hno y y1 (by omega),hj1,hj2,hj3,M,?_,M.l2,?_⟩
 · unfold grabV
   rw [giver_old H hs h1 hq]
   unfold grab2V
   rw [if_neg hq,if_neg (by rw [hj1]; omega),hj1]
   unfold putMoveV
   rw [put_sets H (f:=cntV pg st ws q - 1) (by rw [hj4,hop]) (by omega),M.eM]
 · refine PgF.off H (a:=setsW pg st q (setV (bitV pg st ws q) j) (cntV pg st ws q - 1) ws) ?_ M.o2
   refine F.turn H hqp (k:=k + 1) (f:=cntV pg st ws q - 1) (c:=setV (bitV pg st ws q) j) (fun p hp => ?_) (fun p hp => sets_cnt H hqp _ _ hn hp) (fun p hp => sets_bit H hqp _ _ hn hp) (fun p _ _ h => by rw [sets_map H hqp _ _ hn]; exact h) (fun _ => by rw [sets_map H hqp _ _ hn]; exact F.map q hqp (by omega)) (by omega) (by omega) (fun _ => ?_) M.m2 (fun a h => ?_)
   · rw [sets_kind H hqp _ _ hn]; split
     · rename_i e; rw [e]; exact ek
     · rfl
   · rw [show k + 1 - 1 = k by omega,hj4,hop]; omega
   · rw [M.m3 a h,show k + 1 - 1 = k by omega]
     exact ⟨fun z => ⟨by omega,z⟩,fun z => z.2⟩
theorem grab_new (us : Int) {k : Int} (hs : slotsC k ≠ 0) {G : Int → List Int} {ws : List Int} (P : PgW pg st G ws) (hn : ws.length = n) {y : Int} (h1 : plFirstV pg st k (slotsC k).toNat 1 ws = -1) (h2 : findV pg st 1 1 ws = y) (hy : y ≠ -1) :
   ∃ (G1 G2 : Int → List Int) (w1 X : List Int),isPage pg y = true ∧ kindV pg st ws y = 0 ∧ takeV pg st y 1 (k + 1) ws = (true,w1) ∧ Took pg st y 1 (k + 1) ws w1 ∧ w1.length = n ∧ Ln pg st G w1 ∧
     PgMoved pg st n y k 0 (slotsC k - 1) (setsW pg st y (setV 0 0) (slotsC k - 1)) w1 G G1 G2 w1 X ∧
     grabV us pg st k ws = ((us + 32 * y,true),X) ∧ PgW pg st G2 X := by
 have hk := slots_cls hs
 have hsl := slots_in k
 obtain ⟨L,F⟩ := P
 have hfy := (find_one H ws).resolve_left (fun z => hy (h2.symm.trans z.1))
 rw [h2] at hfy
 obtain ⟨hyp,hk0⟩ := hfy
 obtain ⟨t1,T⟩ := take_one H hk hn hyp hk0
 obtain ⟨w1,ew⟩ : ∃ w1,(takeV pg st y 1 (k + 1) ws).2 = w1 := ⟨_,rfl⟩
 rw [ew] at T
 have n1 : w1.length = n := T.len.trans hn
 have L1 : Ln pg st G w1 := L.same H (took_no H T)
 have hno : ∀ a,isHd pg st a → y ∉ G a := fun a h z => by have := ((F.mem a y h).1 z).2.1; omega
 have hb1 : bitV pg st w1 y = 0 := by rw [T.bit y hyp,if_pos (by omega)]
 have hc1 : cntV pg st w1 y = 0 := by rw [T.cnt y hyp,if_pos rfl,if_neg (by omega)]
 have hz0 : headV pg st k 0 = 0 := by unfold headV; rw [if_neg (by omega)]
 have hos : openV k (setV 0 0) = slotsC k - 1 := by
   have := open_set (b:=0) (k:=k) (j:=0) (by omega) (bit_zero 0)
   rw [open_zero] at this
   exact this
 obtain ⟨G1,G2,u,X,M⟩ := moved' H (mod_sets H hyp (setV 0 0) (slotsC k - 1)) hyp L1 n1 (k:=k) (f:=0) (fun a h => ⟨fun z => absurd z (hno a h),fun z => by have := (hd_b H h).1; omega⟩)
 have eu : u = w1 := by rw [← M.eu,unlink_no H L1 (fun _ z => absurd hz0 z)]
 subst eu
 refine ⟨G1,G2,u,X,hyp,hk0,Prod.ext t1 ew,T,n1,L1,M,?_,M.l2,?_⟩
 · unfold grabV
   rw [giver_new H hs h1 h2 t1,ew]
   unfold grab2V
   rw [if_neg hy]
   show (if slFirstV (bitV pg st u y) (slotsC k) = -1 then _ else _) = _
   rw [hb1,first_zero hs,if_neg (by omega),hc1]
   unfold putMoveV
   rw [put_sets H (f:=slotsC k - 1) hos (by omega),M.eM]
   simp
 · refine PgF.off H (a:=setsW pg st y (setV 0 0) (slotsC k - 1) u) ?_ M.o2
   refine F.turn H hyp (k:=k + 1) (f:=slotsC k - 1) (c:=setV 0 0) (fun p hp => ?_) (fun p hp => ?_) (fun p hp => ?_) (fun p hp hne h => ?_) (fun _ => ?_) (by omega) (by omega) (fun _ => ?_) M.m2 (fun a h => ?_)
   · rw [sets_kind H hyp _ _ n1,T.kind]
     by_cases e : p = y
     · rw [if_pos e,if_pos e]
     · rw [if_neg e,if_neg e,if_neg (by omega)]
   · rw [sets_cnt H hyp _ _ n1 hp,T.cnt p hp]
     by_cases e : p = y
     · rw [if_pos e,if_pos e]
     · rw [if_neg e,if_neg e,if_neg e,if_neg (by omega)]
   · rw [sets_bit H hyp _ _ n1 hp,T.bit p hp]
     by_cases e : p = y
     · rw [if_pos e,if_pos e]
     · rw [if_neg e,if_neg e,if_neg (by omega)]
   · rw [sets_map H hyp _ _ n1,T.map _ (chunk_of hp),h]; rfl
   · rw [sets_map H hyp _ _ n1,T.map _ (chunk_of hyp)]
     simp
   · rw [show k + 1 - 1 = k by omega,hos]
     exact ⟨rfl,by omega⟩
   · rw [M.m3 a h,show k + 1 - 1 = k by omega]
     exact ⟨fun z => ⟨by omega,z⟩,fun z => z.2⟩
theorem taken_is {us a : Int} {G : Int → List Int} {ws : List Int} (F : PgF pg st G ws) {q k i : Int} {t : Bool} (h : takenV us pg st a ws = some (q,k,i,t)) :
   isPage pg q = true ∧ kindV pg st ws q = k + 1 ∧ 0 ≤ k ∧ k ≤ 4 ∧ 0 ≤ i ∧ i < slotsC k ∧ t = hasB (bitV pg st ws q) i ∧ a = us + 32 * q + i * szV k := by
 unfold takenV at h
 split at h
 · rename_i hin
   obtain ⟨hq,hw⟩ := place_b hin
   have hkd := F.kd _ hq
   have hwr : IntKind.i64.wrap (kindV pg st ws ((a - us) / 32) - 1) = kindV pg st ws ((a - us) / 32) - 1 := wrap_in (by omega) (by omega)
   unfold tkRestV at h
   rw [hwr] at h
   split at h
   · cases h
   · rename_i hz
     split at h
     · cases h
     · rename_i hm
       have hk := slots_cls hz
       obtain ⟨z,hzk⟩ : ∃ z : Nat,kindV pg st ws ((a - us) / 32) - 1 = (z : Int) := ⟨_,(Int.toNat_of_nonneg hk.1).symm⟩
       simp only [Option.some.injEq,Prod.mk.injEq] at h
       obtain ⟨rfl,rfl,rfl,rfl⟩ := h
       rw [hzk] at hk hm ⊢
       have hsb := sz_b (k:=z) (by omega)
       have hm : (a - us) % 32 % szV (z : Int) = 0 := by simpa using hm
       have hsz := slots_of_sz (k:=z) (by omega)
       have hd := Int.emod_add_mul_ediv ((a - us) % 32) (szV (z : Int))
       rw [hm] at hd
       refine ⟨hq,by omega,hk.1,hk.2,Int.ediv_nonneg hw.1 (by omega),?_,rfl,?_⟩
       · have hz4 : z = 0 ∨ z = 1 ∨ z = 2 ∨ z = 3 ∨ z = 4 := by omega
         generalize (a - us) % 32 = wd at hw hm ⊢
         rcases hz4 with rfl | rfl | rfl | rfl | rfl
         · show wd / 1 < 32; omega
         · show wd / 2 < 16; omega
         · show wd / 4 < 8; omega
         · show wd / 8 < 4; omega
         · show wd / 16 < 2; omega
       · rw [Int.mul_comm ((a - us) % 32 / szV (z : Int)) (szV (z : Int))]
         omega
 · cases h
theorem back_yes (us : Int) {a : Int} {G : Int → List Int} {ws : List Int} (P : PgW pg st G ws) (hn : ws.length = n) (ho : OkW ws) {q k i : Int} (h : tkYes (takenV us pg st a ws) = some (q,k,i)) :
   isPage pg q = true ∧ kindV pg st ws q = k + 1 ∧ 0 ≤ k ∧ k ≤ 4 ∧ 0 ≤ i ∧ i < slotsC k ∧ hasB (bitV pg st ws q) i = true ∧ a = us + 32 * q + i * szV k ∧ 0 ≤ cntV pg st ws q ∧ cntV pg st ws q < slotsC k ∧
   (cntV pg st ws q + 1 ≠ slotsC k → ∃ G1 G2 u X,PgMoved pg st n q k (cntV pg st ws q) (cntV pg st ws q + 1) (setsW pg st q (clearV (bitV pg st ws q) i) (cntV pg st ws q + 1)) ws G G1 G2 u X ∧ backV us pg st a ws = (true,X) ∧ PgW pg st G2 X) ∧
   (cntV pg st ws q + 1 = slotsC k → ∃ G1 G2 u X,PgMoved pg st n q k (cntV pg st ws q) 0 (put3V pg st q 0 0) ws G G1 G2 u X ∧ backV us pg st a ws = (true,X) ∧ PgW pg st G2 X) := by
 obtain ⟨L,F⟩ := P
 obtain ⟨hq,ek,k0,k4,i0,i1,ht,ha⟩ := taken_is H F (tkYes_some h)
 have hc := F.cnt q hq (by omega)
 rw [ek,show k + 1 - 1 = k by omega] at hc
 have hcb := cnt_b (bitV pg st ws q) k
 have hcl := open_clear (b:=bitV pg st ws q) (k:=k) (okW_at' ho _) i0 i1 ht.symm
 have hin : ∀ a,isHd pg st a → (q ∈ G a ↔ headV pg st k (cntV pg st ws q) = a) := fun a h => by
   rw [F.mem a q h,ek,show k + 1 - 1 = k by omega]
   exact ⟨fun z => z.2.2,fun z => ⟨hq,by omega,z⟩⟩
 refine ⟨hq,ek,k0,k4,i0,i1,ht.symm,ha,by omega,hc.2,fun hne => ?_,fun he => ?_⟩
 · obtain ⟨G1,G2,u,X,M⟩ := moved' H (mod_sets H hq (clearV (bitV pg st ws q) i) (cntV pg st ws q + 1)) hq L hn (k:=k) (f:=cntV pg st ws q) hin
   refine ⟨G1,G2,u,X,M,?_,M.l2,?_⟩
   · unfold backV
     rw [h]
     show (true,putMoveV _ _ _ _ _ _ _) = _
     unfold putMoveV
     rw [put_sets H (f:=cntV pg st ws q + 1) (by rw [hcl,hc.1]) hne,M.eM]
   · refine PgF.off H (a:=setsW pg st q (clearV (bitV pg st ws q) i) (cntV pg st ws q + 1) ws) ?_ M.o2
     refine F.turn H hq (k:=k + 1) (f:=cntV pg st ws q + 1) (c:=clearV (bitV pg st ws q) i) (fun p hp => ?_) (fun p hp => sets_cnt H hq _ _ hn hp) (fun p hp => sets_bit H hq _ _ hn hp) (fun p _ _ h => by rw [sets_map H hq _ _ hn]; exact h) (fun _ => by rw [sets_map H hq _ _ hn]; exact F.map q hq (by omega)) (by omega) (by omega) (fun _ => ?_) M.m2 (fun a h => ?_)
     · rw [sets_kind H hq _ _ hn]; split
       · rename_i e; rw [e]; exact ek
       · rfl
     · rw [show k + 1 - 1 = k by omega,hcl,hc.1]
       exact ⟨rfl,by omega⟩
     · rw [M.m3 a h,show k + 1 - 1 = k by omega]
       exact ⟨fun z => ⟨by omega,z⟩,fun z => z.2⟩
 · obtain ⟨G1,G2,u,X,M⟩ := moved' H (mod_put3 H hq 0 0) hq L hn (k:=k) (f:=cntV pg st ws q) hin
   have hd : (dropV pg st q ws).2 = put3V pg st q 0 0 ws := by
     have hl : lenV pg st q ws = 1 := by unfold lenV; rw [ek,if_pos (cls_iff.2 ⟨by omega,by omega⟩)]
     unfold dropV
     rw [hl]
     rfl
   refine ⟨G1,G2,u,X,M,?_,M.l2,?_⟩
   · unfold backV
     rw [h]
     show (true,putMoveV _ _ _ _ _ _ _) = _
     unfold putMoveV pgPutV
     rw [if_pos (by rw [hcl,← hc.1]; exact he),hd,M.eM]
   · refine PgF.off H (a:=put3V pg st q 0 0 ws) ?_ M.o2
     have hz0 : headV pg st k 0 = 0 := by unfold headV; rw [if_neg (by omega)]
     refine F.turn H hq (k:=0) (f:=0) (c:=0) (fun p hp => kind_put3 H.toPgIn hq 0 0 hn p) (fun p hp => cnt_put3 H.toPgIn hq 0 0 hn hp) (fun p hp => bit_put3 H.toPgIn hq 0 0 hn hp) (fun p _ _ h => by rw [map_put3 H.toPgIn hq 0 0 hn]; exact h) (fun z => absurd rfl z) (by omega) (fun _ => ⟨rfl,rfl⟩) (fun z => by omega) M.m2 (fun a h => ?_)
     rw [M.m3 a h,hz0]
     have := (hd_b H h).1
     exact ⟨fun z => by omega,fun z => by omega⟩
theorem back_no {us a : Int} {ws : List Int} (h : tkYes (takenV us pg st a ws) = none) : backV us pg st a ws = (false,ws) := by
 unfold backV
 rw [h]
 rfl
end
end Go.Proofs.YtflihdcliknggaaGreatDoor
namespace Go.Proofs.YtflihdcliknggaaGreatDoor
open Go.RowKit Go.Sort Go.Maps Go.Shelf
section
variable {pg st : Int} {n : Nat} (H : HdIn pg st n)
include H
theorem grab_keep (us k : Int) {G : Int → List Int} {ws : List Int} (P : PgW pg st G ws) (hn : ws.length = n) : ∃ G',PgW pg st G' (grabV us pg st k ws).2 := by
 by_cases hs : slotsC k = 0
 · rw [grab_none1 H us hs ws]; exact ⟨G,P⟩
 · by_cases h1 : plFirstV pg st k (slotsC k).toNat 1 ws = -1
   · by_cases h2 : findV pg st 1 1 ws = -1
     · rw [grab_none2 H us hs h1 h2]; exact ⟨G,P⟩
     · obtain ⟨G1,G2,w1,X,_,_,_,_,_,_,_,e,q⟩ := grab_new H us hs P hn h1 rfl h2
       rw [e]; exact ⟨G2,q⟩
   · obtain ⟨j,G1,G2,u,X,_,_,_,_,_,_,_,_,e,q⟩ := grab_old H us hs P hn rfl h1
     rw [e]; exact ⟨G2,q⟩
theorem back_keep (us a : Int) {G : Int → List Int} {ws : List Int} (P : PgW pg st G ws) (hn : ws.length = n) (ho : OkW ws) : ∃ G',PgW pg st G' (backV us pg st a ws).2 := by
 cases h : tkYes (takenV us pg st a ws) with
 | none => rw [back_no H h]; exact ⟨G,P⟩
 | some x =>
   obtain ⟨q,k,i⟩ := x
   obtain ⟨_,_,_,_,_,_,_,_,_,_,y1,y2⟩ := back_yes H us P hn ho h
   by_cases he : cntV pg st ws q + 1 = slotsC k
   · obtain ⟨G1,G2,u,X,_,e,z⟩ := y2 he
     rw [e]; exact ⟨G2,z⟩
   · obtain ⟨G1,G2,u,X,_,e,z⟩ := y1 he
     rw [e]; exact ⟨G2,z⟩
theorem gdone_keep (us kind k a : Int) {G : Int → List Int} {ws : List Int} (P : PgW pg st G ws) (hn : ws.length = n) (ho : OkW ws) : ∃ G',PgW pg st G' (gdoneV us pg st kind k a ws).2 := by
 unfold gdoneV
 split
 · exact grab_keep H us k P hn
 · split
   · exact back_keep H us a P hn ho
   · exact ⟨G,P⟩
theorem gdone_words (us kind k a : Int) {ws : List Int} (hn : ws.length = n) (ho : OkW ws) : OkW (gdoneV us pg st kind k a ws).2 ∧ (gdoneV us pg st kind k a ws).2.length = n := by
 obtain ⟨D,hD,ha,hi⟩ := flat_gdone H us kind k a ws [] hn ho (invD_nil _)
 have e0 : applyD ws [] = ws := rfl
 rw [e0] at hD ha
 have ha : applyD ws D = (gdoneV us pg st kind k a ws).2 := ha
 rw [← ha]
 exact ⟨okW_apG ho hi hn,by rw [applyD_len]; exact hn⟩
theorem pgw_zeros : PgW pg st (fun _ => []) (zeros n) := by
 have hz : ∀ i : Int,wAt (zeros n) i = 0 := fun i => by
   unfold wAt zeros
   simp only [List.getD,List.getElem?_replicate]
   split <;> rfl
 have hk : ∀ p,isPage pg p = true → kindV pg st (zeros n) p = 0 := fun p hp => by unfold kindV; rw [if_pos hp]; exact hz _
 refine ⟨ln_zeros H,⟨fun p hp => by rw [hk p hp]; omega,fun p hp _ => ⟨hz _,hz _⟩,fun p hp h => absurd (hk p hp) h,fun p hp h => ?_,fun a p ha => ⟨fun h => (by cases h),fun h => ?_⟩⟩⟩
 · rw [hk p hp] at h; omega
 · have := hk p h.1; have := h.2.1; omega
end
theorem wpList_pushB {ops : Array Oper} {rest : List Oper} {o : Oper} {a : Act} {Q : Exit → Act → World → Prop} {w wa : World} {v : Value} {xs : List Int} (y : Int) (hgd : o.guard = none) (s x : Operand)
   (ho : o.op = .call { callee := .builtin .append,args := #[s,x],argTypes := #[34,34] })
   (hs : a.eval s = v) (hn : Rw wa.heap.size w v xs) (hW : More wa w) (hl : xs.length ≤ 1000000)
   (hx : a.eval x = .slice (some ⟨w.heap.size,0,none⟩) 1 1)
   (h : ∀ v' w',Rw wa.heap.size w' v' (xs ++ [y]) → More wa w' → wpList Tryz.prog ops Q rest (a.put o.dst v') w') : wpList Tryz.prog ops Q (o :: rest) a (w.alloc (.cells #[.int .i64 y] 3)) := by
 obtain ⟨i,i1,i2,i3,i4⟩ := int_info
 have hn' := hn.more ((More.refl w).alloc (.cells #[.int .i64 y] 3))
 have hB := heap_new w (.cells #[.int .i64 y] 3)
 refine wpList_append_lies _ hgd s x 34 ho wa.heap.size 3 i _ 1 8 Tryz.underlying34 i1 i2 i3 i4 rfl (by omega) v xs.length _ hs hn' ⟨w.heap.size,0,none⟩ 1 1 [.int .i64 y] hx (by simp)
   (fun j u hu => World.news_of_block hB j u (by simpa using hu)) (by intro u hu; simp at hu; subst hu; rfl) (by omega) (by simp only [maxLen]; omega) (by omega) (by have := hW.size; simp; omega) _ rfl ?_
 intro g cap w1 hown hgrow _ _
 refine h _ w1 ?_ (more_of_grown (hW.alloc _) hn' hgrow)
 unfold Rw
 rw [List.length_append,List.map_append]
 exact hown
def atV (us : Int) (bs : List Int) (kind m : Int) : Int :=
 if kind = 2 ∧ bs ≠ [] then bs.getD ((IntKind.u64.wrap m).tmod bs.length).toNat 0 else wrap64 (us + wrap64 ((IntKind.u64.wrap m).tmod 1024))
theorem uN_0 (m : Int) : 0 ≤ IntKind.u64.wrap m := by rw [IntKind.wrap_u64]; omega
theorem remU_b {u n : Int} (h : 0 ≤ u) (hn : 1 ≤ n) (hm : n ≤ 1000000) : 0 ≤ u.tmod n ∧ u.tmod n < n ∧ IntKind.i64.wrap (u.tmod n) = u.tmod n := by
 rw [Int.tmod_eq_emod_of_nonneg h]
 have h1 := Int.emod_nonneg u (show n ≠ 0 by omega)
 have h2 := Int.emod_lt_of_pos u (show 0 < n by omega)
 exact ⟨h1,h2,wrap_in (by omega) (by omega)⟩
theorem l11_at (us : Int) (bs : List Int) (kind k m : Int) (b : Nat) (v : Value) (w : World) (hr : Rw b w v bs) (hl : bs.length ≤ 1000) :
   Calls Tryz.prog 8 #[v,.int .i64 us,.agg #[.int .i64 kind,.int .i64 k,.int .i64 m]] w (Gives w (.int .i64 (atV us bs kind m))) := by
 obtain ⟨a,cap,rfl,rd⟩ := hr.reads
 have hu := hQQ (uN_0 m)
 obtain ⟨res,hres⟩ : ∃ res,atV us bs kind m = res := ⟨_,rfl⟩
 rw [hres]
 unfold atV at hres
 obtain ⟨w1,e1,hb1,m1,s1⟩ := entry1 w (.cells #[.int .i64 kind,.int .i64 k,.int .i64 m] 38)
 have M1 := hQQ m1
 have y0 := cell_more (j:=0) hb1 (More.refl _) rfl
 have y2 := cell_more (j:=2) hb1 (More.refl _) rfl
 clear hr hb1
 by_cases hk : kind = 2
 · have t0 : (kind == 2) = true := by simp [hk]
   by_cases hb : bs = []
   · rw [if_neg (by rintro ⟨_,q⟩; exact q hb)] at hres
     have HRS := hQQ hres
     clear hres hk rd m1 hl
     subst hb
     rw [List.length_nil]
     go_enter Tryz.func8,Tryz.ntmps8
     go_wp2_with fail
     rw [HRS.out]
     go_ret
     exact ⟨rfl,M1.out⟩
   · have hp : 0 < bs.length := by cases bs with | nil => exact absurd rfl hb | cons => simp
     have d1 : decide ((0 : Int) < (bs.length : Int)) = true := by simp; omega
     rw [if_pos ⟨hk,hb⟩] at hres
     obtain ⟨r0,r1,r2⟩ := remU_b (n:=(bs.length : Int)) hu.out (by omega) (by omega)
     obtain ⟨g,rfl,_,hg,hc⟩ := rd 0 hp
     have hc := hc ((IntKind.u64.wrap m).tmod bs.length).toNat (by omega)
     rw [hres] at hc
     have hc := m1.cell hc
     have uw : IntKind.u64.wrap (bs.length : Int) = (bs.length : Int) := by rw [IntKind.wrap_u64]; omega
     have nz : ((bs.length : Int) == 0) = false := by simp; omega
     obtain ⟨q,hq⟩ : ∃ q : Nat,(IntKind.u64.wrap m).tmod bs.length = (q : Int) := ⟨_,(Int.toNat_of_nonneg r0).symm⟩
     rw [hq] at hc r0 r1 r2
     simp only [Int.toNat_natCast] at hc
     have HRS := hQQ hres
     have HR1 := hQQ r1
     have d2 : decide ((q : Int) < (bs.length : Int)) = true := by simp; omega
     have d3 : decide (q < bs.length) = true := by simp; omega
     have d4 : decide (0 < bs.length) = true := by simp; omega
     have nn : ¬ bs = [] := hb
     have nz2 : (bs.length == 0) = false := by simp; exact hb
     have r4 : q < bs.length := by omega
     clear hres hb hk rd m1 hl r0 r1
     go_enter Tryz.func8,Tryz.ntmps8
     go_wp2_with fail
     go_ret
     exact ⟨rfl,M1.out⟩
 · have t0 : (kind == 2) = false := by simp [hk]
   rw [if_neg (by rintro ⟨q,_⟩; exact hk q)] at hres
   have HRS := hQQ hres
   clear hres hk rd m1 hl
   go_enter Tryz.func8,Tryz.ntmps8
   go_wp2_with fail
   rw [HRS.out]
   go_ret
   exact ⟨rfl,M1.out⟩
theorem l11_without (bs : List Int) (ad : Int) (b : Nat) (v : Value) (w : World) (hr : Rw b w v bs) (hl : bs.length ≤ 1000) :
   Calls Tryz.prog 15 #[v,.int .i64 ad] w (GaveInts w (bs.filter fun x => x != ad)) := by
 obtain ⟨a,cap,rfl,rd⟩ := hr.reads
 have HL := hQQ hl
 have RD := hQQ rd
 have M0 := hQQ (More.refl w)
 have N0 := hQQ (Rw.nil w.heap.size w)
 clear hr rd hl
 go_enter Tryz.func15,Tryz.ntmps15
 go_wp2_with fail
 go_loopw [5,6] (fun v5 v6 wr => ∃ j : Nat,v6 = .int .i64 (j : Int) ∧ j ≤ bs.length ∧ Rw w.heap.size wr v5 ((bs.take j).filter fun x => x != ad) ∧ More w wr) (fun _ v6 _ => bs.length - (intOf v6).toNat)
 case atStart => exact ⟨0,rfl,Nat.zero_le _,N0.out,M0.out⟩
 case round =>
   obtain ⟨j,rfl,hj,hR,hM⟩ := hrel
   have HR := hQQ hR
   have HM := hQQ hM
   have HJ := hQQ hj
   clear hR hj
   by_cases hlt : j < bs.length
   · have d1 : decide ((j : Int) < (bs.length : Int)) = true := by simp; omega
     have d2 : decide (j < bs.length) = true := by simp; omega
     obtain ⟨g,rfl,_,hg,hc⟩ := RD.out j hlt
     have hc := hM.cell (hc j hlt)
     have ht : bs.take (j + 1) = bs.take j ++ [bs.getD j 0] := by
       rw [List.take_add_one,List.getElem?_eq_getElem hlt]; simp [List.getD,hlt]
     obtain ⟨x,hx⟩ : ∃ x,bs.getD j 0 = x := ⟨_,rfl⟩
     rw [hx] at hc ht
     have hl0 := HL.out
     have HT := hQQ ht
     have HLT := hQQ hlt
     clear hM ht hx
     by_cases hne : x = ad
     · have t1 : (x != ad) = false := by simp [hne]
       have FIN := hQQ (show Rw w.heap.size wr _ ((bs.take (j + 1)).filter fun x => x != ad) from by rw [HT.out,List.filter_append,List.filter_cons_of_neg (by simp [hne]),List.filter_nil,List.append_nil]; exact HR.out)
       clear hne
       go_wp2_with fail
       refine ⟨⟨j + 1,by go_num,by have := HLT.out; omega,FIN.out,HM.out⟩,?_⟩
       have := HLT.out
       simp [intOf]; omega
     · have t1 : (x != ad) = true := by simp [hne]
       have hfl : ((bs.take j).filter fun x => x != ad).length ≤ 1000 := by
         have := List.length_filter_le (fun x => x != ad) (bs.take j)
         have := HL.out
         simp at *; omega
       have HF := hQQ (show (bs.take (j + 1)).filter (fun x => x != ad) = (bs.take j).filter (fun x => x != ad) ++ [x] from by rw [HT.out,List.filter_append,List.filter_cons_of_pos (by simp [hne]),List.filter_nil])
       have HFL := hQQ hfl
       clear hne hfl
       go_wp2_with (at_builtin; refine wpList_pushB _ rfl _ _ rfl rfl HR.out HM.out (by have := HFL.out; omega) rfl ?_; intro v' w5 hr5 hm5; have HR5 := hQQ hr5; have HM5 := hQQ hm5; clear hr5 hm5)
       refine ⟨⟨j + 1,by go_num,by have := HLT.out; omega,by rw [HF.out]; exact HR5.out,HM5.out⟩,?_⟩
       have := HLT.out
       simp [intOf]; omega
   · have d1 : decide ((j : Int) < (bs.length : Int)) = false := by simp; omega
     have he : bs.take j = bs := by rw [List.take_of_length_le (by omega)]
     have FIN := hQQ (show Rw w.heap.size wr _ (bs.filter fun x => x != ad) from by have := HR.out; rw [he] at this; exact this)
     clear hM he
     go_wp2_with fail
     go_ret
     exact ⟨_,rfl,FIN.out,HM.out⟩
end Go.Proofs.YtflihdcliknggaaGreatDoor
namespace Go.Proofs.YtflihdcliknggaaGreatDoor
open Go.ChangeShapes Go.WideShapes Go.ChangeAt Go.RowKit Go.Joins Go.Deep
theorem IsIns.keepN {w w' : World} {a : Option Addr} {l : List Ins3} (h : IsIns w a l) {S : Nat → Prop} (t : Turned S w w') (hs : l ≠ [] → ∀ k,leads a k → ¬ S k) : IsIns w' a l := by
 by_cases e : l = []
 · exact .inl e
 · exact h.keep t (hs e)
theorem IsIns.lt {w : World} {a : Option Addr} {l : List Ins3} (h : IsIns w a l) (hne : l ≠ []) : ∀ b,leads a b → b < w.heap.size := fun b hb => by
 obtain ⟨s,o,rfl,hs,_⟩ := h.resolve_left hne
 have : s = b := by simpa [leads] using hb
 omega
theorem run_lv3 {P : Program} (w : World) (s off : Nat) (ty : TypeId) (v0 v1 v2 : Value) (d : TypeDesc) (h0 : w.cell? ⟨s,off,none⟩ = some v0) (h1 : w.cell? ⟨s,off + 1,none⟩ = some v1) (h2 : w.cell? ⟨s,off + 2,none⟩ = some v2)
   (hu : P.underlying ty = some d) (hd : (match d with | .struct _ | .array _ _ => true | _ => false) = true) (hi : (P.info? ty).map (·.size) = some 3) :
   (loadVar ty ⟨s,off,none⟩).run P w = .ok (.agg #[v0,v1,v2]) w := by
 have hl : (loadCells ⟨s,off,none⟩ [v0,v1,v2].length).run P w = .ok [v0,v1,v2].toArray w :=
   run_loadCells_list (P:=P) w ⟨s,off,none⟩ [v0,v1,v2] (fun j v hv => by
     rw [addr_add]
     match j,hv with
     | 0,hv => cases hv; exact h0
     | 1,hv => cases hv; exact h1
     | 2,hv => cases hv; exact h2
     | j + 3,hv => simp at hv)
 cases hq : P.info? ty with
 | none => simp [hq] at hi
 | some i =>
   have hs : i.size = 3 := by simpa [hq] using hi
   have hagg : (isAgg ty).run P w = .ok true w := by
     unfold isAgg
     rw [Sem.run_bind,run_underlying hu w]
     cases d <;> simp_all
   simp only [List.length_cons,List.length_nil,Nat.reduceAdd] at hl
   simp [loadVar,Sem.run_bind,hagg,sizeOf,typeInfo,hq,hs,hl]
theorem wpQuiet_ld3 {P : Program} {ops : Array Oper} {a : Act} {o : Oper} {rest : List Oper} {C : World → Prop} {Q : Act → Prop} (hw : Region.wanted o (yielded ops a.tmps) = true) (ty : TypeId) (x : Operand) (ho : o.op = .load ty x)
   (s off : Nat) (hx : a.eval x = .pointer (some ⟨s,off,none⟩)) (v0 v1 v2 : Value) (d : TypeDesc) (hg : ∀ W,C W → W.cell? ⟨s,off,none⟩ = some v0 ∧ W.cell? ⟨s,off + 1,none⟩ = some v1 ∧ W.cell? ⟨s,off + 2,none⟩ = some v2)
   (hu : P.underlying ty = some d) (hd : (match d with | .struct _ | .array _ _ => true | _ => false) = true) (hi : (P.info? ty).map (·.size) = some 3)
   (h : wpQuiet P ops C Q rest (a.put o.dst (.agg #[v0,v1,v2]))) : wpQuiet P ops C Q (o :: rest) a := by
 refine wpQuiet_do (.agg #[v0,v1,v2]) hw (fun W hW => ?_) h
 obtain ⟨h0,h1,h2⟩ := hg W hW
 unfold Oper.quietAt execOp
 simp only [ho,hx,Instr.loadAt,Instr.sureAddr,Sem.run_bind,Sem.run_pure,Result.andThen_ok,run_lv3 W s off ty v0 v1 v2 d h0 h1 h2 hu hd hi]
 exact ⟨rfl,rfl⟩
theorem yieldsC_3 {P : Program} {ops : Array Oper} {C : World → Prop} {o : Oper} {a : Act} (hw : Region.wanted o (yielded ops a.tmps) = true) (ty : TypeId) (x : Operand) (ho : o.op = .load ty x)
   (s off : Nat) (hx : a.eval x = .pointer (some ⟨s,off,none⟩)) (v0 v1 v2 : Value) (d : TypeDesc) (hg : ∀ W,C W → W.cell? ⟨s,off,none⟩ = some v0 ∧ W.cell? ⟨s,off + 1,none⟩ = some v1 ∧ W.cell? ⟨s,off + 2,none⟩ = some v2)
   (hu : P.underlying ty = some d) (hd : (match d with | .struct _ | .array _ _ => true | _ => false) = true) (hi : (P.info? ty).map (·.size) = some 3) : YieldsC P ops C o (.agg #[v0,v1,v2]) a := by
 refine .inl ⟨hw,fun W hW => ?_⟩
 obtain ⟨h0,h1,h2⟩ := hg W hW
 unfold execOp
 simp only [ho,hx,Instr.loadAt,Instr.sureAddr,Sem.run_bind,Sem.run_pure,Result.andThen_ok,run_lv3 W s off ty v0 v1 v2 d h0 h1 h2 hu hd hi]
end Go.Proofs.YtflihdcliknggaaGreatDoor
namespace Go.Proofs.YtflihdcliknggaaGreatDoor
open Go.RowKit Go.Sort Go.Maps Go.Shelf
theorem pg_clo {c : Cfg} (R : c.Ok) {n : Nat} (H : HdIn c.pg c.st n) (hn : n ≤ 10000) (F : Nat → Prop) (p g1 g2 g3 g4 g5 : Nat) (kn : Int → Option Int) (a : Option Addr) (capl : Nat) (l : List Ins3) (j : Nat) (kind k m ad : Int) (bt : Nat) (W : World) (hv : ViewAt W F p kn []) (hk : OkK kn)
   (h1 : W.heap[g1]? = some (.cells c.arr 28 (0,0))) (h2 : W.heap[g2]? = some (.cells #[.slice a l.length capl] 24 (0,0))) (h3 : W.heap[g3]? = some (.cells #[.int .i64 (j : Int)] 3 (0,0))) (ha : W.heap[g4]? = some (.cells #[.int .i64 ad] 3 (0,0))) (h4 : ∃ t,Box4 g5 W t) (hs : SzAt bt W) (nF0 : ¬ F 0) (nFb : ¬ F bt) (hL : IsIns W a l) (hll : l.length ≤ 1000) (hj : l[j]? = some (kind,k,m))
   (n4 : ¬ F g5) (X Y : World → Prop)
   (hY : ∀ w',Turned (fun b => F b ∨ b = g5) W w' → (∃ t,Box4 g5 w' t) → Y w')
   (hX : ∀ w' z D,gdoneP c.us c.pg c.st kind k ad kn [] = .ok z D → Box4 g5 w' z → X w') :
   Calls Tryz.prog 11 #[.pointer (some ⟨p,0,none⟩),.pointer (some ⟨g1,0,none⟩),.pointer (some ⟨g2,0,none⟩),.pointer (some ⟨g3,0,none⟩),.pointer (some ⟨g4,0,none⟩),.pointer (some ⟨g5,0,none⟩)] W (WentY W F (fun b => b = g5) Y X p kn (ranOf (gdoneP c.us c.pg c.st kind k ad kn []))) := by
 obtain ⟨t0,h4⟩ := h4
 have hjl : j < l.length := by
   rcases Nat.lt_or_ge j l.length with q | q
   · exact q
   · rw [List.getElem?_eq_none q] at hj; cases hj
 have hs' := hs
 clear hs
 obtain ⟨s,o,rfl,hs,hc⟩ := hL.resolve_left (by intro q; rw [q] at hjl; simp at hjl)
 obtain ⟨y0,y1,y2⟩ := hc j _ hj
 simp only at y0 y1 y2
 have H1 := hQQ h1
 have H4 := hQQ h4
 have hl4 := lt_of_heap h4
 have c2 := (box_cells h2).1
 have c3 := (box_cells h3).1
 have c4 := (box_cells ha).1
 have C4 := hQQ (fun W' (m : More W W') => And.intro (m.cell y0) (And.intro (m.cell y1) (m.cell y2)))
 have EN := hQQ (fun w' (m' : More W w') => g_done R H hn F p kn [] kind k m ad w' (hv.more m') hk (invD_nil n) bt (hs'.more m') nF0 nFb)
 have HY := hQQ hY
 have HX := hQQ hX
 clear hv h1 h2 h3 h4 hY hX hk R hc y0 y1 y2 hj ha hs' nF0 nFb
 go_enter Tryz.func11,Tryz.ntmps11
 refine wp_region_more_tail 7 (by kernel_rfl) (by kernel_rfl) ?_
 simp only [List.take_succ_cons,List.take_zero,List.drop_succ_cons,List.drop_zero]
 with_reducible refine wpQuiet_step (fun K hK => ?_)
 go_simp
 first
 | (refine hK _ ?_; clear hK K)
 | (apply Exists.intro
    refine ⟨fun W hW => ?_,hK _ ?_⟩
    first
    | (have c2' := hW.cell c2; have c3' := hW.cell c3; have c4' := hW.cell c4; go_simp; try rfl)
    clear hK K)
 refine wpQuiet_load_row rfl 28 _ rfl _ rfl 28 _ _ _ (fun W hW => hW.block H1.out) Tryz.underlying28 rfl (by kernel_rfl) ?_
 with_reducible refine wpQuiet_step (fun K hK => ?_)
 go_simp
 first
 | (refine hK _ ?_; clear hK K)
 | (apply Exists.intro
    refine ⟨fun W hW => ?_,hK _ ?_⟩
    first
    | (have c2' := hW.cell c2; have c3' := hW.cell c3; have c4' := hW.cell c4; go_simp; try rfl)
    clear hK K)
 with_reducible refine wpQuiet_step (fun K hK => ?_)
 go_simp
 first
 | (refine hK _ ?_; clear hK K)
 | (apply Exists.intro
    refine ⟨fun W hW => ?_,hK _ ?_⟩
    first
    | (have c2' := hW.cell c2; have c3' := hW.cell c3; have c4' := hW.cell c4; go_simp; try rfl)
    clear hK K)
 with_reducible refine wpQuiet_step (fun K hK => ?_)
 go_simp
 first
 | (refine hK _ ?_; clear hK K)
 | (apply Exists.intro
    refine ⟨fun W hW => ?_,hK _ ?_⟩
    first
    | (have c2' := hW.cell c2; have c3' := hW.cell c3; have c4' := hW.cell c4; go_simp; try rfl)
    clear hK K)
 refine wpQuiet_ld3 rfl 38 _ rfl s (o + j * 3) rfl _ _ _ _ (fun W hW => C4.out W hW) Tryz.underlying38 rfl (by kernel_rfl) ?_
 with_reducible refine wpQuiet_step (fun K hK => ?_)
 go_simp
 first
 | (refine hK _ ?_; clear hK K)
 | (apply Exists.intro
    refine ⟨fun W hW => ?_,hK _ ?_⟩
    first
    | (have c2' := hW.cell c2; have c3' := hW.cell c3; have c4' := hW.cell c4; go_simp; try rfl)
    clear hK K)
 refine wpQuiet_nil ?_
 intro w4 m4
 have M4 := hQQ m4
 clear m4
 go_wp2_with fail
 refine (EN.out w4 M4.out).mono ?_
 intro e w1 he
 have he := he.after M4.out
 cases hE : gdoneP c.us c.pg c.st kind k ad kn [] with
 | need a =>
   rw [hE] at he
   obtain ⟨rfl,hd,ht⟩ := he
   refine ⟨rfl,(?_ : WentY W F (fun k => k = g5) Y X p kn (ranOf (.need a)) _ _)⟩
   exact ⟨rfl,hd,ht.mono (fun _ _ q => .inl q),HY.out _ (ht.mono (fun _ _ q => .inl q)) ⟨t0,(ht.block g5 hl4 n4).trans H4.out⟩⟩
 | ok x D =>
   rw [hE] at he
   obtain ⟨rfl,F',hv1,ht,hf⟩ := he
   have b2 : Box4 g5 w1 t0 := (ht.block g5 hl4 n4).trans H4.out
   have n2' : ¬ F' g5 := fun q => by rcases hf g5 q with q | q; exact n4 q; omega
   have X0 := HX.out
   rw [hE] at X0
   have HXD := hQQ X0
   have B2 := hQQ b2
   have HV1 := hQQ hv1
   have HT := hQQ ht
   have HE := hQQ hE
   clear b2 hv1 ht X0 HX hE
   go_wp2_with (refine wpList_store_row rfl 39 _ _ rfl g5 (row4 x) rfl rfl 39 (row4 t0) B2.out (by kernel_rfl) rfl (by simp [row4,Value.oneCell']) ?_)
   go_end0
   have q2 : Box4 g5 (w1.setRow g5 (row4 x)) x := setRow_heap _ _ _ _ _ _ B2.out
   have t2 : Turned (fun k => k = g5) w1 (w1.setRow g5 (row4 x)) := Turned.setRow (Turned.refl _ w1) _ _ (fun _ => rfl)
   have tt : Turned (fun b => F b ∨ b = g5) W (w1.setRow g5 (row4 x)) := Turned.setRow (HT.out.mono (fun _ _ q => .inl q)) _ _ (fun _ => .inr rfl)
   show WentY W F (fun k => k = g5) Y X p kn (ranOf (gdoneP c.us c.pg c.st kind k ad kn [])) _ _
   rw [HE.out]
   refine ⟨rfl,⟨F',?_⟩,tt,HY.out _ tt ⟨x,q2⟩,HXD.out _ x D rfl q2⟩
   exact HV1.out.keepS t2 (fun k hk e => n2' (e ▸ hk)) (fun k es cl e h => by subst e; rw [B2.out] at h; cases h)
structure EpG (g1 g2 g3 g4 g5 bt : Nat) (c : Cfg) (a : Option Addr) (capl : Nat) (l : List Ins3) (j : Nat) (ad : Int) (w : World) : Prop where
 h1 : w.heap[g1]? = some (.cells c.arr 28 (0,0))
 h2 : w.heap[g2]? = some (.cells #[.slice a l.length capl] 24 (0,0))
 h3 : w.heap[g3]? = some (.cells #[.int .i64 (j : Int)] 3 (0,0))
 h4 : w.heap[g4]? = some (.cells #[.int .i64 ad] 3 (0,0))
 h5 : ∃ t,Box4 g5 w t
 sz : SzAt bt w
theorem EpG.keep {g1 g2 g3 g4 g5 bt : Nat} {c : Cfg} {a : Option Addr} {capl : Nat} {l : List Ins3} {j : Nat} {ad : Int} {S : Nat → Prop} {w w' : World} (h : EpG g1 g2 g3 g4 g5 bt c a capl l j ad w) (t : Turned S w w') (n1 : ¬ S g1) (n2 : ¬ S g2) (n3 : ¬ S g3) (n4 : ¬ S g4) (n0 : ¬ S 0) (nb : ¬ S bt) (b : ∃ t,Box4 g5 w' t) : EpG g1 g2 g3 g4 g5 bt c a capl l j ad w' :=
 ⟨(t.block g1 (lt_of_heap h.h1) n1).trans h.h1,(t.block g2 (lt_of_heap h.h2) n2).trans h.h2,(t.block g3 (lt_of_heap h.h3) n3).trans h.h3,(t.block g4 (lt_of_heap h.h4) n4).trans h.h4,b,h.sz.keep t n0 nb⟩
theorem pg_do {c : Cfg} (R : c.Ok) (zs : List Int) (H : HdIn c.pg c.st zs.length) (hlen : zs.length ≤ 1000) (hz : OkW zs) (kind k m ad : Int) (w : World) (g1 g2 g3 g4 g5 bt : Nat) (a : Option Addr) (cap : Nat) (al : Option Addr) (capl : Nat) (l : List Ins3) (j : Nat) (hp : EpG g1 g2 g3 g4 g5 bt c al capl l j ad w) (hL : IsIns w al l) (hll : l.length ≤ 1000) (hj : l[j]? = some (kind,k,m)) (d1 : g1 ≠ g5) (d2 : g2 ≠ g5) (d3 : g3 ≠ g5) (d4 : g4 ≠ g5) (d0 : 0 ≠ g5) (db : bt ≠ g5) (hal : l ≠ [] → ∀ b,leads al b → b ≠ g5) (hw : IsWords w a zs) :
   Calls Tryz.prog 10 #[.slice a zs.length cap,.func (.func 11) #[] #[.pointer (some ⟨g1,0,none⟩),.pointer (some ⟨g2,0,none⟩),.pointer (some ⟨g3,0,none⟩),.pointer (some ⟨g4,0,none⟩),.pointer (some ⟨g5,0,none⟩)]] w (fun e w' => ∃ v1 v2,e = .returned (.tuple #[v1,v2,.int .i64 0]) ∧ Rw w.heap.size w' v1 (gdoneV c.us c.pg c.st kind k ad zs).2 ∧ Box4 g5 w' (gdoneV c.us c.pg c.st kind k ad zs).1 ∧ Turned (fun b => b = g5) w w') := by
 have l1 := lt_of_heap hp.h1
 have l2 := lt_of_heap hp.h2
 have l3 := lt_of_heap hp.h3
 have l4 := lt_of_heap hp.h4
 have l5 : g5 < w.heap.size := by obtain ⟨z,q⟩ := hp.h5; exact lt_of_heap q
 have l0 := hp.sz.lt0
 have lb := hp.sz.lt
 have G := good_gdone H c.us kind k ad
 obtain ⟨K',hK',_,hans⟩ := flat_do (sound_gdone c.us c.pg c.st kind k ad) G hz (flat_gdone H c.us kind k ad)
 have M := doY_ok a cap zs (fun K => ranOf (gdoneP c.us c.pg c.st kind k ad (look K) [])) (some ((gdoneV c.us c.pg c.st kind k ad zs).2,K')) zs.length w hw hlen hz (fine_of G hz (by omega)) (by omega) hK' 11 #[.pointer (some ⟨g1,0,none⟩),.pointer (some ⟨g2,0,none⟩),.pointer (some ⟨g3,0,none⟩),.pointer (some ⟨g4,0,none⟩),.pointer (some ⟨g5,0,none⟩)] (fun b => b = g5)
   (fun w' => EpG g1 g2 g3 g4 g5 bt c al capl l j ad w') (fun w' => Box4 g5 w' (gdoneV c.us c.pg c.st kind k ad zs).1)
   (fun k q => by subst q; exact l5)
   (fun w' w'' y t => y.keep t (by omega) (by omega) (by omega) (by omega) (by omega) (by omega) (by obtain ⟨z,q⟩ := y.h5; exact ⟨z,(t.block g5 (lt_of_heap q) (by omega)).trans q⟩))
   (fun w' w'' y t => (t.block g5 (lt_of_heap y) (by omega)).trans y) hp (enters_of Tryz.func11 (by kernel_rfl) rfl)
   (fun K hK W F p t yy hv hF => pg_clo R H (by omega) F p g1 g2 g3 g4 g5 (look K) al capl l j kind k m ad bt W hv (okK_of hK hz) yy.h1 yy.h2 yy.h3 yy.h4 yy.h5 yy.sz (fun q => by have := hF _ q; omega) (fun q => by have := hF _ q; omega) (hL.keepN t (fun ne b hb e => hal ne b hb e)) hll hj (fun q => by have := hF _ q; omega) _ _
     (fun w' t' b => yy.keep t' (by rintro (q | q); have := hF _ q; omega; exact d1 q) (by rintro (q | q); have := hF _ q; omega; exact d2 q) (by rintro (q | q); have := hF _ q; omega; exact d3 q) (by rintro (q | q); have := hF _ q; omega; exact d4 q) (by rintro (q | q); have := hF _ q; omega; exact d0 q) (by rintro (q | q); have := hF _ q; omega; exact db q) b)
     (fun w' z D e q => by rw [← hans K hK z D e]; exact q))
 refine M.mono ?_
 rintro e w' ⟨v1,v2,rfl,r1,_,t,_,x⟩
 exact ⟨v1,v2,rfl,r1,x,t⟩
end Go.Proofs.YtflihdcliknggaaGreatDoor
namespace Go.Proofs.YtflihdcliknggaaGreatDoor
open Go.RowKit
theorem rslots (c : Nat) (h4 : c ≤ 4) (w : World) :
   Calls Tryz.prog 165 #[.int .i64 c] w (Gives w (.int .i64 (slotsV c))) := by
 go_enter Tryz.func165,Tryz.ntmps165
 go_wp2_with fail
 go_loop [3,4] (fun n i => ∃ k : Nat,k ≤ c ∧ i = .int .i64 k ∧ n = .int .i64 (slotsV k)) (fun _ i => c - (intOf i).toNat)
 case atStart => exact ⟨0,Nat.zero_le _,rfl,rfl⟩
 case round =>
   obtain ⟨k,hk,rfl,rfl⟩ := hrel
   by_cases hlt : k < c
   · have d5 : decide ((k : Int) < 5) = true := by simp; omega
     obtain ⟨s1,s2,s3⟩ := slots_step k (by omega) (by omega)
     have HS := hQQ s1; clear s1
     go_wp2_with fail
     go_round
     case rel => exact ⟨k + 1,by omega,by go_num,by rw [HS.out]; go_num⟩
     case measure => simp [intOf]; omega
   · have he : k = c := by omega
     subst he
     go_wp2_with fail
     go_ret
     exact ⟨rfl,More.refl _⟩
variable (wk cp pg st tr wt ck pr ca bi ba : Int) (w : World)
theorem rplace_in (a : Int) (R : CfgOk wk cp pg st tr wt ck pr ca bi ba) (c0 : userV cp pg st ca bi ≤ a) (c1 : a < wordsV cp pg st ca bi) :
   Calls Tryz.prog 86 #[.agg #[.int .i64 wk,.int .i64 cp,.int .i64 pg,.int .i64 st,.int .i64 tr,.int .i64 wt,.int .i64 ck,.int .i64 pr,.int .i64 ca,.int .i64 bi,.int .i64 ba],.int .i64 a] w (Gives w (.tuple #[.int .i64 ((a - userV cp pg st ca bi) / 32),.int .i64 ((a - userV cp pg st ca bi) % 32),.bool true])) := by
 have HR := hQQ R
 have b1 := wordsB R
 have b2 := userB R
 have d0 : decide (a < userV cp pg st ca bi) = false := by simp; omega
 have d1 : decide (wordsV cp pg st ca bi ≤ a) = false := by simp; omega
 have HN := hQQ (cfgAt_new w 30 wk cp pg st tr wt ck pr ca bi ba)
 obtain ⟨e0,e1,e2,e3,e4,e5,e6,e7,e8,e9,e10⟩ := HN.out.cells (More.refl _)
 clear R
 go_enter Tryz.func86,Tryz.ntmps86
 go_wp2_with fail
 refine (ruser _ _ _ _ _ _ _ _ _ _ _ _ HR.out).mono ?_
 rintro e w1 ⟨rfl,h1⟩
 obtain ⟨e0,e1,e2,e3,e4,e5,e6,e7,e8,e9,e10⟩ := HN.out.cells h1
 go_wp2_with fail
 refine (rwords _ _ _ _ _ _ _ _ _ _ _ _ HR.out).mono ?_
 rintro e w2 ⟨rfl,h2⟩
 obtain ⟨e0,e1,e2,e3,e4,e5,e6,e7,e8,e9,e10⟩ := HN.out.cells (h1.trans h2)
 go_wp2_with fail
 refine (ruser _ _ _ _ _ _ _ _ _ _ _ _ HR.out).mono ?_
 rintro e w3 ⟨rfl,h3⟩
 go_wp2_with fail
 go_ret3
 exact ⟨rfl,((((More.refl _).alloc _).trans h1).trans h2).trans h3⟩
theorem rplace_out (a : Int) (R : CfgOk wk cp pg st tr wt ck pr ca bi ba) (c : a < userV cp pg st ca bi ∨ wordsV cp pg st ca bi ≤ a) :
   Calls Tryz.prog 86 #[.agg #[.int .i64 wk,.int .i64 cp,.int .i64 pg,.int .i64 st,.int .i64 tr,.int .i64 wt,.int .i64 ck,.int .i64 pr,.int .i64 ca,.int .i64 bi,.int .i64 ba],.int .i64 a] w (Gives w (.tuple #[.int .i64 0,.int .i64 0,.bool false])) := by
 have HR := hQQ R
 have b1 := wordsB R
 have b2 := userB R
 have HN := hQQ (cfgAt_new w 30 wk cp pg st tr wt ck pr ca bi ba)
 obtain ⟨e0,e1,e2,e3,e4,e5,e6,e7,e8,e9,e10⟩ := HN.out.cells (More.refl _)
 clear R
 by_cases c0 : a < userV cp pg st ca bi
 · have d0 : decide (a < userV cp pg st ca bi) = true := by simp; omega
   clear c
   go_enter Tryz.func86,Tryz.ntmps86
   go_wp2_with fail
   refine (ruser _ _ _ _ _ _ _ _ _ _ _ _ HR.out).mono ?_
   rintro e w1 ⟨rfl,h1⟩
   go_wp2_with fail
   go_ret3
   exact ⟨rfl,((More.refl _).alloc _).trans h1⟩
 · have d0 : decide (a < userV cp pg st ca bi) = false := by simp; omega
   have d1 : decide (wordsV cp pg st ca bi ≤ a) = true := by simp; omega
   clear c
   go_enter Tryz.func86,Tryz.ntmps86
   go_wp2_with fail
   refine (ruser _ _ _ _ _ _ _ _ _ _ _ _ HR.out).mono ?_
   rintro e w1 ⟨rfl,h1⟩
   obtain ⟨e0,e1,e2,e3,e4,e5,e6,e7,e8,e9,e10⟩ := HN.out.cells h1
   go_wp2_with fail
   refine (rwords _ _ _ _ _ _ _ _ _ _ _ _ HR.out).mono ?_
   rintro e w2 ⟨rfl,h2⟩
   go_wp2_with fail
   go_ret3
   exact ⟨rfl,(((More.refl _).alloc _).trans h1).trans h2⟩
variable (wk cp pg st tr wt ck pr ca bi ba : Int) (w : World)
theorem rhead_none (c f : Int) (h : c < 0 ∨ 4 < c) :
   Calls Tryz.prog 150 #[.agg #[.int .i64 wk,.int .i64 cp,.int .i64 pg,.int .i64 st,.int .i64 tr,.int .i64 wt,.int .i64 ck,.int .i64 pr,.int .i64 ca,.int .i64 bi,.int .i64 ba],.int .i64 c,.int .i64 f] w (Gives w (.int .i64 (headV pg st c f))) := by
 rw [show headV pg st c f = 0 from if_neg (by omega)]
 by_cases c0 : c < 0
 · have d0 : decide (c < 0) = true := by simp; omega
   clear h
   go_enter Tryz.func150,Tryz.ntmps150
   go_wp2_with fail
   go_ret
   exact ⟨rfl,(More.refl _).alloc _⟩
 · have d0 : decide (c < 0) = false := by simp; omega
   have d1 : decide (4 < c) = true := by simp; omega
   clear h
   go_enter Tryz.func150,Tryz.ntmps150
   go_wp2_with fail
   go_ret
   exact ⟨rfl,(More.refl _).alloc _⟩
theorem rhead_in (c : Nat) (f : Int) (R : CfgOk wk cp pg st tr wt ck pr ca bi ba) (hc4 : c ≤ 4) (f0 : 1 ≤ f) (f1 : f ≤ slotsV c) :
   Calls Tryz.prog 150 #[.agg #[.int .i64 wk,.int .i64 cp,.int .i64 pg,.int .i64 st,.int .i64 tr,.int .i64 wt,.int .i64 ck,.int .i64 pr,.int .i64 ca,.int .i64 bi,.int .i64 ba],.int .i64 c,.int .i64 f] w (Gives w (.int .i64 (headV pg st c f))) := by
 rw [show headV pg st c f = headsV st pg + aheadV c + f - 1 from if_pos (by omega)]
 have HR := hQQ R
 have b1 := headsB R
 have b2 := slots_lo c (by omega) (by omega)
 have b3 := ahead_b c (by omega) (by omega)
 have d0 : decide ((c : Int) < 0) = false := by simp
 have d1 : decide ((4 : Int) < (c : Int)) = false := by simp; omega
 have t0 : decide ((1 : Int) ≤ f) = true := by simp; omega
 have t1 : decide (f ≤ slotsV c) = true := by simp; omega
 have q0 : IntKind.i64.wrap (headsV st pg + aheadV c) = headsV st pg + aheadV c := wrap_in (by omega) (by omega)
 have q1 : IntKind.i64.wrap (headsV st pg + aheadV c + f) = headsV st pg + aheadV c + f := wrap_in (by omega) (by omega)
 have q2 : IntKind.i64.wrap (headsV st pg + aheadV c + f - 1) = headsV st pg + aheadV c + f - 1 := wrap_in (by omega) (by omega)
 have HC := hQQ (cfgAt_new w 30 wk cp pg st tr wt ck pr ca bi ba)
 have HM : Hid (More w (w.alloc (.cells #[.int .i64 wk,.int .i64 cp,.int .i64 pg,.int .i64 st,.int .i64 tr,.int .i64 wt,.int .i64 ck,.int .i64 pr,.int .i64 ca,.int .i64 bi,.int .i64 ba] 30))) := (More.refl w).alloc _
 clear R
 go_enter Tryz.func150,Tryz.ntmps150
 go_wp2_with fail
 generalize w.alloc (.cells #[.int .i64 wk,.int .i64 cp,.int .i64 pg,.int .i64 st,.int .i64 tr,.int .i64 wt,.int .i64 ck,.int .i64 pr,.int .i64 ca,.int .i64 bi,.int .i64 ba] 30) = W0 at *
 go_loopw [7,8] (fun n i wr => ∃ k : Nat,k ≤ c ∧ i = .int .i64 k ∧ n = .int .i64 (aheadV k) ∧ More W0 wr) (fun _ i _ => c - (intOf i).toNat)
 case atStart => exact ⟨0,Nat.zero_le _,rfl,rfl,More.refl _⟩
 case round =>
   obtain ⟨k,hk,rfl,rfl,hm⟩ := hrel
   by_cases hlt : k < c
   · obtain ⟨a1,a2,a3⟩ := ahead_step k (by omega) (by omega)
     have b4 := slots_lo k (by omega) (by omega)
     have HA := hQQ a1; clear a1
     have Hm := hQQ hm; clear hm
     go_wp2_with fail
     refine (rslots k (by omega) _).mono ?_
     rintro e w1 ⟨rfl,h1⟩
     have H2 := hQQ (Hm.out.trans h1); clear h1
     go_wp2_with fail
     go_roundw
     case rel => exact ⟨k + 1,by omega,by go_num,by rw [HA.out]; go_num,H2.out⟩
     case measure => simp [intOf]; omega
   · have he : k = c := by omega
     subst he
     have HMr := hQQ hm; clear hm
     have hne : ∃ W,More wr W := ⟨wr,More.refl _⟩
     go_wp2_with fail
     refine wp_region_more (by kernel_rfl) (by kernel_rfl) ?_
     iterate 17
       with_reducible refine wpQuiet_step (fun K hK => ?_)
       go_simp
       first
       | (refine hK _ ?_; clear hK K)
       | (apply Exists.intro
          refine ⟨fun W hW => ?_,hK _ ?_⟩
          first
          | (go_at_call 146; exact Calls.more hW (rheads _ _ _ _ _ _ _ _ _ _ _ _ HR.out))
          | (go_at_call 122; exact Calls.more hW (rat_yes _ _))
          | (go_at_call 165; exact Calls.more hW (rslots k hc4 _))
          | (obtain ⟨e0,e1,e2,e3,e4,e5,e6,e7,e8,e9,e10⟩ := HC.out.cells (HMr.out.trans hW); go_simp; try rfl)
          clear hK K)
     refine wpQuiet_nil ?_
     intro W hW
     have HW := hQQ hW
     clear hW
     go_wp2_with fail
     go_ret
     exact ⟨rfl,(HM.out.trans HMr.out).trans HW.out⟩
theorem rhead_low (c : Nat) (f : Int) (R : CfgOk wk cp pg st tr wt ck pr ca bi ba) (hc4 : c ≤ 4) (f0 : ¬ 1 ≤ f) :
   Calls Tryz.prog 150 #[.agg #[.int .i64 wk,.int .i64 cp,.int .i64 pg,.int .i64 st,.int .i64 tr,.int .i64 wt,.int .i64 ck,.int .i64 pr,.int .i64 ca,.int .i64 bi,.int .i64 ba],.int .i64 c,.int .i64 f] w (Gives w (.int .i64 (headV pg st c f))) := by
 rw [show headV pg st c f = 0 from if_neg (by omega)]
 have HR := hQQ R
 have b1 := headsB R
 have b2 := slots_lo c (by omega) (by omega)
 have b3 := ahead_b c (by omega) (by omega)
 have d0 : decide ((c : Int) < 0) = false := by simp
 have d1 : decide ((4 : Int) < (c : Int)) = false := by simp; omega
 have t0 : decide ((1 : Int) ≤ f) = false := by simp; omega
 have HC := hQQ (cfgAt_new w 30 wk cp pg st tr wt ck pr ca bi ba)
 have HM : Hid (More w (w.alloc (.cells #[.int .i64 wk,.int .i64 cp,.int .i64 pg,.int .i64 st,.int .i64 tr,.int .i64 wt,.int .i64 ck,.int .i64 pr,.int .i64 ca,.int .i64 bi,.int .i64 ba] 30))) := (More.refl w).alloc _
 clear R
 go_enter Tryz.func150,Tryz.ntmps150
 go_wp2_with fail
 generalize w.alloc (.cells #[.int .i64 wk,.int .i64 cp,.int .i64 pg,.int .i64 st,.int .i64 tr,.int .i64 wt,.int .i64 ck,.int .i64 pr,.int .i64 ca,.int .i64 bi,.int .i64 ba] 30) = W0 at *
 go_loopw [7,8] (fun n i wr => ∃ k : Nat,k ≤ c ∧ i = .int .i64 k ∧ n = .int .i64 (aheadV k) ∧ More W0 wr) (fun _ i _ => c - (intOf i).toNat)
 case atStart => exact ⟨0,Nat.zero_le _,rfl,rfl,More.refl _⟩
 case round =>
   obtain ⟨k,hk,rfl,rfl,hm⟩ := hrel
   by_cases hlt : k < c
   · obtain ⟨a1,a2,a3⟩ := ahead_step k (by omega) (by omega)
     have b4 := slots_lo k (by omega) (by omega)
     have HA := hQQ a1; clear a1
     have Hm := hQQ hm; clear hm
     go_wp2_with fail
     refine (rslots k (by omega) _).mono ?_
     rintro e w1 ⟨rfl,h1⟩
     have H2 := hQQ (Hm.out.trans h1); clear h1
     go_wp2_with fail
     go_roundw
     case rel => exact ⟨k + 1,by omega,by go_num,by rw [HA.out]; go_num,H2.out⟩
     case measure => simp [intOf]; omega
   · have he : k = c := by omega
     subst he
     have HMr := hQQ hm; clear hm
     have hne : ∃ W,More wr W := ⟨wr,More.refl _⟩
     go_wp2_with fail
     refine wp_region_more (by kernel_rfl) (by kernel_rfl) ?_
     iterate 17
       with_reducible refine wpQuiet_step (fun K hK => ?_)
       go_simp
       first
       | (refine hK _ ?_; clear hK K)
       | (apply Exists.intro
          refine ⟨fun W hW => ?_,hK _ ?_⟩
          first
          | (go_at_call 146; exact Calls.more hW (rheads _ _ _ _ _ _ _ _ _ _ _ _ HR.out))
          | (go_at_call 122; exact Calls.more hW (rat_no _ _))
          | (go_at_call 165; exact Calls.more hW (rslots k hc4 _))
          | (obtain ⟨e0,e1,e2,e3,e4,e5,e6,e7,e8,e9,e10⟩ := HC.out.cells (HMr.out.trans hW); go_simp; try rfl)
          clear hK K)
     refine wpQuiet_nil ?_
     intro W hW
     have HW := hQQ hW
     clear hW
     go_wp2_with fail
     go_ret
     exact ⟨rfl,(HM.out.trans HMr.out).trans HW.out⟩
theorem rhead_high (c : Nat) (f : Int) (R : CfgOk wk cp pg st tr wt ck pr ca bi ba) (hc4 : c ≤ 4) (f0 : 1 ≤ f) (f1 : ¬ f ≤ slotsV c) :
   Calls Tryz.prog 150 #[.agg #[.int .i64 wk,.int .i64 cp,.int .i64 pg,.int .i64 st,.int .i64 tr,.int .i64 wt,.int .i64 ck,.int .i64 pr,.int .i64 ca,.int .i64 bi,.int .i64 ba],.int .i64 c,.int .i64 f] w (Gives w (.int .i64 (headV pg st c f))) := by
 rw [show headV pg st c f = 0 from if_neg (by omega)]
 have HR := hQQ R
 have b1 := headsB R
 have b2 := slots_lo c (by omega) (by omega)
 have b3 := ahead_b c (by omega) (by omega)
 have d0 : decide ((c : Int) < 0) = false := by simp
 have d1 : decide ((4 : Int) < (c : Int)) = false := by simp; omega
 have t0 : decide ((1 : Int) ≤ f) = true := by simp; omega
 have t1 : decide (f ≤ slotsV c) = false := by simp; omega
 have HC := hQQ (cfgAt_new w 30 wk cp pg st tr wt ck pr ca bi ba)
 have HM : Hid (More w (w.alloc (.cells #[.int .i64 wk,.int .i64 cp,.int .i64 pg,.int .i64 st,.int .i64 tr,.int .i64 wt,.int .i64 ck,.int .i64 pr,.int .i64 ca,.int .i64 bi,.int .i64 ba] 30))) := (More.refl w).alloc _
 clear R
 go_enter Tryz.func150,Tryz.ntmps150
 go_wp2_with fail
 generalize w.alloc (.cells #[.int .i64 wk,.int .i64 cp,.int .i64 pg,.int .i64 st,.int .i64 tr,.int .i64 wt,.int .i64 ck,.int .i64 pr,.int .i64 ca,.int .i64 bi,.int .i64 ba] 30) = W0 at *
 go_loopw [7,8] (fun n i wr => ∃ k : Nat,k ≤ c ∧ i = .int .i64 k ∧ n = .int .i64 (aheadV k) ∧ More W0 wr) (fun _ i _ => c - (intOf i).toNat)
 case atStart => exact ⟨0,Nat.zero_le _,rfl,rfl,More.refl _⟩
 case round =>
   obtain ⟨k,hk,rfl,rfl,hm⟩ := hrel
   by_cases hlt : k < c
   · obtain ⟨a1,a2,a3⟩ := ahead_step k (by omega) (by omega)
     have b4 := slots_lo k (by omega) (by omega)
     have HA := hQQ a1; clear a1
     have Hm := hQQ hm; clear hm
     go_wp2_with fail
     refine (rslots k (by omega) _).mono ?_
     rintro e w1 ⟨rfl,h1⟩
     have H2 := hQQ (Hm.out.trans h1); clear h1
     go_wp2_with fail
     go_roundw
     case rel => exact ⟨k + 1,by omega,by go_num,by rw [HA.out]; go_num,H2.out⟩
     case measure => simp [intOf]; omega
   · have he : k = c := by omega
     subst he
     have HMr := hQQ hm; clear hm
     have hne : ∃ W,More wr W := ⟨wr,More.refl _⟩
     go_wp2_with fail
     refine wp_region_more (by kernel_rfl) (by kernel_rfl) ?_
     iterate 17
       with_reducible refine wpQuiet_step (fun K hK => ?_)
       go_simp
       first
       | (refine hK _ ?_; clear hK K)
       | (apply Exists.intro
          refine ⟨fun W hW => ?_,hK _ ?_⟩
          first
          | (go_at_call 146; exact Calls.more hW (rheads _ _ _ _ _ _ _ _ _ _ _ _ HR.out))
          | (go_at_call 122; exact Calls.more hW (rat_no _ _))
          | (go_at_call 165; exact Calls.more hW (rslots k hc4 _))
          | (obtain ⟨e0,e1,e2,e3,e4,e5,e6,e7,e8,e9,e10⟩ := HC.out.cells (HMr.out.trans hW); go_simp; try rfl)
          clear hK K)
     refine wpQuiet_nil ?_
     intro W hW
     have HW := hQQ hW
     clear hW
     go_wp2_with fail
     go_ret
     exact ⟨rfl,(HM.out.trans HMr.out).trans HW.out⟩
theorem rhead (c f : Int) (R : CfgOk wk cp pg st tr wt ck pr ca bi ba) :
   Calls Tryz.prog 150 #[.agg #[.int .i64 wk,.int .i64 cp,.int .i64 pg,.int .i64 st,.int .i64 tr,.int .i64 wt,.int .i64 ck,.int .i64 pr,.int .i64 ca,.int .i64 bi,.int .i64 ba],.int .i64 c,.int .i64 f] w (Gives w (.int .i64 (headV pg st c f))) := by
 by_cases h : c < 0 ∨ 4 < c
 · exact rhead_none wk cp pg st tr wt ck pr ca bi ba w c f h
 obtain ⟨k,rfl⟩ : ∃ k : Nat,c = k := ⟨c.toNat,by omega⟩
 by_cases f0 : 1 ≤ f
 · by_cases f1 : f ≤ slotsV k
   · exact rhead_in wk cp pg st tr wt ck pr ca bi ba w k f R (by omega) f0 f1
   · exact rhead_high wk cp pg st tr wt ck pr ca bi ba w k f R (by omega) f0 f1
 · exact rhead_low wk cp pg st tr wt ck pr ca bi ba w k f R (by omega) f0
end Go.Proofs.YtflihdcliknggaaGreatDoor
