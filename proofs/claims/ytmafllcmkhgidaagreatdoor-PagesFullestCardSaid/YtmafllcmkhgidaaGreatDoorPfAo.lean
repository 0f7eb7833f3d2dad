/-
  Words behind pages' calls: which pages are of which class, which of their blocks are taken, and in which list each is.
-/
import Derived.Test.YtmafllcmkhgidaaGreatDoorPfAn
import Derived.Test.YtmafllcmkhgidaaGreatDoorPfAm
set_option maxRecDepth 100000
set_option maxHeartbeats 8000000
set_option linter.unusedVariables false
set_option linter.unusedSimpArgs false
set_option linter.unusedSectionVars false
namespace Go.Proofs.YtmafllcmkhgidaaGreatDoor
theorem bit_zero (j : Nat) : bitB 0 j = false := by simp [bitB,bvOf]
theorem endN_slots {k : Int} : ((endN (slotsC k) : Nat) : Int) = slotsC k := by
 have := slots_in k
 unfold endN; omega
theorem open_zero (k : Int) : openV k 0 = slotsC k := by
 have : onN 0 (endN (slotsC k)) = [] := List.filter_eq_nil_iff.2 (fun j _ => by rw [bit_zero]; simp)
 unfold openV slCountV
 rw [this]; simp
theorem open_set {b k : Int} {j : Nat} (hj : (j : Int) < slotsC k) (hb : bitB b j = false) : openV k (setV b (j : Int)) = openV k b - 1 := by
 have hs := slots_in k
 have he := endN_slots (k:=k)
 have := on_set (w:=b) (i:=(j : Int)) (inR_nat (by omega)) (by simpa using hb) (endN (slotsC k)) (endN_le _)
 rw [if_pos (by omega)] at this
 unfold openV slCountV
 omega
theorem first_open {b k : Int} (h : 1 ≤ openV k b) : ∃ j : Nat,slFirstV b (slotsC k) = (j : Int) ∧ (j : Int) < slotsC k ∧ bitB b j = false ∧ openV k (setV b (j : Int)) = openV k b - 1 := by
 have he := endN_slots (k:=k)
 rcases offN_ways b (endN (slotsC k)) with ⟨_,ha⟩ | ⟨j,hj,e,hb,_⟩
 · have := on_all ha
   unfold openV slCountV at h
   omega
 · exact ⟨j,e,by omega,hb,open_set (by omega) hb⟩
theorem first_zero {k : Int} (h : slotsC k ≠ 0) : slFirstV 0 (slotsC k) = 0 := by
 have hs := slots_in k
 have he := endN_slots (k:=k)
 exact offN_some (w:=0) (k:=endN (slotsC k)) (j:=0) (by omega) (bit_zero 0) (fun i hi => by omega)
theorem open_clear {b k i : Int} (hw : W64 b) (h0 : 0 ≤ i) (h1 : i < slotsC k) (h : hasB b i = true) : openV k (clearV b i) = openV k b + 1 := by
 have hs := slots_in k
 have hi : inR i = true := (inR_iff i).2 ⟨h0,by omega⟩
 obtain ⟨j,rfl⟩ : ∃ j : Nat,i = (j : Int) := ⟨i.toNat,by omega⟩
 have hb : bitB (clearV b (j : Int)) j = false := by
   have := has_clear (w:=b) hi
   unfold hasB at this
   rw [hi] at this
   simpa using this
 have e := open_set (b:=clearV b (j : Int)) (k:=k) h1 hb
 rw [set_clear hw.1 hw.2 hi h] at e
 omega
def NoL (pg st i : Int) : Prop := ¬ isHd pg st i ∧ ∀ p,isPage pg p = true → i ≠ nA pg st p ∧ i ≠ vA pg st p
section
variable {pg st : Int} {n : Nat} (H : HdIn pg st n)
include H
theorem noL_k {q : Int} (h : isPage pg q = true) : NoL pg st (kA pg st q) := by
 have := isPage_iff.1 h
 refine ⟨fun z => ?_,fun p hp => ?_⟩
 · unfold isHd headsV kA at z; omega
 · have := isPage_iff.1 hp; unfold kA nA vA; omega
theorem noL_c {q : Int} (h : isPage pg q = true) : NoL pg st (cA pg st q) := by
 have := isPage_iff.1 h
 refine ⟨fun z => ?_,fun p hp => ?_⟩
 · unfold isHd headsV cA at z; omega
 · have := isPage_iff.1 hp; unfold cA nA vA; omega
theorem noL_b {q : Int} (h : isPage pg q = true) : NoL pg st (bA pg st q) := by
 have := isPage_iff.1 h
 refine ⟨fun z => ?_,fun p hp => ?_⟩
 · unfold isHd headsV bA at z; omega
 · have := isPage_iff.1 hp; unfold bA nA vA; omega
theorem noL_t {j : Int} (h : isChunk pg j = true) : NoL pg st (tblV pg st j) := by
 have := isChunk_iff.1 h
 have h1 := H.pg1
 rw [tbl_in h]
 refine ⟨fun z => ?_,fun p hp => ?_⟩
 · unfold isHd headsV at z; omega
 · have := isPage_iff.1 hp; unfold nA vA; omega
theorem LOff.kind {a b : List Int} (o : LOff pg st a b) (p : Int) : kindV pg st b p = kindV pg st a p := by
 cases h : isPage pg p with
 | false => rw [kind_out h,kind_out h]
 | true =>
   have h0 := (page_b H.toPgIn h).1.1
   rw [kind_in h,kind_in h,o.off _ (by omega) (noL_k H h).1 (noL_k H h).2]
theorem LOff.cnt {a b : List Int} (o : LOff pg st a b) {p : Int} (h : isPage pg p = true) : cntV pg st b p = cntV pg st a p :=
 o.off _ (page_c H h).1.1 (noL_c H h).1 (noL_c H h).2
theorem LOff.bit {a b : List Int} (o : LOff pg st a b) {p : Int} (h : isPage pg p = true) : bitV pg st b p = bitV pg st a p :=
 o.off _ (page_c H h).2.1 (noL_b H h).1 (noL_b H h).2
theorem LOff.map {a b : List Int} (o : LOff pg st a b) (j : Int) : mappedV pg st b j = mappedV pg st a j := by
 unfold mappedV
 cases h : isChunk pg j with
 | false => rfl
 | true =>
   have h0 := (tbl_b H.toTblIn h).1
   rw [o.off _ (by omega) (noL_t H h).1 (noL_t H h).2]
theorem Ln.same {G : Int → List Int} {a b : List Int} (L : Ln pg st G a) (h : ∀ i,0 ≤ i → ¬ NoL pg st i → wAt b i = wAt a i) : Ln pg st G b := by
 have hh : ∀ i,isHd pg st i → wAt b i = wAt a i := fun i hi => h i (by have := (hd_b H hi).1; omega) (fun z => z.1 hi)
 have hn : ∀ p,isPage pg p = true → wAt b (nA pg st p) = wAt a (nA pg st p) ∧ wAt b (vA pg st p) = wAt a (vA pg st p) := fun p hp =>
   ⟨h _ (by have := (nv_b H hp).1.1; omega) (fun z => (z.2 p hp).1 rfl),h _ (by have := (nv_b H hp).2.1; omega) (fun z => (z.2 p hp).2 rfl)⟩
 refine ⟨fun i hi => by rw [hh i hi]; exact L.head i hi,L.page,L.nodup,L.apart,fun i p hi hp => ?_,fun i p hi hp => ?_,fun p hp hf => ?_⟩
 · rw [(hn p (L.page i hi p hp)).1]; exact L.next i p hi hp
 · rw [(hn p (L.page i hi p hp)).2]; exact L.prev i p hi hp
 · rw [(hn p hp).1,(hn p hp).2]; exact L.free p hp hf
structure Mod (pg st : Int) (n : Nat) (q f' : Int) (T : List Int → List Int) : Prop where
 len : ∀ a,a.length = n → (T a).length = n
 off : ∀ a b,a.length = n → b.length = n → LOff pg st a b → LOff pg st (T a) (T b)
 no : ∀ a,a.length = n → ∀ i,0 ≤ i → ¬ NoL pg st i → wAt (T a) i = wAt a i
 cnt : ∀ a,a.length = n → cntV pg st (T a) q = f'
def setsW (pg st q b f : Int) (ws : List Int) : List Int := (ws.set (bA pg st q).toNat b).set (cA pg st q).toNat f
theorem sets_at {q : Int} (h : isPage pg q = true) (b f : Int) {ws : List Int} (hn : ws.length = n) {i : Int} (hi : 0 ≤ i) : wAt (setsW pg st q b f ws) i = if i = cA pg st q then f else if i = bA pg st q then b else wAt ws i := by
 obtain ⟨⟨b0,b1,_⟩,c0,c1,_⟩ := page_c H h
 unfold setsW
 rw [wAt_set b0 hi (by simp [hn]; exact b1),wAt_set c0 hi (by rw [hn]; exact c1)]
theorem mod_sets {q : Int} (h : isPage pg q = true) (b f : Int) : Mod pg st n q f (setsW pg st q b f) := by
 refine ⟨fun a e => by simp [setsW,e],fun a a' e e' o => ⟨by simp [setsW,e,e'],fun i h0 h1 h2 => ?_⟩,fun a e i h0 h1 => ?_,fun a e => ?_⟩
 · rw [sets_at H h b f e' h0,sets_at H h b f e h0,o.off i h0 h1 h2]
 · have k1 : i ≠ cA pg st q := fun z => h1 (by rw [z]; exact noL_c H h)
   have k2 : i ≠ bA pg st q := fun z => h1 (by rw [z]; exact noL_b H h)
   rw [sets_at H h b f e h0,if_neg k1,if_neg k2]
 · show wAt (setsW pg st q b f a) (cA pg st q) = f
   rw [sets_at H h b f e (page_c H h).1.1,if_pos rfl]
theorem mod_put3 {q : Int} (h : isPage pg q = true) (k x : Int) : Mod pg st n q x (put3V pg st q k x) := by
 refine ⟨fun a e => by rw [put3_len H.toPgIn]; exact e,fun a a' e e' o => ⟨by rw [put3_len H.toPgIn,put3_len H.toPgIn,e,e'],fun i h0 h1 h2 => ?_⟩,fun a e i h0 h1 => ?_,fun a e => ?_⟩
 · rw [put3_at H.toPgIn h k x e' h0,put3_at H.toPgIn h k x e h0,o.off i h0 h1 h2]
 · have k1 : i ≠ cA pg st q := fun z => h1 (by rw [z]; exact noL_c H h)
   have k2 : i ≠ bA pg st q := fun z => h1 (by rw [z]; exact noL_b H h)
   have k3 : i ≠ kA pg st q := fun z => h1 (by rw [z]; exact noL_k H h)
   rw [put3_at H.toPgIn h k x e h0,if_neg k2,if_neg k1,if_neg k3]
 · rw [cnt_put3 H.toPgIn h k x e h,if_pos rfl]
def unlG (pg st : Int) (G : Int → List Int) (k f : Int) (s t : List Int) : Int → List Int := if headV pg st k f = 0 then G else updG G (headV pg st k f) (s ++ t)
def lnkG (pg st : Int) (G : Int → List Int) (q k f : Int) : Int → List Int := if headV pg st k f = 0 then G else updG G (headV pg st k f) (q :: G (headV pg st k f))
theorem lnk_ln {q k f : Int} (hq : isPage pg q = true) {G : Int → List Int} {ws : List Int} (L : Ln pg st G ws) (hn : ws.length = n) (hf : ∀ a,isHd pg st a → q ∉ G a) :
   Ln pg st (lnkG pg st G q k f) (plLinkV pg st q k f ws).2 ∧ LOff pg st ws (plLinkV pg st q k f ws).2 := by
 unfold lnkG
 by_cases hz : headV pg st k f = 0
 · have e : plLinkV pg st q k f ws = (false,ws) := by unfold plLinkV; exact if_neg (fun z => z.1 hz)
   rw [if_pos hz,e]
   exact ⟨L,LOff.refl _ _ _⟩
 · rw [if_neg hz]
   exact link_ln H L hn hz hq hf
theorem unl_ln {q k f : Int} {G : Int → List Int} {s t : List Int} (hin : headV pg st k f ≠ 0 → G (headV pg st k f) = s ++ q :: t ∧ q ∉ s) {ws : List Int} (L : Ln pg st G ws) (hn : ws.length = n) :
   Ln pg st (unlG pg st G k f s t) (plUnlinkV pg st q k f ws).2 ∧ LOff pg st ws (plUnlinkV pg st q k f ws).2 := by
 unfold unlG
 by_cases hz : headV pg st k f = 0
 · rw [if_pos hz,unlink_no H L (fun _ z => absurd hz z)]
   exact ⟨L,LOff.refl _ _ _⟩
 · rw [if_neg hz]
   obtain ⟨h1,h2⟩ := hin hz
   exact (unlink_ln H L hn hz h1 h2).2
theorem moved {q k f f' : Int} {T : List Int → List Int} (M : Mod pg st n q f' T) (hq : isPage pg q = true) {G : Int → List Int} {ws : List Int} (L : Ln pg st G ws) (hn : ws.length = n)
   (hin : ∀ a,isHd pg st a → (q ∈ G a ↔ headV pg st k f = a)) :
   ∃ G1 G2,Ln pg st G1 (plUnlinkV pg st q k f ws).2 ∧ LOff pg st ws (plUnlinkV pg st q k f ws).2 ∧ (plUnlinkV pg st q k f ws).2.length = n ∧ (∀ a,isHd pg st a → q ∉ G1 a) ∧
     Ln pg st G2 (movesV pg st q k f (T ws)) ∧ LOff pg st (T ws) (movesV pg st q k f (T ws)) ∧
     (plLinkV pg st q k f' (T (plUnlinkV pg st q k f ws).2)).2 = movesV pg st q k f (T ws) ∧
     (∀ a p,isHd pg st a → p ≠ q → (p ∈ G2 a ↔ p ∈ G a)) ∧ ∀ a,isHd pg st a → (q ∈ G2 a ↔ headV pg st k f' = a) := by
 obtain ⟨s,t,hst⟩ : ∃ s t,headV pg st k f ≠ 0 → G (headV pg st k f) = s ++ q :: t ∧ q ∉ s := by
   by_cases hz : headV pg st k f = 0
   · exact ⟨[],[],fun z => absurd hz z⟩
   · obtain ⟨s,t,h1,h2⟩ := split_mem ((hin _ (head_hd hz).1).2 rfl)
     exact ⟨s,t,fun _ => ⟨h1,h2⟩⟩
 have m1 : ∀ a,isHd pg st a → q ∉ unlG pg st G k f s t a := fun a ha hm => by
   unfold unlG at hm
   by_cases hz : headV pg st k f = 0
   · rw [if_pos hz] at hm
     have := (hin a ha).1 hm
     rw [hz] at this
     have := (hd_b H ha).1
     omega
   · rw [if_neg hz] at hm
     obtain ⟨h1,h2⟩ := hst hz
     by_cases e : a = headV pg st k f
     · subst e
       rw [updG_at] at hm
       have nd := L.nodup _ (head_hd hz).1
       rw [h1] at nd
       rcases List.mem_append.1 hm with z | z
       · exact h2 z
       · exact (List.nodup_cons.1 (List.nodup_append.1 nd).2.1).1 z
     · rw [updG_ne _ _ _ e] at hm
       exact e ((hin a ha).1 hm).symm
 have m2 : ∀ a p,isHd pg st a → p ≠ q → (p ∈ unlG pg st G k f s t a ↔ p ∈ G a) := fun a p ha hp => by
   unfold unlG
   by_cases hz : headV pg st k f = 0
   · rw [if_pos hz]
   · rw [if_neg hz]
     obtain ⟨h1,h2⟩ := hst hz
     by_cases e : a = headV pg st k f
     · subst e
       rw [updG_at,h1]
       simp [hp]
     · rw [updG_ne _ _ _ e]
 obtain ⟨L1,o1⟩ := unl_ln H hst L hn
 have hB : (T ws).length = n := M.len _ hn
 have LB : Ln pg st G (T ws) := L.same H (M.no ws hn)
 obtain ⟨L2,o2⟩ := unl_ln H hst LB hB
 have n1 : (plUnlinkV pg st q k f ws).2.length = n := o1.len.trans hn
 have n2 : (plUnlinkV pg st q k f (T ws)).2.length = n := o2.len.trans hB
 have ec : cntV pg st (plUnlinkV pg st q k f (T ws)).2 q = f' := by rw [o2.cnt H hq,M.cnt ws hn]
 have em : movesV pg st q k f (T ws) = (plLinkV pg st q k f' (plUnlinkV pg st q k f (T ws)).2).2 := by unfold movesV; rw [ec]
 obtain ⟨L3,o3⟩ := lnk_ln H (k:=k) (f:=f') hq L2 n2 m1
 have LT : Ln pg st (unlG pg st G k f s t) (T (plUnlinkV pg st q k f ws).2) := L1.same H (M.no _ n1)
 obtain ⟨L4,o4⟩ := lnk_ln H (k:=k) (f:=f') hq LT (M.len _ n1) m1
 have oB := o2.trans o3
 have oY := (M.off _ _ hn n1 o1).trans o4
 refine ⟨_,lnkG pg st (unlG pg st G k f s t) q k f',L1,o1,n1,m1,by rw [em]; exact L3,by rw [em]; exact oB,?_,fun a p ha hp => ?_,fun a ha => ?_⟩
 · rw [em]
   exact Ln.uniq L3 L4 (oB.symm.trans oY)
 · rw [← m2 a p ha hp]
   unfold lnkG
   by_cases hz : headV pg st k f' = 0
   · rw [if_pos hz]
   · rw [if_neg hz]
     by_cases e : a = headV pg st k f'
     · subst e; rw [updG_at]; simp [hp]
     · rw [updG_ne _ _ _ e]
 · unfold lnkG
   by_cases hz : headV pg st k f' = 0
   · rw [if_pos hz]
     exact ⟨fun z => absurd z (m1 a ha),fun z => by have := (hd_b H ha).1; omega⟩
   · rw [if_neg hz]
     by_cases e : a = headV pg st k f'
     · subst e; rw [updG_at]; simp
     · rw [updG_ne _ _ _ e]
       exact ⟨fun z => absurd z (m1 a ha),fun z => absurd z.symm e⟩
end
structure PgF (pg st : Int) (G : Int → List Int) (ws : List Int) : Prop where
 kd : ∀ p,isPage pg p = true → 0 ≤ kindV pg st ws p ∧ kindV pg st ws p ≤ 5
 free : ∀ p,isPage pg p = true → kindV pg st ws p = 0 → cntV pg st ws p = 0 ∧ bitV pg st ws p = 0
 map : ∀ p,isPage pg p = true → kindV pg st ws p ≠ 0 → mappedV pg st ws (p / 4) = true
 cnt : ∀ p,isPage pg p = true → 1 ≤ kindV pg st ws p → cntV pg st ws p = openV (kindV pg st ws p - 1) (bitV pg st ws p) ∧ cntV pg st ws p < slotsC (kindV pg st ws p - 1)
 mem : ∀ a p,isHd pg st a → (p ∈ G a ↔ isPage pg p = true ∧ 1 ≤ kindV pg st ws p ∧ headV pg st (kindV pg st ws p - 1) (cntV pg st ws p) = a)
structure PgW (pg st : Int) (G : Int → List Int) (ws : List Int) : Prop where
 ln : Ln pg st G ws
 f : PgF pg st G ws
section
variable {pg st : Int} {n : Nat} (H : HdIn pg st n)
include H
theorem PgF.off {G : Int → List Int} {a b : List Int} (F : PgF pg st G a) (o : LOff pg st a b) : PgF pg st G b := by
 refine ⟨fun p hp => by rw [o.kind H]; exact F.kd p hp,fun p hp => by rw [o.kind H,o.cnt H hp,o.bit H hp]; exact F.free p hp,fun p hp => by rw [o.kind H,o.map H]; exact F.map p hp,fun p hp => by rw [o.kind H,o.cnt H hp,o.bit H hp]; exact F.cnt p hp,fun x p hx => ?_⟩
 rw [F.mem x p hx]
 constructor
 · rintro ⟨h1,h2,h3⟩
   exact ⟨h1,by rw [o.kind H]; exact h2,by rw [o.kind H,o.cnt H h1]; exact h3⟩
 · rintro ⟨h1,h2,h3⟩
   rw [o.kind H] at h2
   rw [o.kind H,o.cnt H h1] at h3
   exact ⟨h1,h2,h3⟩
theorem PgF.turn {G G2 : Int → List Int} {a b : List Int} (F : PgF pg st G a) {q : Int} (hq : isPage pg q = true) {k f c : Int}
   (hk : ∀ p,isPage pg p = true → kindV pg st b p = if p = q then k else kindV pg st a p) (hc : ∀ p,isPage pg p = true → cntV pg st b p = if p = q then f else cntV pg st a p) (hb : ∀ p,isPage pg p = true → bitV pg st b p = if p = q then c else bitV pg st a p)
   (hm : ∀ p,isPage pg p = true → p ≠ q → mappedV pg st a (p / 4) = true → mappedV pg st b (p / 4) = true) (hmq : k ≠ 0 → mappedV pg st b (q / 4) = true)
   (k0 : 0 ≤ k ∧ k ≤ 5) (kf : k = 0 → f = 0 ∧ c = 0) (kc : 1 ≤ k → f = openV (k - 1) c ∧ f < slotsC (k - 1))
   (g1 : ∀ x p,isHd pg st x → p ≠ q → (p ∈ G2 x ↔ p ∈ G x)) (g2 : ∀ x,isHd pg st x → (q ∈ G2 x ↔ 1 ≤ k ∧ headV pg st (k - 1) f = x)) : PgF pg st G2 b := by
 refine ⟨fun p hp => ?_,fun p hp => ?_,fun p hp => ?_,fun p hp => ?_,fun x p hx => ?_⟩
 · rw [hk p hp]; split
   · exact k0
   · exact F.kd p hp
 · rw [hk p hp,hc p hp,hb p hp]; split
   · exact kf
   · exact F.free p hp
 · rw [hk p hp]; split
   · rename_i e; rw [e]; exact hmq
   · rename_i e; exact fun z => hm p hp e (F.map p hp z)
 · rw [hk p hp,hc p hp,hb p hp]; split
   · exact kc
   · exact F.cnt p hp
 · by_cases e : p = q
   · subst e
     rw [g2 x hx,hk p hq,hc p hq,if_pos rfl,if_pos rfl]
     exact ⟨fun z => ⟨hq,z⟩,fun z => z.2⟩
   · rw [g1 x p hx e,F.mem x p hx]
     constructor
     · rintro ⟨h1,h2⟩
       rw [hk p h1,hc p h1,if_neg e,if_neg e]; exact ⟨h1,h2⟩
     · rintro ⟨h1,h2⟩
       rw [hk p h1,hc p h1,if_neg e,if_neg e] at h2; exact ⟨h1,h2⟩
theorem sets_kind {q : Int} (h : isPage pg q = true) (b f : Int) {ws : List Int} (hn : ws.length = n) (p : Int) : kindV pg st (setsW pg st q b f ws) p = kindV pg st ws p := by
 cases hp : isPage pg p with
 | false => rw [kind_out hp,kind_out hp]
 | true =>
   have h0 := (page_b H.toPgIn hp).1.1
   have := isPage_iff.1 h; have := isPage_iff.1 hp
   rw [kind_in hp,kind_in hp,sets_at H h b f hn (by omega),if_neg (by unfold kA cA; omega),if_neg (by unfold kA bA; omega)]
theorem sets_cnt {q : Int} (h : isPage pg q = true) (b f : Int) {ws : List Int} (hn : ws.length = n) {p : Int} (hp : isPage pg p = true) : cntV pg st (setsW pg st q b f ws) p = if p = q then f else cntV pg st ws p := by
 have := isPage_iff.1 h; have := isPage_iff.1 hp
 unfold cntV
 rw [sets_at H h b f hn (page_c H hp).1.1]
 by_cases e : p = q
 · rw [if_pos e,if_pos (by rw [e])]
 · rw [if_neg e,if_neg (by unfold cA; omega),if_neg (by unfold cA bA; omega)]
theorem sets_bit {q : Int} (h : isPage pg q = true) (b f : Int) {ws : List Int} (hn : ws.length = n) {p : Int} (hp : isPage pg p = true) : bitV pg st (setsW pg st q b f ws) p = if p = q then b else bitV pg st ws p := by
 have := isPage_iff.1 h; have := isPage_iff.1 hp
 unfold bitV
 rw [sets_at H h b f hn (page_c H hp).2.1,if_neg (by unfold cA bA; omega)]
 by_cases e : p = q
 · rw [if_pos e,if_pos (by rw [e])]
 · rw [if_neg e,if_neg (by unfold bA; omega)]
theorem sets_map {q : Int} (h : isPage pg q = true) (b f : Int) {ws : List Int} (hn : ws.length = n) (j : Int) : mappedV pg st (setsW pg st q b f ws) j = mappedV pg st ws j := by
 unfold mappedV
 cases hj : isChunk pg j with
 | false => rfl
 | true =>
   have h0 := (tbl_b H.toTblIn hj).1
   obtain ⟨t0,t1,t2⟩ := tbl_page H.toPgIn hj h
   rw [sets_at H h b f hn (by omega),if_neg t1,if_neg t2]
theorem fst_at {G : Int → List Int} {ws : List Int} (L : Ln pg st G ws) {k f : Int} (h0 : headV pg st k f ≠ 0) : plLeadV pg (headV pg st k f) ws = fst1 (G (headV pg st k f)) := by
 have ha := (head_hd h0).1
 have := (hd_b H ha).1
 exact lead_hd H (by omega) (L.head _ ha) (L.page _ ha)
theorem first_is {G : Int → List Int} {ws : List Int} (L : Ln pg st G ws) {k : Int} (hk : 0 ≤ k ∧ k ≤ 4) (m : Nat) : ∀ f : Int,1 ≤ f → f + m = slotsC k + 1 →
   (plFirstV pg st k m f ws = -1 ∧ ∀ x,f ≤ x → x ≤ slotsC k → G (headV pg st k x) = []) ∨
   ∃ x t,f ≤ x ∧ x ≤ slotsC k ∧ headV pg st k x ≠ 0 ∧ G (headV pg st k x) = plFirstV pg st k m f ws :: t ∧ ∀ y,f ≤ y → y < x → G (headV pg st k y) = [] := by
 have hs := slotsC_eq hk
 have hh : ∀ x,1 ≤ x → x ≤ slotsC k → headV pg st k x ≠ 0 := fun x h1 h2 => by
   have h3 := H.st1; have h4 := H.pg1
   unfold headV; rw [if_pos ⟨hk.1,hk.2,h1,by omega⟩]
   unfold headsV tableV chunksV aheadV
   (repeat' split) <;> omega
 induction m with
 | zero => intro f h1 h2; exact .inl ⟨rfl,fun x h3 h4 => by omega⟩
 | succ m ih =>
   intro f h1 h2
   have hz := hh f h1 (by omega)
   have hl := fst_at H L hz
   show (((if plLeadV pg (headV pg st k f) ws = -1 then plFirstV pg st k m (f + 1) ws else plLeadV pg (headV pg st k f) ws) = -1) ∧ _) ∨ ∃ x t,f ≤ x ∧ x ≤ slotsC k ∧ headV pg st k x ≠ 0 ∧ G (headV pg st k x) = (if plLeadV pg (headV pg st k f) ws = -1 then plFirstV pg st k m (f + 1) ws else plLeadV pg (headV pg st k f) ws) :: t ∧ _
   rw [hl]
   cases hG : G (headV pg st k f) with
   | nil =>
     rw [show fst1 ([] : List Int) = -1 from rfl,if_pos rfl]
     rcases ih (f + 1) (by omega) (by omega) with ⟨h3,h4⟩ | ⟨x,t,h3,h4,h5,h6,h7⟩
     · refine .inl ⟨h3,fun x h5 h6 => ?_⟩
       by_cases e : x = f
       · rw [e]; exact hG
       · exact h4 x (by omega) h6
     · refine .inr ⟨x,t,by omega,h4,h5,h6,fun y h8 h9 => ?_⟩
       by_cases e : y = f
       · rw [e]; exact hG
       · exact h7 y (by omega) h9
   | cons p t =>
     have hp := isPage_iff.1 (L.page _ (head_hd hz).1 p (by rw [hG]; simp))
     rw [show fst1 (p :: t) = p from rfl,if_neg (by omega)]
     exact .inr ⟨f,t,Int.le_refl _,by omega,hz,hG,fun y h8 h9 => by omega⟩
theorem find_one (ws : List Int) : (findV pg st 1 1 ws = -1 ∧ ∀ p,isPage pg p = true → kindV pg st ws p ≠ 0) ∨ (isPage pg (findV pg st 1 1 ws) = true ∧ kindV pg st ws (findV pg st 1 1 ws) = 0) := by
 have h1 := H.pg1
 have key : ∀ f : Int → Bool,(leastV f pg 1 1 = -1 ∧ ∀ p,isPage pg p = true → f p = false) ∨ (isPage pg (leastV f pg 1 1) = true ∧ f (leastV f pg 1 1) = true) := fun f => by
   rcases seek_specR (f:=f) (pg:=pg) (m:=1) (step:=1) (by omega) (by omega) (pg.toNat + 1) 0 0 rfl (by omega) (by omega) with ⟨e,hn⟩ | ⟨k,e,h0,hh,_⟩
   · refine .inl ⟨e,fun p hp => ?_⟩
     have hp := isPage_iff.1 hp
     cases hf : f p with
     | false => rfl
     | true =>
       refine absurd ?_ (hn p (by omega))
       rw [Int.mul_one]
       exact ⟨by omega,fun i i0 i1 => by rw [show i = p by omega]; exact hf⟩
   · rw [Int.mul_one] at e hh h0
     have e : leastV f pg 1 1 = k := e
     rw [e]
     exact .inr ⟨isPage_iff.2 ⟨h0,by have := hh.1; omega⟩,hh.2 k (by omega) (by omega)⟩
 unfold findV
 rw [if_pos ⟨by omega,by omega⟩]
 rcases key (openB pg st ws) with ⟨e,hn⟩ | ⟨e,hf⟩
 · rw [if_pos e]
   rcases key (freeB pg st ws) with ⟨e2,hn2⟩ | ⟨e2,hf2⟩
   · refine .inl ⟨e2,fun p hp => ?_⟩
     have := hn2 p hp
     simpa [freeB] using this
   · refine .inr ⟨e2,?_⟩
     simpa [freeB] using hf2
 · have := isPage_iff.1 e
   rw [if_neg (by omega)]
   refine .inr ⟨e,?_⟩
   simp [openB] at hf
   exact hf.2
theorem take_one {y k : Int} (hk : 0 ≤ k ∧ k ≤ 4) {ws : List Int} (hn : ws.length = n) (hy : isPage pg y = true) (h0 : kindV pg st ws y = 0) : (takeV pg st y 1 (k + 1) ws).1 = true ∧ Took pg st y 1 (k + 1) ws (takeV pg st y 1 (k + 1) ws).2 := by
 have hp := isPage_iff.1 hy
 have ht : thereB pg y 1 = true := there_iff.2 ⟨hp.1,by omega,by omega⟩
 have hv : vacB pg st y 1 ws = true := vacB_iff.2 ⟨ht,fun i i0 i1 => by rw [show i = y by omega]; exact h0⟩
 have hf : fitB (k + 1) 1 = true := fit_iff.2 (.inr ⟨by omega,by omega,rfl⟩)
 have T := take_took H.toPgIn (p:=y) (m:=1) (k:=k + 1) hn ht
 unfold takeV
 rw [hf,hv]
 exact ⟨rfl,T⟩
theorem took_no {y m k : Int} {a b : List Int} (T : Took pg st y m k a b) : ∀ i,0 ≤ i → ¬ NoL pg st i → wAt b i = wAt a i := fun i h0 h1 =>
 T.off i h0 (fun p hp => ⟨fun z => h1 (by rw [z]; exact noL_k H hp),fun z => h1 (by rw [z]; exact noL_c H hp),fun z => h1 (by rw [z]; exact noL_b H hp)⟩) (fun j hj z => h1 (by rw [z]; exact noL_t H hj))
end
section
variable {pg st : Int} {n : Nat} (H : HdIn pg st n)
include H
theorem grab_none1 (us : Int) {k : Int} (h : slotsC k = 0) (ws : List Int) : grabV us pg st k ws = ((0,false),ws) := by
 unfold grabV giverV
 rw [if_pos h]
 unfold grab2V
 rw [if_pos rfl]
theorem take_none {m k : Int} (ws : List Int) : takeV pg st (-1) m k ws = (false,ws) := by
 have : vacB pg st (-1) m ws = false := by
   cases e : vacB pg st (-1) m ws with
   | false => rfl
   | true => have := there_iff.1 (vacB_iff.1 e).1; omega
 unfold takeV
 rw [this]
 simp
theorem grab_none2 (us : Int) {k : Int} (hs : slotsC k ≠ 0) {ws : List Int} (h1 : plFirstV pg st k (slotsC k).toNat 1 ws = -1) (h2 : findV pg st 1 1 ws = -1) : grabV us pg st k ws = ((0,false),ws) := by
 have e : giverV pg st k ws = (-1,ws) := by
   unfold giverV giver2V
   rw [if_neg hs,h1,if_pos rfl,h2,take_none H]
   rfl
 unfold grabV
 rw [e]
 unfold grab2V
 rw [if_pos rfl]
theorem giver_old {k : Int} (hs : slotsC k ≠ 0) {ws : List Int} {q : Int} (h1 : plFirstV pg st k (slotsC k).toNat 1 ws = q) (hq : q ≠ -1) : giverV pg st k ws = (q,ws) := by
 unfold giverV giver2V
 rw [if_neg hs,h1,if_neg hq]
theorem giver_new {k : Int} (hs : slotsC k ≠ 0) {ws : List Int} {y : Int} (h1 : plFirstV pg st k (slotsC k).toNat 1 ws = -1) (h2 : findV pg st 1 1 ws = y) (h3 : (takeV pg st y 1 (k + 1) ws).1 = true) : giverV pg st k ws = (y,(takeV pg st y 1 (k + 1) ws).2) := by
 unfold giverV giver2V
 rw [if_neg hs,h1,if_pos rfl,h2,h3]
 rfl
theorem put_sets {q k b f : Int} (ho : openV k b = f) (hf : f ≠ slotsC k) (ws : List Int) : pgPutV pg st q k b ws = setsW pg st q b f ws := by
 unfold pgPutV setsW
 rw [if_neg (by rw [ho]; exact hf),ho]
structure PgMoved (pg st : Int) (n : Nat) (q k f f' : Int) (T : List Int → List Int) (ws : List Int) (G G1 G2 : Int → List Int) (u X : List Int) : Prop where
 eu : (plUnlinkV pg st q k f ws).2 = u
 l1 : Ln pg st G1 u
 nu : u.length = n
 o1 : LOff pg st ws u
 m1 : ∀ a,isHd pg st a → q ∉ G1 a
 lt : Ln pg st G1 (T u)
 nt : (T u).length = n
 eX : (plLinkV pg st q k f' (T u)).2 = X
 eM : movesV pg st q k f (T ws) = X
 l2 : Ln pg st G2 X
 o2 : LOff pg st (T ws) X
 m2 : ∀ a p,isHd pg st a → p ≠ q → (p ∈ G2 a ↔ p ∈ G a)
 m3 : ∀ a,isHd pg st a → (q ∈ G2 a ↔ headV pg st k f' = a)
theorem moved' {q k f f' : Int} {T : List Int → List Int} (M : Mod pg st n q f' T) (hq : isPage pg q = true) {G : Int → List Int} {ws : List Int} (L : Ln pg st G ws) (hn : ws.length = n)
   (hin : ∀ a,isHd pg st a → (q ∈ G a ↔ headV pg st k f = a)) : ∃ G1 G2 u X,PgMoved pg st n q k f f' T ws G G1 G2 u X := by
 obtain ⟨G1,G2,h1,h2,h3,h4,h5,h6,h7,h8,h9⟩ := moved H M hq L hn hin
 exact ⟨G1,G2,_,_,⟨rfl,h1,h3,h2,h4,h1.same H (M.no _ h3),M.len _ h3,h7,rfl,h5,h6,h8,h9⟩⟩
theorem grab_old (us : Int) {k : Int} (hs : slotsC k ≠ 0) {G : Int → List Int} {ws : List Int} (P : PgW pg st G ws) (hn : ws.length = n) {q : Int} (h1 : plFirstV pg st k (slotsC k).toNat 1 ws = q) (hq : q ≠ -1) :
   ∃ (j : Nat) (G1 G2 : Int → List Int) (u X : List Int),isPage pg q = true ∧ kindV pg st ws q = k + 1 ∧ 1 ≤ cntV pg st ws q ∧ (∀ y,1 ≤ y → y < cntV pg st ws q → G (headV pg st k y) = []) ∧
     slFirstV (bitV pg st ws q) (slotsC k) = (j : Int) ∧ (j : Int) < slotsC k ∧ bitB (bitV pg st ws q) j = false ∧
     PgMoved pg st n q k (cntV pg st ws q) (cntV pg st ws q - 1) (setsW pg st q (setV (bitV pg st ws q) j) (cntV pg st ws q - 1)) ws G G1 G2 u X ∧
     grabV us pg st k ws = ((us + 32 * q + j * szV k,true),X) ∧ PgW pg st G2 X := by
 have hk := slots_cls hs
 obtain ⟨L,F⟩ := P
 rcases first_is H L hk (slotsC k).toNat 1 (by omega) (by have := slots_in k; omega) with ⟨e,_⟩ | ⟨x,t,x1,x2,hz,hG,hno⟩
 · exact absurd (h1.symm.trans e) hq
 rw [h1] at hG
 have ha := (head_hd hz).1
 have hm := (F.mem _ q ha).1 (by rw [hG]; simp)
 obtain ⟨hqp,hk1,hh⟩ := hm
 have hkb := F.kd q hqp
 have hc := F.cnt q hqp hk1
 have inj := head_inj hz hh.symm
 have ek : kindV pg st ws q = k + 1 := by omega
 have ef : cntV pg st ws q = x := inj.2.symm
 rw [ek] at hc
 have hop : openV k (bitV pg st ws q) = cntV pg st ws q := by rw [hc.1]; congr 1; omega
 obtain ⟨j,hj1,hj2,hj3,hj4⟩ := first_open (b:=bitV pg st ws q) (k:=k) (by omega)
 have hlt : cntV pg st ws q < slotsC k := by have := hc.2; rwa [show k + 1 - 1 = k by omega] at this
 obtain ⟨G1,G2,u,X,M⟩ := moved' H (mod_sets H hqp (setV (bitV pg st ws q) j) (cntV pg st ws q - 1)) hqp L hn (k:=k) (f:=cntV pg st ws q) (fun a h => by
   rw [F.mem a q h,ek,show k + 1 - 1 = k by omega]
   exact ⟨fun z => z.2.2,fun z => ⟨hqp,by omega,z⟩⟩)
 refine ⟨j,G1,G2,u,X,hqp,ek,by omega,fun y y1 y2 => hno y y1 (by omega),hj1,hj2,hj3,M,?_,M.l2,?_⟩
 · unfold grabV
   rw [giver_old H hs h1 hq]
   unfold grab2V
   rw [if_neg hq,if_neg (by rw [hj1]; omega),hj1]
   unfold putMoveV
   rw [put_sets H (f:=cntV pg st ws q - 1) (by rw [hj4,hop]) (by omega),M.eM]
 · refine PgF.off H (a:=setsW pg st q (setV (bitV pg st ws q) j) (cntV pg st ws q - 1) ws) ?_ M.o2
   refine F.turn H hqp (k:=k + 1) (f:=cntV pg st ws q - 1) (c:=setV (bitV pg st ws q) j) (fun p hp => ?_) (fun p hp => sets_cnt H hqp _ _ hn hp) (fun p hp => sets_bit H hqp _ _ hn hp) (fun p _ _ h => by rw [sets_map H hqp _ _ hn]; exact h) (fun _ => by rw [sets_map H hqp _ _ hn]; exact F.map q hqp (by omega)) (by omega) (by omega) (fun _ => ?_) M.m2 (fun a h => ?_)
   · rw [sets_kind H hqp _ _ hn]; split
     · rename_i e; rw [e]; exact ek
     · rfl
   · rw [show k + 1 - 1 = k by omega,hj4,hop]; omega
   · rw [M.m3 a h,show k + 1 - 1 = k by omega]
     exact ⟨fun z => ⟨by omega,z⟩,fun z => z.2⟩
theorem grab_new (us : Int) {k : Int} (hs : slotsC k ≠ 0) {G : Int → List Int} {ws : List Int} (P : PgW pg st G ws) (hn : ws.length = n) {y : Int} (h1 : plFirstV pg st k (slotsC k).toNat 1 ws = -1) (h2 : findV pg st 1 1 ws = y) (hy : y ≠ -1) :
   ∃ (G1 G2 : Int → List Int) (w1 X : List Int),isPage pg y = true ∧ kindV pg st ws y = 0 ∧ takeV pg st y 1 (k + 1) ws = (true,w1) ∧ Took pg st y 1 (k + 1) ws w1 ∧ w1.length = n ∧ Ln pg st G w1 ∧
     PgMoved pg st n y k 0 (slotsC k - 1) (setsW pg st y (setV 0 0) (slotsC k - 1)) w1 G G1 G2 w1 X ∧
     grabV us pg st k ws = ((us + 32 * y,true),X) ∧ PgW pg st G2 X := by
 have hk := slots_cls hs
 have hsl := slots_in k
 obtain ⟨L,F⟩ := P
 have hfy := (find_one H ws).resolve_left (fun z => hy (h2.symm.trans z.1))
 rw [h2] at hfy
 obtain ⟨hyp,hk0⟩ := hfy
 obtain ⟨t1,T⟩ := take_one H hk hn hyp hk0
 obtain ⟨w1,ew⟩ : ∃ w1,(takeV pg st y 1 (k + 1) ws).2 = w1 := ⟨_,rfl⟩
 rw [ew] at T
 have n1 : w1.length = n := T.len.trans hn
 have L1 : Ln pg st G w1 := L.same H (took_no H T)
 have hno : ∀ a,isHd pg st a → y ∉ G a := fun a h z => by have := ((F.mem a y h).1 z).2.1; omega
 have hb1 : bitV pg st w1 y = 0 := by rw [T.bit y hyp,if_pos (by omega)]
 have hc1 : cntV pg st w1 y = 0 := by rw [T.cnt y hyp,if_pos rfl,if_neg (by omega)]
 have hz0 : headV pg st k 0 = 0 := by unfold headV; rw [if_neg (by omega)]
 have hos : openV k (setV 0 0) = slotsC k - 1 := by
   have := open_set (b:=0) (k:=k) (j:=0) (by omega) (bit_zero 0)
   rw [open_zero] at this
   exact this
 obtain ⟨G1,G2,u,X,M⟩ := moved' H (mod_sets H hyp (setV 0 0) (slotsC k - 1)) hyp L1 n1 (k:=k) (f:=0) (fun a h => ⟨fun z => absurd z (hno a h),fun z => by have := (hd_b H h).1; omega⟩)
 have eu : u = w1 := by rw [← M.eu,unlink_no H L1 (fun _ z => absurd hz0 z)]
 subst eu
 refine ⟨G1,G2,u,X,hyp,hk0,Prod.ext t1 ew,T,n1,L1,M,?_,M.l2,?_⟩
 · unfold grabV
   rw [giver_new H hs h1 h2 t1,ew]
   unfold grab2V
   rw [if_neg hy]
   show (if slFirstV (bitV pg st u y) (slotsC k) = -1 then _ else _) = _
   rw [hb1,first_zero hs,if_neg (by omega),hc1]
   unfold putMoveV
   rw [put_sets H (f:=slotsC k - 1) hos (by omega),M.eM]
   simp
 · refine PgF.off H (a:=setsW pg st y (setV 0 0) (slotsC k - 1) u) ?_ M.o2
   refine F.turn H hyp (k:=k + 1) (f:=slotsC k - 1) (c:=setV 0 0) (fun p hp => ?_) (fun p hp => ?_) (fun p hp => ?_) (fun p hp hne h => ?_) (fun _ => ?_) (by omega) (by omega) (fun _ => ?_) M.m2 (fun a h => ?_)
   · rw [sets_kind H hyp _ _ n1,T.kind]
     by_cases e : p = y
     · rw [if_pos e,if_pos e]
     · rw [if_neg e,if_neg e,if_neg (by omega)]
   · rw [sets_cnt H hyp _ _ n1 hp,T.cnt p hp]
     by_cases e : p = y
     · rw [if_pos e,if_pos e]
     · rw [if_neg e,if_neg e,if_neg e,if_neg (by omega)]
   · rw [sets_bit H hyp _ _ n1 hp,T.bit p hp]
     by_cases e : p = y
     · rw [if_pos e,if_pos e]
     · rw [if_neg e,if_neg e,if_neg (by omega)]
   · rw [sets_map H hyp _ _ n1,T.map _ (chunk_of hp),h]; rfl
   · rw [sets_map H hyp _ _ n1,T.map _ (chunk_of hyp)]
     simp
   · rw [show k + 1 - 1 = k by omega,hos]
     exact ⟨rfl,by omega⟩
   · rw [M.m3 a h,show k + 1 - 1 = k by omega]
     exact ⟨fun z => ⟨by omega,z⟩,fun z => z.2⟩
theorem taken_is {us a : Int} {G : Int → List Int} {ws : List Int} (F : PgF pg st G ws) {q k i : Int} {t : Bool} (h : takenV us pg st a ws = some (q,k,i,t)) :
   isPage pg q = true ∧ kindV pg st ws q = k + 1 ∧ 0 ≤ k ∧ k ≤ 4 ∧ 0 ≤ i ∧ i < slotsC k ∧ t = hasB (bitV pg st ws q) i ∧ a = us + 32 * q + i * szV k := by
 unfold takenV at h
 split at h
 · rename_i hin
   obtain ⟨hq,hw⟩ := place_b hin
   have hkd := F.kd _ hq
   have hwr : IntKind.i64.wrap (kindV pg st ws ((a - us) / 32) - 1) = kindV pg st ws ((a - us) / 32) - 1 := wrap_in (by omega) (by omega)
   unfold tkRestV at h
   rw [hwr] at h
   split at h
   · cases h
   · rename_i hz
     split at h
     · cases h
     · rename_i hm
       have hk := slots_cls hz
       obtain ⟨z,hzk⟩ : ∃ z : Nat,kindV pg st ws ((a - us) / 32) - 1 = (z : Int) := ⟨_,(Int.toNat_of_nonneg hk.1).symm⟩
       simp only [Option.some.injEq,Prod.mk.injEq] at h
       obtain ⟨rfl,rfl,rfl,rfl⟩ := h
       rw [hzk] at hk hm ⊢
       have hsb := sz_b (k:=z) (by omega)
       have hm : (a - us) % 32 % szV (z : Int) = 0 := by simpa using hm
       have hsz := slots_of_sz (k:=z) (by omega)
       have hd := Int.emod_add_mul_ediv ((a - us) % 32) (szV (z : Int))
       rw [hm] at hd
       refine ⟨hq,by omega,hk.1,hk.2,Int.ediv_nonneg hw.1 (by omega),?_,rfl,?_⟩
       · have hz4 : z = 0 ∨ z = 1 ∨ z = 2 ∨ z = 3 ∨ z = 4 := by omega
         generalize (a - us) % 32 = wd at hw hm ⊢
         rcases hz4 with rfl | rfl | rfl | rfl | rfl
         · show wd / 1 < 32; omega
         · show wd / 2 < 16; omega
         · show wd / 4 < 8; omega
         · show wd / 8 < 4; omega
         · show wd / 16 < 2; omega
       · rw [Int.mul_comm ((a - us) % 32 / szV (z : Int)) (szV (z : Int))]
         omega
 · cases h
theorem back_yes (us : Int) {a : Int} {G : Int → List Int} {ws : List Int} (P : PgW pg st G ws) (hn : ws.length = n) (ho : OkW ws) {q k i : Int} (h : tkYes (takenV us pg st a ws) = some (q,k,i)) :
   isPage pg q = true ∧ kindV pg st ws q = k + 1 ∧ 0 ≤ k ∧ k ≤ 4 ∧ 0 ≤ i ∧ i < slotsC k ∧ hasB (bitV pg st ws q) i = true ∧ a = us + 32 * q + i * szV k ∧ 0 ≤ cntV pg st ws q ∧ cntV pg st ws q < slotsC k ∧
   (cntV pg st ws q + 1 ≠ slotsC k → ∃ G1 G2 u X,PgMoved pg st n q k (cntV pg st ws q) (cntV pg st ws q + 1) (setsW pg st q (clearV (bitV pg st ws q) i) (cntV pg st ws q + 1)) ws G G1 G2 u X ∧ backV us pg st a ws = (true,X) ∧ PgW pg st G2 X) ∧
   (cntV pg st ws q + 1 = slotsC k → ∃ G1 G2 u X,PgMoved pg st n q k (cntV pg st ws q) 0 (put3V pg st q 0 0) ws G G1 G2 u X ∧ backV us pg st a ws = (true,X) ∧ PgW pg st G2 X) := by
 obtain ⟨L,F⟩ := P
 obtain ⟨hq,ek,k0,k4,i0,i1,ht,ha⟩ := taken_is H F (tkYes_some h)
 have hc := F.cnt q hq (by omega)
 rw [ek,show k + 1 - 1 = k by omega] at hc
 have hcb := cnt_b (bitV pg st ws q) k
 have hcl := open_clear (b:=bitV pg st ws q) (k:=k) (okW_at' ho _) i0 i1 ht.symm
 have hin : ∀ a,isHd pg st a → (q ∈ G a ↔ headV pg st k (cntV pg st ws q) = a) := fun a h => by
   rw [F.mem a q h,ek,show k + 1 - 1 = k by omega]
   exact ⟨fun z => z.2.2,fun z => ⟨hq,by omega,z⟩⟩
 refine ⟨hq,ek,k0,k4,i0,i1,ht.symm,ha,by omega,hc.2,fun hne => ?_,fun he => ?_⟩
 · obtain ⟨G1,G2,u,X,M⟩ := moved' H (mod_sets H hq (clearV (bitV pg st ws q) i) (cntV pg st ws q + 1)) hq L hn (k:=k) (f:=cntV pg st ws q) hin
   refine ⟨G1,G2,u,X,M,?_,M.l2,?_⟩
   · unfold backV
     rw [h]
     show (true,putMoveV _ _ _ _ _ _ _) = _
     unfold putMoveV
     rw [put_sets H (f:=cntV pg st ws q + 1) (by rw [hcl,hc.1]) hne,M.eM]
   · refine PgF.off H (a:=setsW pg st q (clearV (bitV pg st ws q) i) (cntV pg st ws q + 1) ws) ?_ M.o2
     refine F.turn H hq (k:=k + 1) (f:=cntV pg st ws q + 1) (c:=clearV (bitV pg st ws q) i) (fun p hp => ?_) (fun p hp => sets_cnt H hq _ _ hn hp) (fun p hp => sets_bit H hq _ _ hn hp) (fun p _ _ h => by rw [sets_map H hq _ _ hn]; exact h) (fun _ => by rw [sets_map H hq _ _ hn]; exact F.map q hq (by omega)) (by omega) (by omega) (fun _ => ?_) M.m2 (fun a h => ?_)
     · rw [sets_kind H hq _ _ hn]; split
       · rename_i e; rw [e]; exact ek
       · rfl
     · rw [show k + 1 - 1 = k by omega,hcl,hc.1]
       exact ⟨rfl,by omega⟩
     · rw [M.m3 a h,show k + 1 - 1 = k by omega]
       exact ⟨fun z => ⟨by omega,z⟩,fun z => z.2⟩
 · obtain ⟨G1,G2,u,X,M⟩ := moved' H (mod_put3 H hq 0 0) hq L hn (k:=k) (f:=cntV pg st ws q) hin
   have hd : (dropV pg st q ws).2 = put3V pg st q 0 0 ws := by
     have hl : lenV pg st q ws = 1 := by unfold lenV; rw [ek,if_pos (cls_iff.2 ⟨by omega,by omega⟩)]
     unfold dropV
     rw [hl]
     rfl
   refine ⟨G1,G2,u,X,M,?_,M.l2,?_⟩
   · unfold backV
     rw [h]
     show (true,putMoveV _ _ _ _ _ _ _) = _
     unfold putMoveV pgPutV
     rw [if_pos (by rw [hcl,← hc.1]; exact he),hd,M.eM]
   · refine PgF.off H (a:=put3V pg st q 0 0 ws) ?_ M.o2
     have hz0 : headV pg st k 0 = 0 := by unfold headV; rw [if_neg (by omega)]
     refine F.turn H hq (k:=0) (f:=0) (c:=0) (fun p hp => kind_put3 H.toPgIn hq 0 0 hn p) (fun p hp => cnt_put3 H.toPgIn hq 0 0 hn hp) (fun p hp => bit_put3 H.toPgIn hq 0 0 hn hp) (fun p _ _ h => by rw [map_put3 H.toPgIn hq 0 0 hn]; exact h) (fun z => absurd rfl z) (by omega) (fun _ => ⟨rfl,rfl⟩) (fun z => by omega) M.m2 (fun a h => ?_)
     rw [M.m3 a h,hz0]
     have := (hd_b H h).1
     exact ⟨fun z => by omega,fun z => by omega⟩
theorem back_no {us a : Int} {ws : List Int} (h : tkYes (takenV us pg st a ws) = none) : backV us pg st a ws = (false,ws) := by
 unfold backV
 rw [h]
 rfl
end
end Go.Proofs.YtmafllcmkhgidaaGreatDoor
namespace Go.Proofs.YtmafllcmkhgidaaGreatDoor
open Go.RowKit Go.Sort Go.Maps Go.Shelf
theorem tk_one (c : Cfg) (p : Nat) (x : TkA) : ∃ cs i b,tkVal c p x = .tuple #[.agg cs,.int .i64 i,.bool b] ∧ cs.size = 27 ∧ cs.all (·.oneCell') = true ∧ ((b = false ∧ tkYes x = none) ∨ ∃ q k,x = some (q,k,i,true) ∧ cs = pgArr c p q k ∧ b = true) := by
 match x with
 | none => exact ⟨pgZ,0,false,rfl,rfl,by kernel_rfl,.inl ⟨rfl,rfl⟩⟩
 | some (q,k,i,false) => exact ⟨pgArr c p q k,i,false,rfl,by kernel_rfl,pg_one ..,.inl ⟨rfl,rfl⟩⟩
 | some (q,k,i,true) => exact ⟨pgArr c p q k,i,true,rfl,by kernel_rfl,pg_one ..,.inr ⟨q,k,rfl,rfl,rfl⟩⟩
theorem new_told (w : World) (cs : Array Value) : ∃ w1,(w.alloc (.cells #[Value.pointer none,Value.int IntKind.i64 0,Value.int IntKind.i64 0,Value.int IntKind.i64 0,Value.int IntKind.i64 0,Value.int IntKind.i64 0,Value.int IntKind.i64 0,Value.int IntKind.i64 0,Value.int IntKind.i64 0,Value.int IntKind.i64 0,Value.int IntKind.i64 0,Value.int IntKind.i64 0,Value.int IntKind.i64 0,Value.int IntKind.i64 0,Value.int IntKind.i64 0,Value.int IntKind.i64 0,Value.int IntKind.i64 0,Value.int IntKind.i64 0,Value.int IntKind.i64 0,Value.int IntKind.i64 0,Value.int IntKind.i64 0,Value.int IntKind.i64 0,Value.int IntKind.i64 0,Value.int IntKind.i64 0,Value.int IntKind.i64 0,Value.int IntKind.i64 0,Value.int IntKind.i64 0] 74)).setRow w.heap.size cs = w1 ∧ w1.heap[w.heap.size]? = some (.cells cs 74 (0,0)) ∧ More w w1 :=
 ⟨_,rfl,setRow_heap _ _ _ _ _ _ (row_new w _ _),((More.refl w).alloc _).setRow _ _ (Nat.le_refl _)⟩
theorem g_Taken {c : Cfg} (R : c.Ok) {n : Nat} (H : HdIn c.pg c.st n) (hn : n ≤ 10000) (F : Nat → Prop) (p : Nat) (kn : Int → Option Int) (D : List KV) (ad : Int) (w : World) (hv : ViewAt w F p kn D) (hk : OkK kn) (hD : InvD n D) (bt : Nat) (hs : SzAt bt w) (nF0 : ¬ F 0) (nFb : ¬ F bt) :
   Calls Tryz.prog 53 #[.pointer (some ⟨p,0,none⟩),.agg c.arr,.int .i64 ad] w (WentV w F p kn (fun x : Int × Bool => .tuple #[.int .i64 x.1,.bool x.2]) (lookP c.us c.pg c.st ad kn D)) := by
 obtain ⟨Rr,hRr⟩ : ∃ Rr,lookP c.us c.pg c.st ad kn D = Rr := ⟨_,rfl⟩
 rw [hRr]
 obtain ⟨w1,e1,hl1,m1,s1⟩ := entry1 w (.cells c.arr 28)
 have nFl : ¬ F w.heap.size := fun q => by have := hv.lt _ q; omega
 have MM := hQQ m1
 have L0 := hQQ hl1
 have M0 : Hid (MidV w1 w1 F (fun _ => False) p kn n D F) := hQQ (MidV.begin (hv.more m1) hD)
 have KL : Hid (∀ wr D' F',MidV w1 wr F (fun _ => False) p kn n D' F' → wr.heap[w.heap.size]? = some (.cells c.arr 28 (0,0))) := hQQ fun wr D' F' h => mid_own h L0.out nFl (fun q => q)
 have NEED : Hid (∀ a w2,Rr = .need a → DeadAt w2 p a → Turned (fun b => F b ∨ False) w1 w2 → WentV w F p kn (fun x : Int × Bool => Value.tuple #[.int .i64 x.1,.bool x.2]) Rr (.panicked (endOf p)) w2) := hQQ fun a w2 e hd ht => mid_need MM.out (fun _ q => q.elim) e hd ht
 have DONE : Hid (∀ x w2 D' F',Rr = .ok x D' → MidV w1 w2 F (fun _ => False) p kn n D' F' → WentV w F p kn (fun x : Int × Bool => Value.tuple #[.int .i64 x.1,.bool x.2]) Rr (.returned ((fun x : Int × Bool => Value.tuple #[.int .i64 x.1,.bool x.2]) x)) w2) := hQQ fun x w2 D' F' e h => mid_done MM.out (fun _ q => q.elim) h e
 have HK := hQQ hk
 have HR := hQQ R
 have HH := hQQ H
 clear hl1 m1 hv hD hk R H nFl
 have SZ : Hid (∀ wr D' F',MidV w1 wr F (fun _ => False) p kn n D' F' → SzAt bt wr) := hQQ fun wr D' F' h => (hs.more MM.out).keep h.turn (by rintro (q | q); exact nF0 q; exact q) (by rintro (q | q); exact nFb q; exact q)
 have NF : Hid (∀ wr D' F',MidV w1 wr F (fun _ => False) p kn n D' F' → ¬ F' 0 ∧ ¬ F' bt) := hQQ fun wr D' F' h => ⟨h.off (hs.more MM.out).lt0 nF0,h.off (hs.more MM.out).lt nFb⟩
 have HRr := hQQ (show bindP (takenP c.us c.pg c.st ad) (fun x => lookRest (tkYes x)) kn D = Rr from hRr)
 clear hRr hs nF0 nFb
 go_enter Tryz.func53,Tryz.ntmps53
 go_wp2_with (refine wpList_load_rowG rfl 28 _ rfl _ rfl 28 _ _ _ L0.out Tryz.underlying28 rfl (by kernel_rfl) ?_)
 refine (g_taken HR.out HH.out hn F p kn D ad w1 M0.out.view HK.out M0.out.inv bt (SZ.out _ _ _ M0.out) (NF.out _ _ _ M0.out).1 (NF.out _ _ _ M0.out).2).mono ?_
 intro e w2 he
 rcases M0.out.step (More.refl _) HK.out (good_taken HH.out.toPgIn ad) he with ⟨a',hE,rfl,hd',ht',_⟩ | ⟨x2,D2,F2,hE,rfl,M2,hq2,_,_⟩
 · exact ⟨rfl,NEED.out a' w2 (HRr.out.symm.trans (bindP_need hE)) hd' ht'⟩
 have L2 := hQQ (KL.out _ _ _ M2)
 have R2 := hQQ ((bindP_ok hE).symm.trans HRr.out)
 have M2 := hQQ M2
 clear he hE
 obtain ⟨cs,i,b,ev,hsz,h1,hb⟩ := tk_one c p x2
 rw [ev]
 obtain ⟨w3,e3,b3,m3⟩ := new_told w2 cs
 have H1 := hQQ h1
 have HSZ := hQQ hsz
 clear h1 hsz ev
 have M3 := hQQ (M2.out.more m3)
 rcases hb with ⟨rfl,hy⟩ | ⟨q,k,rfl,rfl,rfl⟩
 · have FIN := hQQ (DONE.out (0,false) w3 D2 F2 (by have := R2.out; rw [hy] at this; exact this.symm) M3.out)
   clear R2 hy
   go_wp2_with (refine wpList_store_row rfl 74 _ _ rfl _ _ rfl rfl 74 _ (row_new _ _ _) (by rw [HSZ.out]; kernel_rfl) (by rw [HSZ.out]; rfl) H1.out (e3.symm ▸ ?_))
   go_ret2
   exact FIN.out
 · have FIN := hQQ (DONE.out (k,true) w3 D2 F2 R2.out.symm M3.out)
   obtain ⟨c0,c25,c26⟩ := page_cells b3
   clear R2
   go_wp2_with (refine wpList_store_row rfl 74 _ _ rfl _ _ rfl rfl 74 _ (row_new _ _ _) (by rw [HSZ.out]; kernel_rfl) (by rw [HSZ.out]; rfl) H1.out (e3.symm ▸ ?_))
   go_ret2
   exact FIN.out
theorem g_Return {c : Cfg} (R : c.Ok) {n : Nat} (H : HdIn c.pg c.st n) (hn : n ≤ 10000) (F : Nat → Prop) (p : Nat) (kn : Int → Option Int) (D : List KV) (ad : Int) (w : World) (hv : ViewAt w F p kn D) (hk : OkK kn) (hD : InvD n D) (bt : Nat) (hs : SzAt bt w) (nF0 : ¬ F 0) (nFb : ¬ F bt) :
   Calls Tryz.prog 52 #[.pointer (some ⟨p,0,none⟩),.agg c.arr,.int .i64 ad] w (WentV w F p kn (fun b : Bool => .bool b) (backP c.us c.pg c.st ad kn D)) := by
 obtain ⟨Rr,hRr⟩ : ∃ Rr,backP c.us c.pg c.st ad kn D = Rr := ⟨_,rfl⟩
 rw [hRr]
 obtain ⟨w1,e1,hl1,m1,s1⟩ := entry1 w (.cells c.arr 28)
 have nFl : ¬ F w.heap.size := fun q => by have := hv.lt _ q; omega
 have MM := hQQ m1
 have L0 := hQQ hl1
 have M0 : Hid (MidV w1 w1 F (fun _ => False) p kn n D F) := hQQ (MidV.begin (hv.more m1) hD)
 have KL : Hid (∀ wr D' F',MidV w1 wr F (fun _ => False) p kn n D' F' → wr.heap[w.heap.size]? = some (.cells c.arr 28 (0,0))) := hQQ fun wr D' F' h => mid_own h L0.out nFl (fun q => q)
 have NEED : Hid (∀ a w2,Rr = .need a → DeadAt w2 p a → Turned (fun b => F b ∨ False) w1 w2 → WentV w F p kn (fun b : Bool => Value.bool b) Rr (.panicked (endOf p)) w2) := hQQ fun a w2 e hd ht => mid_need MM.out (fun _ q => q.elim) e hd ht
 have DONE : Hid (∀ x w2 D' F',Rr = .ok x D' → MidV w1 w2 F (fun _ => False) p kn n D' F' → WentV w F p kn (fun b : Bool => Value.bool b) Rr (.returned ((fun b : Bool => Value.bool b) x)) w2) := hQQ fun x w2 D' F' e h => mid_done MM.out (fun _ q => q.elim) h e
 have HK := hQQ hk
 have HR := hQQ R
 have HH := hQQ H
 clear hl1 m1 hv hD hk R H nFl
 have SZ : Hid (∀ wr D' F',MidV w1 wr F (fun _ => False) p kn n D' F' → SzAt bt wr) := hQQ fun wr D' F' h => (hs.more MM.out).keep h.turn (by rintro (q | q); exact nF0 q; exact q) (by rintro (q | q); exact nFb q; exact q)
 have NF : Hid (∀ wr D' F',MidV w1 wr F (fun _ => False) p kn n D' F' → ¬ F' 0 ∧ ¬ F' bt) := hQQ fun wr D' F' h => ⟨h.off (hs.more MM.out).lt0 nF0,h.off (hs.more MM.out).lt nFb⟩
 have HRr := hQQ (show bindP (takenP c.us c.pg c.st ad) (fun x => backTo c.pg c.st (tkYes x)) kn D = Rr from hRr)
 have HN := hQQ hn
 clear hRr hs nF0 nFb
 have hmf : ∀ (fn : Fn) (first cap : Array Value) (w : World),(Instr.makeFunc fn first cap).run Tryz.prog w = .ok (.func fn first cap) w := fun _ _ _ _ => rfl
 go_enter_defers Tryz.func52,Tryz.ntmps52
 go_wp2_with (refine wpList_load_rowG rfl 28 _ rfl _ rfl 28 _ _ _ L0.out Tryz.underlying28 rfl (by kernel_rfl) ?_)
 refine (g_taken HR.out HH.out hn F p kn D ad w1 M0.out.view HK.out M0.out.inv bt (SZ.out _ _ _ M0.out) (NF.out _ _ _ M0.out).1 (NF.out _ _ _ M0.out).2).mono ?_
 intro e w2 he
 rcases M0.out.step (More.refl _) HK.out (good_taken HH.out.toPgIn ad) he with ⟨a',hE,rfl,hd',ht',_⟩ | ⟨x2,D2,F2,hE,rfl,M2,hq2,hk2,hf2⟩
 · exact NEED.out a' w2 (HRr.out.symm.trans (bindP_need hE)) hd' ht'
 have R2 := hQQ ((bindP_ok hE).symm.trans HRr.out)
 have M2 := hQQ M2
 have HE2 := hQQ hE
 clear he hE hk2 hf2
 obtain ⟨cs,i,b,ev,hsz,h1,hb⟩ := tk_one c p x2
 rw [ev]
 obtain ⟨w3,e3,b3,m3⟩ := new_told w2 cs
 have H1 := hQQ h1
 have HSZ := hQQ hsz
 clear h1 hsz ev
 have M3 := hQQ (M2.out.more m3)
 have nFg : ¬ F2 w2.heap.size := fun z => by have := M2.out.view.lt _ z; omega
 rcases hb with ⟨rfl,hy⟩ | ⟨q,k,rfl,rfl,rfl⟩
 · have FIN := hQQ (DONE.out false w3 D2 F2 (by have := R2.out; rw [hy] at this; exact this.symm) M3.out)
   clear R2 hy
   go_wp2_with (refine wpList_store_row rfl 74 _ _ rfl _ _ rfl rfl 74 _ (row_new _ _ _) (by rw [HSZ.out]; kernel_rfl) (by rw [HSZ.out]; rfl) H1.out (e3.symm ▸ ?_))
   refine ⟨_,results_tmp (t:=6) rfl _ _ _,?_⟩
   exact FIN.out
 · have HQ := hQQ (hq2 q k i true rfl).1
   have PB := hQQ (page_b HH.out.toPgIn HQ.out)
   obtain ⟨b,hwb,-⟩ := taken_read HE2.out
   have R2 := hQQ (show backRest c.pg c.st q k i kn D2 = Rr from R2.out)
   have WB0 := hQQ hwb
   clear HE2 hq2 hwb
   go_wp2_with (first | (refine wpList_store_row rfl 74 _ _ rfl _ _ rfl rfl 74 _ (row_new _ _ _) (by rw [HSZ.out]; kernel_rfl) (by rw [HSZ.out]; rfl) H1.out (e3.symm ▸ ?_)) | (refine wpList_load_row rfl 74 _ rfl _ rfl 74 _ _ _ b3 Tryz.underlying74 rfl (by kernel_rfl) ?_))
   have BG := hQQ b3
   clear e3 m3 b3 M2
   generalize w2.heap.size = gb at BG nFg
   refine (g_moves HR.out HH.out.toPgIn HN.out F2 p kn D2 q k HQ.out w3 M3.out.view HK.out M3.out.inv).mono ?_
   intro e w7 he
   rcases M3.out.stepR (More.refl _) HK.out (good_read n PB.out.2.1.2.1) he with ⟨a',hE,rfl,hd',ht',_⟩ | ⟨was,D6,F6,vm,hE,rfl,⟨gm,wm,rfl,hgm,hwm,hne,nm,nw,bm,bw⟩,M6,hq6,hk6,hf6⟩
   · exact NEED.out a' w7 (R2.out.symm.trans (bindP_need hE)) hd' ht'
   obtain ⟨rfl,_⟩ := readP_ok hE
   have R6 := hQQ ((bindP_ok hE).symm.trans R2.out)
   have R6 := hQQ ((bindP_ok (readP_some WB0.out)).symm.trans R6.out)
   have BG := hQQ (hk6 _ _ nFg BG.out)
   have BM := hQQ bm
   have BW := hQQ bw
   have NM := hQQ nm
   have NW := hQQ nw
   have M6 := hQQ M6
   have HB0 : Hid (W64 b) := hQQ ((good_read n PB.out.2.2.2.1).ok HK.out M6.out.inv (readP_some WB0.out)).2
   clear he hE bm bw nm nw hgm hwm hne hk6 hf6 hq6 M3 R2 nFg
   have YB := hQQ (fun W (hW : More w7 W) => g_bitsK HR.out HH.out.toPgIn F6 p kn D6 q k b HN.out HQ.out W (M6.out.view.more hW) WB0.out)
   have YS := hQQ (fun W => o_clearG (i:=i) HB0.out W)
   obtain ⟨nb',hnb'⟩ : ∃ nb',clearV b i = nb' := ⟨_,rfl⟩
   have HB := hQQ (clear_w64 HB0.out i)
   have HC := hQQ (And.intro (cnt_b (clearV b i) k).1 (cnt_b (clearV b i) k).2.1)
   rw [hnb'] at YS R6 HB HC
   clear hnb'
   go_wp2_with fail
   refine wp_region_more_tail 5 (by kernel_rfl) (by kernel_rfl) ?_
   simp only [List.take_succ_cons,List.take_zero,List.drop_succ_cons,List.drop_zero]
   refine wpQuiet_load_row rfl 74 _ rfl gb rfl 74 _ _ _ (fun W hW => hW.block BG.out) Tryz.underlying74 rfl (by kernel_rfl) ?_
   refine wpQuiet_load_row rfl 74 _ rfl gb rfl 74 _ _ _ (fun W hW => hW.block BG.out) Tryz.underlying74 rfl (by kernel_rfl) ?_
   iterate 1
     with_reducible refine wpQuiet_step (fun K hK => ?_)
     go_simp
     first
     | (refine hK _ ?_; clear hK K)
     | (apply Exists.intro
        refine ⟨fun W hW => ?_,hK _ ?_⟩
        first
        | (go_at_call 37; exact Calls.more hW (YB.out W hW))
        | (go_simp; try rfl)
        clear hK K)
   iterate 1
     with_reducible refine wpQuiet_step (fun K hK => ?_)
     go_simp
     first
     | (refine hK _ ?_; clear hK K)
     | (apply Exists.intro
        refine ⟨fun W hW => ?_,hK _ ?_⟩
        first
        | (go_simp; try rfl)
        clear hK K)
   iterate 1
     with_reducible refine wpQuiet_step (fun K hK => ?_)
     go_simp
     first
     | (refine hK _ ?_; clear hK K)
     | (apply Exists.intro
        refine ⟨fun W hW => ?_,hK _ ?_⟩
        first
        | (go_at_call 76; exact Calls.more hW (YS.out W))
        | (go_simp; try rfl)
        clear hK K)
   refine wpQuiet_nil ?_
   intro w8 h8
   have M8 := hQQ (M6.out.more h8)
   have BM8 := hQQ (h8.block BM.out)
   have BW8 := hQQ (h8.block BW.out)
   clear h8
   go_wp2_with fail
   refine (g_put HR.out HH.out.toPgIn hn F6 p kn D6 q k nb' HQ.out HB.out HC.out w8 M8.out.view HK.out M8.out.inv bt (SZ.out _ _ _ M8.out) (NF.out _ _ _ M8.out).1 (NF.out _ _ _ M8.out).2).mono ?_
   intro e w9 he
   rcases M8.out.step (More.refl _) HK.out (good_pgPut HH.out.toPgIn HQ.out HB.out) he with ⟨a',hE,rfl,hd',ht',hk'⟩ | ⟨x9,D9,F9,hE,rfl,M9,hq9,hk9,hf9⟩
   · have NE := hQQ (NEED.out a')
     have R9 := hQQ (R6.out.symm.trans (bindP_need hE))
     change bodyPostD _ _ _ (Exit.panic (endOf p)) _ _
     refine leaves_cons (f:=64) (args:=#[.pointer (some ⟨gm,0,none⟩),.pointer (some ⟨wm,0,none⟩)]) (by simp) (by simp [go_sem]) ?_
     refine (gd_moves HR.out HH.out p a' q k was gm wm w9 hd' (hk' _ _ NM.out BM8.out) (hk' _ _ NW.out BW8.out) _).mono ?_
     rintro e u' w10 ⟨rfl,rfl,h10⟩
     exact NE.out w10 R9.out (hd'.keep h10 (fun q => q)) (turned_own ht' h10 (fun _ q => q.elim))
   have R9 := hQQ ((bindP_ok hE).symm.trans R6.out)
   have BM9 := hQQ (hk9 _ _ NM.out BM8.out)
   have BW9 := hQQ (hk9 _ _ NW.out BW8.out)
   have NM9 := hQQ (show ¬ F9 gm from fun z => by rcases hf9 _ z with q | q; exact NM.out q; have := lt_of_heap BM8.out; omega)
   have M9 := hQQ M9
   clear he hE hk9 hf9 hq9 M8 BM8 BW8
   clear BG YB YS HB HC WB0 HB0 M6 BM BW NM NW SZ NF R6 L0 M0
   go_wp2_with fail
   refine leaves_cons (f:=64) (args:=#[.pointer (some ⟨gm,0,none⟩),.pointer (some ⟨wm,0,none⟩)]) (by simp) (by simp [go_sem]) ?_
   refine (g_moves1 HR.out HH.out hn F9 p kn D9 q k was HQ.out gm wm w9 M9.out.view HK.out M9.out.inv BM9.out BW9.out NM9.out _).mono ?_
   rintro e u' w13 ⟨rfl,he⟩
   rcases M9.out.step (More.refl _) HK.out (good_moves HH.out q k was HQ.out) he with ⟨a',hE,rfl,hd',ht',_⟩ | ⟨x11,D11,F11,hE,rfl,M11,_,_,_⟩
   · exact NEED.out a' w13 (R9.out.symm.trans (bindP_need hE)) hd' ht'
   have FIN := hQQ (DONE.out true w13 D11 F11 (R9.out.symm.trans (bindP_ok hE)) M11)
   refine ⟨_,results_tmp (t:=6) rfl _ _ _,?_⟩
   exact FIN.out
abbrev V4 := Int × Int × Int × Int
def val4 (t : V4) : Value := .agg #[.int .i64 t.1,.int .i64 t.2.1,.int .i64 t.2.2.1,.int .i64 t.2.2.2]
def gdoneP (us pg st kind k ad : Int) : Prg V4 :=
 if kind = 0 ∨ kind = 1 then bindP (grabP us pg st k) (fun x => pureP (x.1,b2i x.2,0,0))
 else if kind = 2 ∨ kind = 3 then bindP (backP us pg st ad) (fun b => pureP (b2i b,0,0,0))
 else bindP (lookP us pg st ad) (fun x => bindP (roomP pg st k) (fun b => bindP (freeP pg st k) (fun f => pureP (x.1,b2i x.2,b2i b,f))))
theorem sound_freeN (pg st k : Int) : ∀ (m : Nat) (q s : Int),Sound (freeN pg st k m q s)
 | 0,q,s => sound_pure s
 | m + 1,q,s => sound_bind (sound_kind _ _ _) fun x => sound_ite (sound_bind (sound_read _) fun b => sound_freeN pg st k m _ _) (sound_freeN pg st k m _ _)
theorem sound_freeP (pg st k : Int) : Sound (freeP pg st k) := sound_ite (sound_pure _) (sound_freeN _ _ _ _ _ _)
theorem sound_gdone (us pg st kind k ad : Int) : Sound (gdoneP us pg st kind k ad) :=
 sound_ite (sound_bind (sound_grab _ _ _ _) fun _ => sound_pure _) (sound_ite (sound_bind (sound_back _ _ _ _) fun _ => sound_pure _) (sound_bind (sound_look _ _ _ _) fun _ => sound_bind (sound_room _ _ _) fun _ => sound_bind (sound_freeP _ _ _) fun _ => sound_pure _))
def gdoneV (us pg st kind k ad : Int) (ws : List Int) : V4 × List Int :=
 if kind = 0 ∨ kind = 1 then (((grabV us pg st k ws).1.1,b2i (grabV us pg st k ws).1.2,0,0),(grabV us pg st k ws).2)
 else if kind = 2 ∨ kind = 3 then ((b2i (backV us pg st ad ws).1,0,0,0),(backV us pg st ad ws).2)
 else (((lookV us pg st ad ws).1,b2i (lookV us pg st ad ws).2,b2i (roomV pg st k ws),freeV pg st k ws),ws)
section
variable {pg st : Int} {n : Nat} (H : HdIn pg st n)
include H
theorem good_roomP (k : Int) : Good n (fun _ => True) (roomP pg st k) := good_bind (good_plFirstN H _ _ _) fun _ _ => good_pure n trivial
theorem good_freeN (k : Int) : ∀ (m : Nat) (q s : Int),0 ≤ q → q + m ≤ pg → Good n (fun _ => True) (freeN pg st k m q s)
 | 0,q,s,_,_ => good_pure n trivial
 | m + 1,q,s,h0,h1 => good_bind (good_kind H.toPgIn q) fun x _ => good_ite (fun _ => good_bind (good_read n (page_b H.toPgIn (isPage_iff.2 ⟨h0,by omega⟩)).2.2.2.1) fun b _ => good_freeN k m _ _ (by omega) (by omega)) (fun _ => good_freeN k m _ _ (by omega) (by omega))
theorem good_freeP (k : Int) : Good n (fun _ => True) (freeP pg st k) := good_ite (fun _ => good_pure n trivial) (fun _ => good_freeN H k _ _ _ (by omega) (by have := H.pg1; omega))
theorem good_gdone (us kind k ad : Int) : Good n (fun _ => True) (gdoneP us pg st kind k ad) :=
 good_ite (fun _ => good_bind (good_grab H _ _) fun _ _ => good_pure n trivial) (fun _ => good_ite (fun _ => good_bind (good_back H _ _) fun _ _ => good_pure n trivial) (fun _ => good_bind (good_look H _ _) fun _ _ => good_bind (good_roomP H _) fun _ _ => good_bind (good_freeP H _) fun _ _ => good_pure n trivial))
theorem flat_gdone (us kind k ad : Int) : Flat n (gdoneP us pg st kind k ad) (gdoneV us pg st kind k ad) := by
 unfold gdoneP gdoneV
 split
 · exact flat_eq (flat_bind (flat_grab H us k) fun x => flat_pure n _) fun ws _ => rfl
 · split
   · exact flat_eq (flat_bind (flat_back H us ad) fun x => flat_pure n _) fun ws _ => rfl
   · exact flat_eq (flat_bind (flat_look H us ad) fun x => flat_bind (flat_room H k) fun b => flat_bind (flat_free' H k) fun f => flat_pure n _) fun ws _ => rfl
end
theorem l11_number (b : Bool) (w : World) : Calls Tryz.prog 51 #[.bool b] w (Gives w (.int .i64 (b2i b))) := by
 cases b <;> (go_enter Tryz.func51,Tryz.ntmps51; go_wp2_with fail; go_ret; exact ⟨rfl,More.refl _⟩)
theorem build4 (x : Int) (W : World) : (Instr.build 52 #[(0,.int .i64 x)]).run Tryz.prog W = .ok (.agg #[.int .i64 x,.int .i64 0,.int .i64 0,.int .i64 0]) W := run_build W _ _ _ (by kernel_rfl)
theorem build4b (x y : Int) (W : World) : (Instr.build 52 #[(0,.int .i64 x),(1,.int .i64 y)]).run Tryz.prog W = .ok (.agg #[.int .i64 x,.int .i64 y,.int .i64 0,.int .i64 0]) W := run_build W _ _ _ (by kernel_rfl)
theorem build4d (x y z u : Int) (W : World) : (Instr.build 52 #[(0,.int .i64 x),(1,.int .i64 y),(2,.int .i64 z),(3,.int .i64 u)]).run Tryz.prog W = .ok (.agg #[.int .i64 x,.int .i64 y,.int .i64 z,.int .i64 u]) W := run_build W _ _ _ (by kernel_rfl)
def DoneG (c : Cfg) (kind k m : Int) (g : Nat) (W : World) : Prop := W.heap[g]? = some (.cells c.arr 28 (0,0)) ∧ W.heap[g + 1]? = some (.cells #[.int .i64 kind,.int .i64 k,.int .i64 m] 61 (0,0))
theorem DoneG.l {c : Cfg} {kind k m : Int} {g : Nat} {W : World} (h : DoneG c kind k m g W) : W.heap[g]? = some (.cells c.arr 28 (0,0)) := h.1
theorem DoneG.a {c : Cfg} {kind k m : Int} {g : Nat} {W : World} (h : DoneG c kind k m g W) : W.heap[g + 1]? = some (.cells #[.int .i64 kind,.int .i64 k,.int .i64 m] 61 (0,0)) := h.2
theorem g_done {c : Cfg} (R : c.Ok) {n : Nat} (H : HdIn c.pg c.st n) (hn : n ≤ 10000) (F : Nat → Prop) (p : Nat) (kn : Int → Option Int) (D : List KV) (kind k m ad : Int) (w : World) (hv : ViewAt w F p kn D) (hk : OkK kn) (hD : InvD n D) (bt : Nat) (hs : SzAt bt w) (nF0 : ¬ F 0) (nFb : ¬ F bt) :
   Calls Tryz.prog 27 #[.pointer (some ⟨p,0,none⟩),.agg c.arr,.agg #[.int .i64 kind,.int .i64 k,.int .i64 m],.int .i64 ad] w (WentV w F p kn val4 (gdoneP c.us c.pg c.st kind k ad kn D)) := by
 obtain ⟨Rr,hRr⟩ : ∃ Rr,gdoneP c.us c.pg c.st kind k ad kn D = Rr := ⟨_,rfl⟩
 rw [hRr]
 obtain ⟨w1,e1,hb0,hb1,hb2,m1,s1⟩ := entry3 w (.cells c.arr 28) (.cells #[.int .i64 kind,.int .i64 k,.int .i64 m] 61) (.cells #[.int .i64 0,.int .i64 0,.int .i64 0,.int .i64 0] 52)
 have nF : ∀ b,w.heap.size ≤ b → ¬ F b := fun b hb r => by have := hv.lt _ r; omega
 have MM := hQQ m1
 have L0 := hQQ hb0
 have A0 := hQQ hb1
 have Z0 := hQQ hb2
 have M0 : Hid (MidV w1 w1 F (fun _ => False) p kn n D F) := hQQ (MidV.begin (hv.more m1) hD)
 have KP : Hid (∀ wr D' F',MidV w1 wr F (fun _ => False) p kn n D' F' → wr.heap[w.heap.size]? = some (.cells c.arr 28 (0,0)) ∧ wr.heap[w.heap.size + 1]? = some (.cells #[.int .i64 kind,.int .i64 k,.int .i64 m] 61 (0,0)) ∧ wr.heap[w.heap.size + 2]? = some (.cells #[.int .i64 0,.int .i64 0,.int .i64 0,.int .i64 0] 52 (0,0))) := hQQ fun wr D' F' h =>
   ⟨mid_own h L0.out (nF _ (by omega)) (fun q => q),mid_own h A0.out (nF _ (by omega)) (fun q => q),mid_own h Z0.out (nF _ (by omega)) (fun q => q)⟩
 have NEED : Hid (∀ a w2,Rr = .need a → DeadAt w2 p a → Turned (fun b => F b ∨ False) w1 w2 → WentV w F p kn val4 Rr (.panicked (endOf p)) w2) := hQQ fun a w2 e hd ht => mid_need MM.out (fun _ q => q.elim) e hd ht
 have DONE : Hid (∀ x w2 D' F',Rr = .ok x D' → MidV w1 w2 F (fun _ => False) p kn n D' F' → WentV w F p kn val4 Rr (.returned (val4 x)) (w2.setRow (w.heap.size + 2) #[.int .i64 x.1,.int .i64 x.2.1,.int .i64 x.2.2.1,.int .i64 x.2.2.2])) := hQQ fun x w2 D' F' e h => done_fin MM.out h e (g:=w.heap.size + 2) (by omega) (by omega) (nF _ (by omega)) (KP.out _ _ _ h).2.2 (Turned.setRow (Turned.refl _ w2) _ _ (fun _ => rfl))
 have y0 := cell_more (j:=0) hb1 (More.refl _) rfl
 have y1 := cell_more (j:=1) hb1 (More.refl _) rfl
 have HK := hQQ hk
 have HR := hQQ R
 have HH := hQQ H
 have b41 := build4
 have b42 := build4b
 have b44 := build4d
 have SZ : Hid (∀ wr D' F',MidV w1 wr F (fun _ => False) p kn n D' F' → SzAt bt wr) := hQQ fun wr D' F' h => (hs.more MM.out).keep h.turn (by rintro (q | q); exact nF0 q; exact q) (by rintro (q | q); exact nFb q; exact q)
 have NF : Hid (∀ wr D' F',MidV w1 wr F (fun _ => False) p kn n D' F' → ¬ F' 0 ∧ ¬ F' bt) := hQQ fun wr D' F' h => ⟨h.off (hs.more MM.out).lt0 nF0,h.off (hs.more MM.out).lt nFb⟩
 unfold gdoneP at hRr
 clear hb0 hb1 hb2 m1 hv hD hk R H nF hs nF0 nFb
 by_cases z0 : kind = 0
 · have t0 : (kind == 0) = true := by simp [z0]
   rw [if_pos (.inl z0)] at hRr
   have HRr := hQQ hRr
   clear hRr z0
   have START := 0
   clear START
   go_enter Tryz.func27,Tryz.ntmps27
   go_wp2_with (refine wpList_load_rowG rfl 28 _ rfl _ rfl 28 _ _ _ L0.out Tryz.underlying28 rfl (by kernel_rfl) ?_)
   refine (g_Grab HR.out HH.out hn F p kn D k w1 M0.out.view HK.out M0.out.inv bt (SZ.out _ _ _ M0.out) (NF.out _ _ _ M0.out).1 (NF.out _ _ _ M0.out).2).mono ?_
   intro e w4 he
   rcases M0.out.step (More.refl _) HK.out (good_grab HH.out _ _) he with ⟨a',hE,rfl,hd',ht',_⟩ | ⟨x4,D4,F4,hE,rfl,M4,hq4,_,_⟩
   · exact ⟨rfl,NEED.out a' w4 (HRr.out.symm.trans (bindP_need hE)) hd' ht'⟩
   have R4 := hQQ ((bindP_ok hE).symm.trans HRr.out)
   have M4 := hQQ M4
   clear he hE
   obtain ⟨xa,xb⟩ := x4
   go_wp2_with fail
   refine (l11_number xb _).mono ?_
   rintro e w5 ⟨rfl,h5⟩
   have M5 := hQQ (M4.out.more h5)
   have Z5 := hQQ (KP.out _ _ _ M5.out).2.2
   have FIN := hQQ (DONE.out (xa,b2i xb,0,0) w5 _ _ R4.out.symm M5.out)
   clear h5 R4
   go_wp2_with (refine wpList_store_row rfl 52 _ _ rfl (w.heap.size + 2) _ rfl rfl 52 #[.int .i64 0,.int .i64 0,.int .i64 0,.int .i64 0] Z5.out (by kernel_rfl) rfl (by simp [Value.oneCell']) ?_)
   refine bodyPost_ret (v:=val4 (xa,b2i xb,0,0)) (results_cell_row Tryz.results27 _ _ _ 52 _ (0,0) _ rfl (setRow_heap _ _ _ _ _ _ Z5.out) Tryz.underlying52 rfl (by kernel_rfl)) rfl FIN.out
 have t0 : (kind == 0) = false := by simp [z0]
 by_cases z1 : kind = 1
 · have t1 : (kind == 1) = true := by simp [z1]
   rw [if_pos (.inr z1)] at hRr
   have HRr := hQQ hRr
   clear hRr z0 z1
   have START := 0
   clear START
   go_enter Tryz.func27,Tryz.ntmps27
   go_wp2_with (refine wpList_load_rowG rfl 28 _ rfl _ rfl 28 _ _ _ L0.out Tryz.underlying28 rfl (by kernel_rfl) ?_)
   refine (g_Grab HR.out HH.out hn F p kn D k w1 M0.out.view HK.out M0.out.inv bt (SZ.out _ _ _ M0.out) (NF.out _ _ _ M0.out).1 (NF.out _ _ _ M0.out).2).mono ?_
   intro e w4 he
   rcases M0.out.step (More.refl _) HK.out (good_grab HH.out _ _) he with ⟨a',hE,rfl,hd',ht',_⟩ | ⟨x4,D4,F4,hE,rfl,M4,hq4,_,_⟩
   · exact ⟨rfl,NEED.out a' w4 (HRr.out.symm.trans (bindP_need hE)) hd' ht'⟩
   have R4 := hQQ ((bindP_ok hE).symm.trans HRr.out)
   have M4 := hQQ M4
   clear he hE
   obtain ⟨xa,xb⟩ := x4
   go_wp2_with fail
   refine (l11_number xb _).mono ?_
   rintro e w5 ⟨rfl,h5⟩
   have M5 := hQQ (M4.out.more h5)
   have Z5 := hQQ (KP.out _ _ _ M5.out).2.2
   have FIN := hQQ (DONE.out (xa,b2i xb,0,0) w5 _ _ R4.out.symm M5.out)
   clear h5 R4
   go_wp2_with (refine wpList_store_row rfl 52 _ _ rfl (w.heap.size + 2) _ rfl rfl 52 #[.int .i64 0,.int .i64 0,.int .i64 0,.int .i64 0] Z5.out (by kernel_rfl) rfl (by simp [Value.oneCell']) ?_)
   refine bodyPost_ret (v:=val4 (xa,b2i xb,0,0)) (results_cell_row Tryz.results27 _ _ _ 52 _ (0,0) _ rfl (setRow_heap _ _ _ _ _ _ Z5.out) Tryz.underlying52 rfl (by kernel_rfl)) rfl FIN.out
 have t1 : (kind == 1) = false := by simp [z1]
 rw [if_neg (show ¬ (kind = 0 ∨ kind = 1) by rintro (q | q); exact z0 q; exact z1 q)] at hRr
 by_cases z2 : kind = 2
 · have t2 : (kind == 2) = true := by simp [z2]
   rw [if_pos (.inl z2)] at hRr
   have HRr := hQQ hRr
   clear hRr z0 z1 z2
   have START := 0
   clear START
   go_enter Tryz.func27,Tryz.ntmps27
   go_wp2_with (refine wpList_load_rowG rfl 28 _ rfl _ rfl 28 _ _ _ L0.out Tryz.underlying28 rfl (by kernel_rfl) ?_)
   refine (g_Return HR.out HH.out hn F p kn D ad w1 M0.out.view HK.out M0.out.inv bt (SZ.out _ _ _ M0.out) (NF.out _ _ _ M0.out).1 (NF.out _ _ _ M0.out).2).mono ?_
   intro e w4 he
   rcases M0.out.step (More.refl _) HK.out (good_back HH.out _ _) he with ⟨a',hE,rfl,hd',ht',_⟩ | ⟨x4,D4,F4,hE,rfl,M4,hq4,_,_⟩
   · exact ⟨rfl,NEED.out a' w4 (HRr.out.symm.trans (bindP_need hE)) hd' ht'⟩
   have R4 := hQQ ((bindP_ok hE).symm.trans HRr.out)
   have M4 := hQQ M4
   clear he hE
   go_wp2_with fail
   refine (l11_number x4 _).mono ?_
   rintro e w5 ⟨rfl,h5⟩
   have M5 := hQQ (M4.out.more h5)
   have Z5 := hQQ (KP.out _ _ _ M5.out).2.2
   have FIN := hQQ (DONE.out (b2i x4,0,0,0) w5 _ _ R4.out.symm M5.out)
   clear h5 R4
   go_wp2_with (refine wpList_store_row rfl 52 _ _ rfl (w.heap.size + 2) _ rfl rfl 52 #[.int .i64 0,.int .i64 0,.int .i64 0,.int .i64 0] Z5.out (by kernel_rfl) rfl (by simp [Value.oneCell']) ?_)
   refine bodyPost_ret (v:=val4 (b2i x4,0,0,0)) (results_cell_row Tryz.results27 _ _ _ 52 _ (0,0) _ rfl (setRow_heap _ _ _ _ _ _ Z5.out) Tryz.underlying52 rfl (by kernel_rfl)) rfl FIN.out
 have t2 : (kind == 2) = false := by simp [z2]
 by_cases z3 : kind = 3
 · have t3 : (kind == 3) = true := by simp [z3]
   rw [if_pos (.inr z3)] at hRr
   have HRr := hQQ hRr
   clear hRr z0 z1 z2 z3
   have START := 0
   clear START
   go_enter Tryz.func27,Tryz.ntmps27
   go_wp2_with (refine wpList_load_rowG rfl 28 _ rfl _ rfl 28 _ _ _ L0.out Tryz.underlying28 rfl (by kernel_rfl) ?_)
   refine (g_Return HR.out HH.out hn F p kn D ad w1 M0.out.view HK.out M0.out.inv bt (SZ.out _ _ _ M0.out) (NF.out _ _ _ M0.out).1 (NF.out _ _ _ M0.out).2).mono ?_
   intro e w4 he
   rcases M0.out.step (More.refl _) HK.out (good_back HH.out _ _) he with ⟨a',hE,rfl,hd',ht',_⟩ | ⟨x4,D4,F4,hE,rfl,M4,hq4,_,_⟩
   · exact ⟨rfl,NEED.out a' w4 (HRr.out.symm.trans (bindP_need hE)) hd' ht'⟩
   have R4 := hQQ ((bindP_ok hE).symm.trans HRr.out)
   have M4 := hQQ M4
   clear he hE
   go_wp2_with fail
   refine (l11_number x4 _).mono ?_
   rintro e w5 ⟨rfl,h5⟩
   have M5 := hQQ (M4.out.more h5)
   have Z5 := hQQ (KP.out _ _ _ M5.out).2.2
   have FIN := hQQ (DONE.out (b2i x4,0,0,0) w5 _ _ R4.out.symm M5.out)
   clear h5 R4
   go_wp2_with (refine wpList_store_row rfl 52 _ _ rfl (w.heap.size + 2) _ rfl rfl 52 #[.int .i64 0,.int .i64 0,.int .i64 0,.int .i64 0] Z5.out (by kernel_rfl) rfl (by simp [Value.oneCell']) ?_)
   refine bodyPost_ret (v:=val4 (b2i x4,0,0,0)) (results_cell_row Tryz.results27 _ _ _ 52 _ (0,0) _ rfl (setRow_heap _ _ _ _ _ _ Z5.out) Tryz.underlying52 rfl (by kernel_rfl)) rfl FIN.out
 have t3 : (kind == 3) = false := by simp [z3]
 rw [if_neg (show ¬ (kind = 2 ∨ kind = 3) by rintro (q | q); exact z2 q; exact z3 q)] at hRr
 have HRr := hQQ hRr
 clear hRr z0 z1 z2 z3
 have KC : Hid (∀ wr D' F',MidV w1 wr F (fun _ => False) p kn n D' F' → DoneG c kind k m w.heap.size wr) := hQQ fun wr D' F' h => ⟨(KP.out _ _ _ h).1,(KP.out _ _ _ h).2.1⟩
 go_enter Tryz.func27,Tryz.ntmps27
 go_wp2_with (refine wpList_load_rowG rfl 28 _ rfl _ rfl 28 _ _ _ L0.out Tryz.underlying28 rfl (by kernel_rfl) ?_)
 refine (g_Taken HR.out HH.out hn F p kn D ad w1 M0.out.view HK.out M0.out.inv bt (SZ.out _ _ _ M0.out) (NF.out _ _ _ M0.out).1 (NF.out _ _ _ M0.out).2).mono ?_
 intro e w3 he
 rcases M0.out.step (More.refl _) HK.out (good_look HH.out _ _) he with ⟨a',hE,rfl,hd',ht',_⟩ | ⟨x3,D3,F3,hE,rfl,M3,hq3,_,_⟩
 · exact ⟨rfl,NEED.out a' w3 (HRr.out.symm.trans (bindP_need hE)) hd' ht'⟩
 have R3 := hQQ ((bindP_ok hE).symm.trans HRr.out)
 have M3 := hQQ M3
 clear he hE
 go_wp2_with fail
 obtain ⟨xa,xb⟩ := x3
 refine wp_region_anyC (DoneG c kind k m w.heap.size) (by kernel_rfl) ?_
 have MR := hQQ (M3.out.more ((More.refl w3).drewN 1))
 change anyC _ _ _ _ _ _ _ _ (w3.drewN 1)
 generalize w3.drewN 1 = wr at MR ⊢
 generalize hA : Act.mk _ _ = A
 have HF : AG 61 A [(0,.pointer (some ⟨p,0,none⟩)),(5,.pointer (some ⟨w.heap.size,0,none⟩)),(6,.pointer (some ⟨w.heap.size + 1,0,none⟩)),(8,.pointer (some ⟨w.heap.size + 2,0,none⟩)),(11,.int .i64 xa),(12,.bool xb)] := by
   rw [← hA]
   refine ⟨⟨Nat.le_of_ble_eq_true rfl,rfl⟩,?_⟩
   intro z hz; simp only [List.mem_cons,List.not_mem_nil,or_false] at hz; rcases hz with rfl | rfl | rfl | rfl | rfl | rfl <;> rfl
 refine anyC_start (fun a W => a.eval (.tmp 8) = .pointer (some ⟨w.heap.size + 2,0,none⟩) ∧ a.defers = [] ∧ ∃ x W0 D0 F0,W = W0.setRow (w.heap.size + 2) #[.int .i64 x.1,.int .i64 x.2.1,.int .i64 x.2.2.1,.int .i64 x.2.2.2] ∧ Rr = .ok x D0 ∧ MidV w1 W0 F (fun _ => False) p kn n D0 F0) (fun W => WentV w F p kn val4 Rr (.panicked (endOf p)) W) (endOf p) (fun a W hd h => ⟨hd,h⟩) (fun _ _ _ _ _ h => h) ?_ ?_
 · skip
   clear HF hA A
   rintro a W ⟨t8,hdf,x,W0,D0,F0,rfl,hx,hM⟩
   have FIN := hQQ (DONE.out x W0 D0 F0 hx hM)
   have Z := (KP.out _ _ _ hM).2.2
   clear hx hM
   have ha8 : a.tmps.getD 8 undef = .pointer (some ⟨w.heap.size + 2,0,none⟩) := t8
   go_wp2_with fail
   refine bodyPost_ret (v:=val4 x) (results_cell_row Tryz.results27 _ _ _ 52 _ (0,0) _ ha8 (setRow_heap _ _ _ _ _ _ Z) Tryz.underlying52 rfl (by kernel_rfl)) hdf FIN.out
 intro QQ FINE FIND FINQ
 clear hA
 refine anyC_takeD (i:=0) (v:=.int .i64 xa) (some 46) rfl rfl (by kernel_rfl) (by kernel_rfl) (by kernel_rfl) (fun c a w => FINQ c a _ _ w) (KC.out _ _ _ MR.out) (by exact yieldsC_moveG (wanted_none rfl) _ rfl (HF.get 4 rfl)) ?_
 replace HF := HF.put 46 (.int .i64 xa) (by decide) rfl
 generalize hB1_46 : Act.put _ _ _ = A at HF ⊢
 refine anyC_takeD (i:=1) (v:=.bool xb) (some 47) rfl rfl (by kernel_rfl) (by kernel_rfl) (by kernel_rfl) (fun c a w => FINQ c a _ _ w) (KC.out _ _ _ MR.out) (by exact yieldsC_moveG (wanted_none rfl) _ rfl (HF.get 6 rfl)) ?_
 replace HF := HF.put 47 (.bool xb) (by decide) rfl
 generalize hB2_47 : Act.put _ _ _ = A at HF ⊢
 refine anyC_takeD (i:=3) (v:=.pointer (some ⟨p,0,none⟩)) (some 49) rfl rfl (by kernel_rfl) (by kernel_rfl) (by kernel_rfl) (fun c a w => FINQ c a _ _ w) (KC.out _ _ _ MR.out) (by exact yieldsC_moveG (wanted_none rfl) _ rfl (HF.get 2 rfl)) ?_
 replace HF := HF.put 49 (.pointer (some ⟨p,0,none⟩)) (by decide) rfl
 generalize hB3_49 : Act.put _ _ _ = A at HF ⊢
 refine anyC_takeD (i:=4) (v:=.agg c.arr) (some 50) rfl rfl (by kernel_rfl) (by kernel_rfl) (by kernel_rfl) (fun c a w => FINQ c a _ _ w) (KC.out _ _ _ MR.out) (by exact yieldsC_row (C:=(DoneG c kind k m w.heap.size)) (wanted_none rfl) 28 _ rfl w.heap.size (HF.get 4 rfl) 28 _ _ _ (fun W hW => DoneG.l hW) Tryz.underlying28 rfl (by kernel_rfl)) ?_
 replace HF := HF.put 50 (.agg c.arr) (by decide) rfl
 generalize hB4_50 : Act.put _ _ _ = A at HF ⊢
 refine anyC_takeD (i:=5) (v:=.pointer (some ⟨w.heap.size + 1,1,none⟩)) (some 51) rfl rfl (by kernel_rfl) (by kernel_rfl) (by kernel_rfl) (fun c a w => FINQ c a _ _ w) (KC.out _ _ _ MR.out) (by exact (Or.inl ⟨rfl,fun W hW => by have h5 := (HF.getD 6 rfl); go_simp⟩)) ?_
 replace HF := HF.put 51 (.pointer (some ⟨w.heap.size + 1,1,none⟩)) (by decide) rfl
 generalize hB5_51 : Act.put _ _ _ = A at HF ⊢
 refine anyC_takeD (i:=6) (v:=.int .i64 k) (some 52) rfl rfl (by kernel_rfl) (by kernel_rfl) (by kernel_rfl) (fun c a w => FINQ c a _ _ w) (KC.out _ _ _ MR.out) (by exact (Or.inl ⟨rfl,fun W hW => by have h5 := (HF.getD 0 rfl); have c1 := cell_more (j:=1) (DoneG.a hW) (More.refl _) rfl; go_simp⟩)) ?_
 replace HF := HF.put 52 (.int .i64 k) (by decide) rfl
 generalize hB6_52 : Act.put _ _ _ = A at HF ⊢
 refine anyC_takeD (i:=9) (v:=.pointer (some ⟨p,0,none⟩)) (some 55) rfl rfl (by kernel_rfl) (by kernel_rfl) (by kernel_rfl) (fun c a w => FINQ c a _ _ w) (KC.out _ _ _ MR.out) (by exact yieldsC_moveG (wanted_none rfl) _ rfl (HF.get 6 rfl)) ?_
 replace HF := HF.put 55 (.pointer (some ⟨p,0,none⟩)) (by decide) rfl
 generalize hB7_55 : Act.put _ _ _ = A at HF ⊢
 refine anyC_takeD (i:=10) (v:=.agg c.arr) (some 56) rfl rfl (by kernel_rfl) (by kernel_rfl) (by kernel_rfl) (fun c a w => FINQ c a _ _ w) (KC.out _ _ _ MR.out) (by exact yieldsC_row (C:=(DoneG c kind k m w.heap.size)) (wanted_none rfl) 28 _ rfl w.heap.size (HF.get 8 rfl) 28 _ _ _ (fun W hW => DoneG.l hW) Tryz.underlying28 rfl (by kernel_rfl)) ?_
 replace HF := HF.put 56 (.agg c.arr) (by decide) rfl
 generalize hB8_56 : Act.put _ _ _ = A at HF ⊢
 refine anyC_takeD (i:=11) (v:=.pointer (some ⟨w.heap.size + 1,1,none⟩)) (some 57) rfl rfl (by kernel_rfl) (by kernel_rfl) (by kernel_rfl) (fun c a w => FINQ c a _ _ w) (KC.out _ _ _ MR.out) (by exact (Or.inl ⟨rfl,fun W hW => by have h5 := (HF.getD 10 rfl); go_simp⟩)) ?_
 replace HF := HF.put 57 (.pointer (some ⟨w.heap.size + 1,1,none⟩)) (by decide) rfl
 generalize hB9_57 : Act.put _ _ _ = A at HF ⊢
 refine anyC_takeD (i:=12) (v:=.int .i64 k) (some 58) rfl rfl (by kernel_rfl) (by kernel_rfl) (by kernel_rfl) (fun c a w => FINQ c a _ _ w) (KC.out _ _ _ MR.out) (by exact (Or.inl ⟨rfl,fun W hW => by have h5 := (HF.getD 0 rfl); have c1 := cell_more (j:=1) (DoneG.a hW) (More.refl _) rfl; go_simp⟩)) ?_
 replace HF := HF.put 58 (.int .i64 k) (by decide) rfl
 generalize hB10_58 : Act.put _ _ _ = A at HF ⊢
 refine anyC_oneK (i:=2) (some 48) (by kernel_rfl) rfl (wanted_none rfl) rfl (fun K hK => ?_)
 refine wp_call1 (v0:=.bool xb) rfl (HF.get 8 rfl) (enters_of Tryz.func51 (by kernel_rfl) rfl) ?_
 refine (l11_number xb _).mono ?_
 rintro e w4 ⟨rfl,h4⟩
 have M4 := hQQ (MR.out.more h4)
 clear h4
 refine hK _ _ (KC.out _ _ _ M4.out) ?_
 clear hK K
 replace HF := HF.put 48 (.int .i64 (b2i xb)) (by decide) rfl
 generalize hB11_48 : Act.put _ _ _ = A at HF ⊢
 refine anyC_oneK (i:=7) (some 53) (by kernel_rfl) rfl (wanted_none rfl) rfl (fun K hK => ?_)
 refine wp_call3 (v0:=.pointer (some ⟨p,0,none⟩)) (v1:=.agg c.arr) (v2:=.int .i64 k) rfl (HF.get 8 rfl) (HF.get 7 rfl) (HF.get 5 rfl) (enters_of Tryz.func14 (by kernel_rfl) rfl) ?_
 refine (g_Room HR.out HH.out F3 p kn D3 k w4 M4.out.view HK.out M4.out.inv bt (SZ.out _ _ _ M4.out) (NF.out _ _ _ M4.out).1 (NF.out _ _ _ M4.out).2).mono ?_
 intro e w5 he
 rcases M4.out.step (More.refl _) HK.out (good_roomP HH.out _) he with ⟨a',hE,rfl,hd',ht',_⟩ | ⟨x5,D5,F5,hE,rfl,M5,hq5,_,_⟩
 · exact FIND _ _ HF.1.2 (NEED.out a' w5 (R3.out.symm.trans (bindP_need hE)) hd' ht')
 have R5 := hQQ ((bindP_ok hE).symm.trans R3.out)
 have M5 := hQQ M5
 clear he hE
 refine hK _ _ (KC.out _ _ _ M5.out) ?_
 clear hK K
 replace HF := HF.put 53 (.bool x5) (by decide) rfl
 generalize hB12_53 : Act.put _ _ _ = A at HF ⊢
 refine anyC_oneK (i:=8) (some 54) (by kernel_rfl) rfl (wanted_none rfl) rfl (fun K hK => ?_)
 refine wp_call1 (v0:=.bool x5) rfl (HF.get 0 rfl) (enters_of Tryz.func51 (by kernel_rfl) rfl) ?_
 refine (l11_number x5 _).mono ?_
 rintro e w6 ⟨rfl,h6⟩
 have M6 := hQQ (M5.out.more h6)
 clear h6
 refine hK _ _ (KC.out _ _ _ M6.out) ?_
 clear hK K
 replace HF := HF.put 54 (.int .i64 (b2i x5)) (by decide) rfl
 generalize hB13_54 : Act.put _ _ _ = A at HF ⊢
 refine anyC_oneK (i:=13) (some 59) (by kernel_rfl) rfl (wanted_none rfl) rfl (fun K hK => ?_)
 refine wp_call3 (v0:=.pointer (some ⟨p,0,none⟩)) (v1:=.agg c.arr) (v2:=.int .i64 k) rfl (HF.get 6 rfl) (HF.get 5 rfl) (HF.get 3 rfl) (enters_of Tryz.func22 (by kernel_rfl) rfl) ?_
 refine (g_Free HR.out HH.out hn F5 p kn D5 k w6 M6.out.view HK.out M6.out.inv bt (SZ.out _ _ _ M6.out) (NF.out _ _ _ M6.out).1 (NF.out _ _ _ M6.out).2).mono ?_
 intro e w7 he
 rcases M6.out.step (More.refl _) HK.out (good_freeP HH.out _) he with ⟨a',hE,rfl,hd',ht',_⟩ | ⟨x7,D7,F7,hE,rfl,M7,hq7,_,_⟩
 · exact FIND _ _ HF.1.2 (NEED.out a' w7 (R5.out.symm.trans (bindP_need hE)) hd' ht')
 have R7 := hQQ ((bindP_ok hE).symm.trans R5.out)
 have M7 := hQQ M7
 clear he hE
 refine hK _ _ (KC.out _ _ _ M7.out) ?_
 clear hK K
 replace HF := HF.put 59 (.int .i64 x7) (by decide) rfl
 generalize hB14_59 : Act.put _ _ _ = A at HF ⊢
 refine anyC_takeD (i:=14) (v:=.agg #[.int .i64 xa,.int .i64 (b2i xb),.int .i64 (b2i x5),.int .i64 x7]) (some 60) rfl rfl (by kernel_rfl) (by kernel_rfl) (by kernel_rfl) (fun c a w => FINQ c a _ _ w) (KC.out _ _ _ M7.out) (by exact (Or.inl ⟨rfl,fun W hW => by have h1 := (HF.getD 13 rfl); have h2 := (HF.getD 3 rfl); have h3 := (HF.getD 1 rfl); have h4 := (HF.getD 0 rfl); go_simp⟩)) ?_
 replace HF := HF.put 60 (.agg #[.int .i64 xa,.int .i64 (b2i xb),.int .i64 (b2i x5),.int .i64 x7]) (by decide) rfl
 generalize hB15_60 : Act.put _ _ _ = A at HF ⊢
 refine anyC_one (i:=15) (by kernel_rfl) rfl rfl ?_
 refine wp_store_row 52 _ _ rfl (w.heap.size + 2) _ (HF.get 18 rfl) (HF.get 0 rfl) 52 #[.int .i64 0,.int .i64 0,.int .i64 0,.int .i64 0] (KP.out _ _ _ M7.out).2.2 (by kernel_rfl) rfl (by simp [Value.oneCell']) ?_
 have TS := Turned.setRow (S:=fun b => b = w.heap.size + 2) (Turned.refl _ w7) (w.heap.size + 2) #[.int .i64 xa,.int .i64 (b2i xb),.int .i64 (b2i x5),.int .i64 x7] (fun _ => rfl)
 refine ⟨⟨(TS.block _ (lt_of_heap (KC.out _ _ _ M7.out).1) (by omega)).trans (KC.out _ _ _ M7.out).1,(TS.block _ (lt_of_heap (KC.out _ _ _ M7.out).2) (by omega)).trans (KC.out _ _ _ M7.out).2⟩,?_⟩
 exact anyC_done (by kernel_rfl) (FINE _ _ ⟨(HF.get 18 rfl),HF.1.2,(xa,b2i xb,b2i x5,x7),w7,D7,F7,rfl,R7.out.symm,M7.out⟩)
section
variable {pg st : Int} {n : Nat} (H : HdIn pg st n)
include H
theorem grab_keep (us k : Int) {G : Int → List Int} {ws : List Int} (P : PgW pg st G ws) (hn : ws.length = n) : ∃ G',PgW pg st G' (grabV us pg st k ws).2 := by
 by_cases hs : slotsC k = 0
 · rw [grab_none1 H us hs ws]; exact ⟨G,P⟩
 · by_cases h1 : plFirstV pg st k (slotsC k).toNat 1 ws = -1
   · by_cases h2 : findV pg st 1 1 ws = -1
     · rw [grab_none2 H us hs h1 h2]; exact ⟨G,P⟩
     · obtain ⟨G1,G2,w1,X,_,_,_,_,_,_,_,e,q⟩ := grab_new H us hs P hn h1 rfl h2
       rw [e]; exact ⟨G2,q⟩
   · obtain ⟨j,G1,G2,u,X,_,_,_,_,_,_,_,_,e,q⟩ := grab_old H us hs P hn rfl h1
     rw [e]; exact ⟨G2,q⟩
theorem back_keep (us a : Int) {G : Int → List Int} {ws : List Int} (P : PgW pg st G ws) (hn : ws.length = n) (ho : OkW ws) : ∃ G',PgW pg st G' (backV us pg st a ws).2 := by
 cases h : tkYes (takenV us pg st a ws) with
 | none => rw [back_no H h]; exact ⟨G,P⟩
 | some x =>
   obtain ⟨q,k,i⟩ := x
   obtain ⟨_,_,_,_,_,_,_,_,_,_,y1,y2⟩ := back_yes H us P hn ho h
   by_cases he : cntV pg st ws q + 1 = slotsC k
   · obtain ⟨G1,G2,u,X,_,e,z⟩ := y2 he
     rw [e]; exact ⟨G2,z⟩
   · obtain ⟨G1,G2,u,X,_,e,z⟩ := y1 he
     rw [e]; exact ⟨G2,z⟩
theorem gdone_keep (us kind k a : Int) {G : Int → List Int} {ws : List Int} (P : PgW pg st G ws) (hn : ws.length = n) (ho : OkW ws) : ∃ G',PgW pg st G' (gdoneV us pg st kind k a ws).2 := by
 unfold gdoneV
 split
 · exact grab_keep H us k P hn
 · split
   · exact back_keep H us a P hn ho
   · exact ⟨G,P⟩
theorem gdone_words (us kind k a : Int) {ws : List Int} (hn : ws.length = n) (ho : OkW ws) : OkW (gdoneV us pg st kind k a ws).2 ∧ (gdoneV us pg st kind k a ws).2.length = n := by
 obtain ⟨D,hD,ha,hi⟩ := flat_gdone H us kind k a ws [] hn ho (invD_nil _)
 have e0 : applyD ws [] = ws := rfl
 rw [e0] at hD ha
 have ha : applyD ws D = (gdoneV us pg st kind k a ws).2 := ha
 rw [← ha]
 exact ⟨okW_apG ho hi hn,by rw [applyD_len]; exact hn⟩
theorem pgw_zeros : PgW pg st (fun _ => []) (zeros n) := by
 have hz : ∀ i : Int,wAt (zeros n) i = 0 := fun i => by
   unfold wAt zeros
   simp only [List.getD,List.getElem?_replicate]
   split <;> rfl
 have hk : ∀ p,isPage pg p = true → kindV pg st (zeros n) p = 0 := fun p hp => by unfold kindV; rw [if_pos hp]; exact hz _
 refine ⟨ln_zeros H,⟨fun p hp => by rw [hk p hp]; omega,fun p hp _ => ⟨hz _,hz _⟩,fun p hp h => absurd (hk p hp) h,fun p hp h => ?_,fun a p ha => ⟨fun h => (by cases h),fun h => ?_⟩⟩⟩
 · rw [hk p hp] at h; omega
 · have := hk p h.1; have := h.2.1; omega
end
end Go.Proofs.YtmafllcmkhgidaaGreatDoor
