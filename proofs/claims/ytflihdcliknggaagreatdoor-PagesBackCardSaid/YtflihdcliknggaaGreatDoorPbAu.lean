/-
  The programs of pages over words.
-/
import Derived.Test.YtflihdcliknggaaGreatDoorPbAs
import Derived.Test.YtflihdcliknggaaGreatDoorPbAt
set_option maxRecDepth 100000
set_option maxHeartbeats 8000000
set_option linter.unusedVariables false
set_option linter.unusedSimpArgs false
set_option linter.unusedSectionVars false
namespace Go.Proofs.YtflihdcliknggaaGreatDoor
theorem okW_apG {n : Nat} {zs : List Int} {D : List KV} (hz : OkW zs) (h : InvD n D) (hn : zs.length = n) : OkW (applyD zs D) := by
 subst hn
 intro x hx
 obtain ⟨i,hi,rfl⟩ := List.getElem_of_mem hx
 have hl : i < zs.length := by rw [applyD_len] at hi; exact hi
 have h1 := word_all (zs:=zs) h (a:=(i : Int)) (by omega) (by omega)
 have h2 : wAt (applyD zs D) (i : Int) = (applyD zs D)[i] := by simp [wAt,List.getD,hi]
 rw [← h2]
 exact word_ok (okK_all hz) h.ok h1
theorem okW_at' {ws : List Int} (h : OkW ws) (a : Int) : W64 (wAt ws a) := by
 unfold wAt
 by_cases e : a.toNat < ws.length
 · rw [List.getD,List.getElem?_eq_getElem e]; exact h _ (List.getElem_mem e)
 · rw [List.getD,List.getElem?_eq_none (by omega)]; unfold W64; constructor <;> decide
theorem flat_bindW {α β : Type} {n : Nat} {p : Prg α} {f : α → Prg β} {g : List Int → α × List Int} {k : α → List Int → β × List Int} {Q : α → Prop} (h : Flat n p g) (hq : ∀ ws,ws.length = n → OkW ws → Q (g ws).1) (hf : ∀ x,Q x → Flat n (f x) (k x)) : Flat n (bindP p f) (fun ws => k (g ws).1 (g ws).2) := fun zs D hn hz hD => by
 obtain ⟨D1,e1,a1,i1⟩ := h zs D hn hz hD
 obtain ⟨D2,e2,a2,i2⟩ := hf (g (applyD zs D)).1 (hq _ (by rw [applyD_len]; exact hn) (okW_apG hz hD hn)) zs D1 hn hz i1
 refine ⟨D2,?_,?_,i2⟩
 · rw [bindP_ok e1,e2,a1]
 · rw [a2,a1]
def giver2V (pg st k x : Int) (ws : List Int) : Int × List Int :=
 if x = -1 then (if (takeV pg st (findV pg st 1 1 ws) 1 (k + 1) ws).1 then findV pg st 1 1 ws else -1,(takeV pg st (findV pg st 1 1 ws) 1 (k + 1) ws).2) else (x,ws)
def giverV (pg st k : Int) (ws : List Int) : Int × List Int := if slotsC k = 0 then (-1,ws) else giver2V pg st k (plFirstV pg st k (slotsC k).toNat 1 ws) ws
def pgPutV (pg st q k b : Int) (ws : List Int) : List Int := if openV k b = slotsC k then (dropV pg st q ws).2 else (ws.set (bA pg st q).toNat b).set (cA pg st q).toNat (openV k b)
def movesV (pg st q k was : Int) (ws : List Int) : List Int := (plLinkV pg st q k (cntV pg st (plUnlinkV pg st q k was ws).2 q) (plUnlinkV pg st q k was ws).2).2
def putMoveV (pg st q k was b : Int) (ws : List Int) : List Int := movesV pg st q k was (pgPutV pg st q k b ws)
def grab2V (us pg st k q : Int) (ws : List Int) : (Int × Bool) × List Int :=
 if q = -1 then ((0,false),ws) else if slFirstV (bitV pg st ws q) (slotsC k) = -1 then ((0,false),ws)
 else ((us + 32 * q + slFirstV (bitV pg st ws q) (slotsC k) * szV k,true),putMoveV pg st q k (cntV pg st ws q) (setV (bitV pg st ws q) (slFirstV (bitV pg st ws q) (slotsC k))) ws)
def grabV (us pg st k : Int) (ws : List Int) : (Int × Bool) × List Int := grab2V us pg st k (giverV pg st k ws).1 (giverV pg st k ws).2
def tkRestV (pg st q wd x : Int) (ws : List Int) : TkA :=
 if slotsC (IntKind.i64.wrap (x - 1)) = 0 then none else if wd % szV (IntKind.i64.wrap (x - 1)) ≠ 0 then none
 else some (q,IntKind.i64.wrap (x - 1),wd / szV (IntKind.i64.wrap (x - 1)),hasB (bitV pg st ws q) (wd / szV (IntKind.i64.wrap (x - 1))))
def takenV (us pg st a : Int) (ws : List Int) : TkA := if us ≤ a ∧ a < us + 32 * pg then tkRestV pg st ((a - us) / 32) ((a - us) % 32) (kindV pg st ws ((a - us) / 32)) ws else none
def backToV (pg st : Int) (x : Option (Int × Int × Int)) (ws : List Int) : Bool × List Int :=
 match x with
 | some (q,k,i) => (true,putMoveV pg st q k (cntV pg st ws q) (clearV (bitV pg st ws q) i) ws)
 | none => (false,ws)
def backV (us pg st a : Int) (ws : List Int) : Bool × List Int := backToV pg st (tkYes (takenV us pg st a ws)) ws
def lookRV : Option (Int × Int × Int) → Int × Bool
 | some (_,k,_) => (k,true)
 | none => (0,false)
def lookV (us pg st a : Int) (ws : List Int) : Int × Bool := lookRV (tkYes (takenV us pg st a ws))
def roomV (pg st k : Int) (ws : List Int) : Bool := plFirstV pg st k (slotsC k).toNat 1 ws != -1
def freeNV (pg st k : Int) : Nat → Int → Int → List Int → Int
 | 0,_,s,_ => s
 | m + 1,q,s,ws => if kindV pg st ws q = k + 1 then freeNV pg st k m (q + 1) (s + openV k (bitV pg st ws q)) ws else freeNV pg st k m (q + 1) s ws
def freeV (pg st k : Int) (ws : List Int) : Int := if slotsC k = 0 then 0 else freeNV pg st k pg.toNat 0 0 ws
section
variable {pg st : Int} {n : Nat} (H : HdIn pg st n)
include H
theorem page_c {q : Int} (hq : isPage pg q = true) : (0 ≤ cA pg st q ∧ cA pg st q < n ∧ W64 (cA pg st q)) ∧ 0 ≤ bA pg st q ∧ bA pg st q < n ∧ W64 (bA pg st q) := by
 obtain ⟨_,⟨b0,b1,b2⟩,c0,c1,c2⟩ := page_b H.toPgIn hq
 exact ⟨⟨by omega,b1,b2⟩,by omega,c1,c2⟩
theorem plFirst_b (k : Int) (m : Nat) (ws : List Int) : ∀ f,plFirstV pg st k m f ws = -1 ∨ isPage pg (plFirstV pg st k m f ws) = true := by
 induction m with
 | zero => intro f; exact .inl rfl
 | succ m ih =>
   intro f
   show (if _ then _ else _) = -1 ∨ isPage pg (if _ then _ else _) = true
   split
   · exact ih _
   · exact lead_b H _ _
theorem flat_giver2 {k : Int} (hk : 0 ≤ k ∧ k ≤ 4) (x : Int) : Flat n (if x = -1 then bindP (efindP pg st 1 1) (fun y => bindP (etakeP pg st y 1 (k + 1)) fun b => pureP (if b then y else -1)) else pureP x) (giver2V pg st k x) := by
 unfold giver2V
 exact flat_ite (fun _ => flat_bind (flat_find H.toPgIn 1 1) fun y => flat_bind (flat_take H.toPgIn y 1 (k + 1) (by unfold W64; omega) w64_1) fun b => flat_pure n _) (fun _ => flat_pure n x)
theorem flat_giver (k : Int) : Flat n (giverP pg st k) (giverV pg st k) := by
 unfold giverP giverV
 exact flat_ite (fun _ => flat_pure n _) (fun h => flat_bind (flat_plFirstN H k _ 1) fun x => flat_giver2 H (slots_cls h) x)
theorem take_page {y m k : Int} {ws : List Int} (h : (takeV pg st y m k ws).1 = true) : isPage pg y = true := by
 unfold takeV at h
 split at h
 · rename_i e
   simp at e
   have := (vacB_iff.1 e.2).1
   have := there_iff.1 this
   exact isPage_iff.2 ⟨by omega,by omega⟩
 · cases h
theorem giver_b (k : Int) (ws : List Int) : (giverV pg st k ws).1 = -1 ∨ isPage pg (giverV pg st k ws).1 = true := by
 unfold giverV
 split
 · exact .inl rfl
 · unfold giver2V
   split
   · show (if _ then _ else _) = -1 ∨ isPage pg (if _ then _ else _) = true
     split
     · rename_i e; exact .inr (take_page H e)
     · exact .inl rfl
   · exact plFirst_b H k _ ws 1
theorem flat_pgPut {q k b : Int} (hq : isPage pg q = true) (hb : W64 b) : Flat n (pgPutP pg st q k b) (fun ws => ((),pgPutV pg st q k b ws)) := by
 obtain ⟨⟨b0,b1,b2⟩,c0,c1,c2⟩ := page_c H hq
 unfold pgPutP
 refine flat_eq (flat_ite (fun _ => flat_bind (flat_drop H.toPgIn q) fun _ => flat_pure n ()) (fun _ => flat_bind (flat_write c0 c1 c2 hb) fun _ => flat_bind (flat_write b0 b1 b2 (x:=openV k b) (by have := cnt_b b k; unfold W64; omega)) fun _ => flat_pure n _)) (fun ws _ => ?_)
 unfold pgPutV
 split <;> rfl
theorem flat_moves {q : Int} (hq : isPage pg q = true) (k was : Int) : Flat n (movesP pg st q k was) (fun ws => ((),movesV pg st q k was ws)) := by
 obtain ⟨⟨b0,b1,b2⟩,_⟩ := page_c H hq
 exact flat_bind (flat_plUnlink H q k was) fun _ => flat_bind (flat_read b0 b1) fun f => flat_bind (flat_plLink H q k f) fun _ => flat_pure n ()
theorem flat_grab2 (us k : Int) {q : Int} (hq : q = -1 ∨ isPage pg q = true) : Flat n (if q = -1 then pureP (0,false) else bindP (readP (bA pg st q)) fun b =>
   if slFirstV b (slotsC k) = -1 then pureP (0,false) else bindP (readP (cA pg st q)) fun was =>
     bindP (pgPutP pg st q k (setV b (slFirstV b (slotsC k)))) fun _ => bindP (movesP pg st q k was) fun _ => pureP (us + 32 * q + slFirstV b (slotsC k) * szV k,true)) (grab2V us pg st k q) := by
 unfold grab2V
 refine flat_ite (fun _ => flat_pure n _) (fun h => ?_)
 have hq := hq.resolve_left h
 obtain ⟨⟨b0,b1,b2⟩,c0,c1,c2⟩ := page_c H hq
 refine flat_eq (flat_bindW (Q:=W64) (flat_read c0 c1) (fun ws _ ho => okW_at' ho _) fun b hb => flat_ite (fun _ => flat_pure n ((0 : Int),false)) fun _ => flat_bind (flat_read b0 b1) fun was => flat_bind (flat_pgPut H hq (set_w64 hb _)) fun _ => flat_bind (flat_moves H hq k was) fun _ => flat_pure n (us + 32 * q + slFirstV b (slotsC k) * szV k,true)) (fun ws _ => ?_)
 rfl
theorem flat_grab (us k : Int) : Flat n (grabP us pg st k) (grabV us pg st k) :=
 flat_bindQ (Q:=fun q => q = -1 ∨ isPage pg q = true) (flat_giver H k) (fun ws _ => giver_b H k ws) fun q hq => flat_grab2 H us k hq
theorem flat_tkRest {q : Int} (hq : isPage pg q = true) (wd x : Int) : Flat n (tkRest pg st q wd x) (fun ws => (tkRestV pg st q wd x ws,ws)) := by
 obtain ⟨_,c0,c1,c2⟩ := page_c H hq
 unfold tkRest
 refine flat_eq (flat_ite (fun _ => flat_pure n _) (fun _ => flat_ite (fun _ => flat_pure n _) (fun _ => flat_bind (flat_read c0 c1) fun b => flat_pure n _))) (fun ws _ => ?_)
 unfold tkRestV
 split
 · rfl
 · split <;> rfl
theorem flat_taken1 {q : Int} (hq : isPage pg q = true) (wd : Int) : Flat n (bindP (ekindP pg st q) fun x => tkRest pg st q wd x) (fun ws => (tkRestV pg st q wd (kindV pg st ws q) ws,ws)) :=
 flat_eq (flat_bind (flat_kind H.toPgIn q) fun x => flat_tkRest H hq wd x) (fun ws _ => rfl)
theorem flat_taken (us a : Int) : Flat n (takenP us pg st a) (fun ws => (takenV us pg st a ws,ws)) := by
 unfold takenP
 generalize hq : (a - us) / 32 = q
 generalize hw : (a - us) % 32 = wd
 refine flat_eq (flat_ite (fun h => flat_taken1 H (by rw [← hq]; exact (place_b h).1) wd) (fun _ => flat_pure n (none : TkA))) (fun ws _ => ?_)
 unfold takenV
 rw [hq,hw]
 split <;> rfl
theorem taken_b {us a : Int} {ws : List Int} {q k i : Int} {t : Bool} (h : takenV us pg st a ws = some (q,k,i,t)) : isPage pg q = true ∧ 0 ≤ k ∧ k ≤ 4 := by
 unfold takenV at h
 split at h
 · rename_i hin
   unfold tkRestV at h
   split at h
   · cases h
   · rename_i hz
     split at h
     · cases h
     · cases h
       have := slots_cls hz
       exact ⟨(place_b hin).1,this.1,this.2⟩
 · cases h
theorem flat_backRest {q : Int} (hq : isPage pg q = true) (k i : Int) : Flat n (backRest pg st q k i) (fun ws => (true,putMoveV pg st q k (cntV pg st ws q) (clearV (bitV pg st ws q) i) ws)) := by
 obtain ⟨⟨b0,b1,b2⟩,c0,c1,c2⟩ := page_c H hq
 refine flat_eq (flat_bind (flat_read b0 b1) fun was => flat_bindW (Q:=W64) (flat_read c0 c1) (fun ws _ ho => okW_at' ho _) fun b hb => flat_bind (flat_pgPut H hq (clear_w64 hb i)) fun _ => flat_bind (flat_moves H hq k was) fun _ => flat_pure n true) (fun ws _ => ?_)
 rfl
theorem flat_backTo (x : Option (Int × Int × Int)) (hx : ∀ q k i,x = some (q,k,i) → isPage pg q = true) : Flat n (backTo pg st x) (backToV pg st x) := by
 cases x with
 | none => exact flat_pure n _
 | some y =>
   obtain ⟨q,k,i⟩ := y
   exact flat_backRest H (hx q k i rfl) k i
theorem flat_back (us a : Int) : Flat n (backP us pg st a) (backV us pg st a) :=
 flat_bindQ (k:=fun x ws => backToV pg st (tkYes x) ws) (Q:=fun x : TkA => ∀ q k i t,x = some (q,k,i,t) → isPage pg q = true) (flat_taken H us a) (fun ws _ q k i t e => (taken_b H e).1) fun x hx => flat_backTo H _ fun q k i e => hx q k i true (tkYes_some e)
theorem flat_lookR (x : Option (Int × Int × Int)) : Flat n (lookRest x) (fun ws => (lookRV x,ws)) := by
 cases x with
 | none => exact flat_pure n _
 | some y => exact flat_pure n _
theorem flat_look (us a : Int) : Flat n (lookP us pg st a) (fun ws => (lookV us pg st a ws,ws)) :=
 flat_bind (k:=fun x ws => (lookRV (tkYes x),ws)) (flat_taken H us a) fun x => flat_lookR H _
theorem flat_room (k : Int) : Flat n (roomP pg st k) (fun ws => (roomV pg st k ws,ws)) := flat_bind (flat_plFirstN H k _ 1) fun x => flat_pure n _
theorem flat_freeN (k : Int) (m : Nat) : ∀ (q s : Int),0 ≤ q → q + m ≤ pg → Flat n (freeN pg st k m q s) (fun ws => (freeNV pg st k m q s ws,ws)) := by
 induction m with
 | zero => intro q s _ _; exact flat_pure n s
 | succ m ih =>
   intro q s h0 h1
   have hq : isPage pg q = true := isPage_iff.2 ⟨h0,by omega⟩
   obtain ⟨_,c0,c1,c2⟩ := page_c H hq
   refine flat_eq (flat_bind (flat_kind H.toPgIn q) fun x => flat_ite (fun _ => flat_bind (flat_read c0 c1) fun b => ih (q + 1) (s + openV k b) (by omega) (by omega)) (fun _ => ih (q + 1) s (by omega) (by omega))) (fun ws _ => ?_)
   rw [show freeNV pg st k (m + 1) q s ws = if kindV pg st ws q = k + 1 then freeNV pg st k m (q + 1) (s + openV k (bitV pg st ws q)) ws else freeNV pg st k m (q + 1) s ws from rfl]
   show (if kindV pg st ws q = k + 1 then _ else _) = _
   split <;> rfl
theorem flat_free' (k : Int) : Flat n (freeP pg st k) (fun ws => (freeV pg st k ws,ws)) := by
 have := H.pg1
 unfold freeP
 refine flat_eq (flat_ite (fun _ => flat_pure n _) (fun _ => flat_freeN H k pg.toNat 0 0 (by omega) (by omega))) (fun ws _ => ?_)
 unfold freeV
 split <;> rfl
end
theorem bit_zero (j : Nat) : bitB 0 j = false := by simp [bitB,bvOf]
theorem endN_slots {k : Int} : ((endN (slotsC k) : Nat) : Int) = slotsC k := by
 have := slots_in k
 unfold endN; omega
theorem open_zero (k : Int) : openV k 0 = slotsC k := by
 have : onN 0 (endN (slotsC k)) = [] := List.filter_eq_nil_iff.2 (fun j _ => by rw [bit_zero]; simp)
 unfold openV slCountV
 rw [this]; simp
theorem open_set {b k : Int} {j : Nat} (hj : (j : Int) < slotsC k) (hb : bitB b j = false) : openV k (setV b (j : Int)) = openV k b - 1 := by
 have hs := slots_in k
 have he := endN_slots (k:=k)
 have := on_set (w:=b) (i:=(j : Int)) (inR_nat (by omega)) (by simpa using hb) (endN (slotsC k)) (endN_le _)
 rw [if_pos (by omega)] at this
 unfold openV slCountV
 omega
theorem first_open {b k : Int} (h : 1 ≤ openV k b) : ∃ j : Nat,slFirstV b (slotsC k) = (j : Int) ∧ (j : Int) < slotsC k ∧ bitB b j = false ∧ openV k (setV b (j : Int)) = openV k b - 1 := by
 have he := endN_slots (k:=k)
 rcases offN_ways b (endN (slotsC k)) with ⟨_,ha⟩ | ⟨j,hj,e,hb,_⟩
 · have := on_all ha
   unfold openV slCountV at h
   omega
 · exact ⟨j,e,by omega,hb,open_set (by omega) hb⟩
theorem first_zero {k : Int} (h : slotsC k ≠ 0) : slFirstV 0 (slotsC k) = 0 := by
 have hs := slots_in k
 have he := endN_slots (k:=k)
 exact offN_some (w:=0) (k:=endN (slotsC k)) (j:=0) (by omega) (bit_zero 0) (fun i hi => by omega)
theorem open_clear {b k i : Int} (hw : W64 b) (h0 : 0 ≤ i) (h1 : i < slotsC k) (h : hasB b i = true) : openV k (clearV b i) = openV k b + 1 := by
 have hs := slots_in k
 have hi : inR i = true := (inR_iff i).2 ⟨h0,by omega⟩
 obtain ⟨j,rfl⟩ : ∃ j : Nat,i = (j : Int) := ⟨i.toNat,by omega⟩
 have hb : bitB (clearV b (j : Int)) j = false := by
   have := has_clear (w:=b) hi
   unfold hasB at this
   rw [hi] at this
   simpa using this
 have e := open_set (b:=clearV b (j : Int)) (k:=k) h1 hb
 rw [set_clear hw.1 hw.2 hi h] at e
 omega
def NoL (pg st i : Int) : Prop := ¬ isHd pg st i ∧ ∀ p,isPage pg p = true → i ≠ nA pg st p ∧ i ≠ vA pg st p
section
variable {pg st : Int} {n : Nat} (H : HdIn pg st n)
include H
theorem noL_k {q : Int} (h : isPage pg q = true) : NoL pg st (kA pg st q) := by
 have := isPage_iff.1 h
 refine ⟨fun z => ?_,fun p hp => ?_⟩
 · unfold isHd headsV kA at z; omega
 · have := isPage_iff.1 hp; unfold kA nA vA; omega
theorem noL_c {q : Int} (h : isPage pg q = true) : NoL pg st (cA pg st q) := by
 have := isPage_iff.1 h
 refine ⟨fun z => ?_,fun p hp => ?_⟩
 · unfold isHd headsV cA at z; omega
 · have := isPage_iff.1 hp; unfold cA nA vA; omega
theorem noL_b {q : Int} (h : isPage pg q = true) : NoL pg st (bA pg st q) := by
 have := isPage_iff.1 h
 refine ⟨fun z => ?_,fun p hp => ?_⟩
 · unfold isHd headsV bA at z; omega
 · have := isPage_iff.1 hp; unfold bA nA vA; omega
theorem noL_t {j : Int} (h : isChunk pg j = true) : NoL pg st (tblV pg st j) := by
 have := isChunk_iff.1 h
 have h1 := H.pg1
 rw [tbl_in h]
 refine ⟨fun z => ?_,fun p hp => ?_⟩
 · unfold isHd headsV at z; omega
 · have := isPage_iff.1 hp; unfold nA vA; omega
theorem LOff.kind {a b : List Int} (o : LOff pg st a b) (p : Int) : kindV pg st b p = kindV pg st a p := by
 cases h : isPage pg p with
 | false => rw [kind_out h,kind_out h]
 | true =>
   have h0 := (page_b H.toPgIn h).1.1
   rw [kind_in h,kind_in h,o.off _ (by omega) (noL_k H h).1 (noL_k H h).2]
theorem LOff.cnt {a b : List Int} (o : LOff pg st a b) {p : Int} (h : isPage pg p = true) : cntV pg st b p = cntV pg st a p :=
 o.off _ (page_c H h).1.1 (noL_c H h).1 (noL_c H h).2
theorem LOff.bit {a b : List Int} (o : LOff pg st a b) {p : Int} (h : isPage pg p = true) : bitV pg st b p = bitV pg st a p :=
 o.off _ (page_c H h).2.1 (noL_b H h).1 (noL_b H h).2
theorem LOff.map {a b : List Int} (o : LOff pg st a b) (j : Int) : mappedV pg st b j = mappedV pg st a j := by
 unfold mappedV
 cases h : isChunk pg j with
 | false => rfl
 | true =>
   have h0 := (tbl_b H.toTblIn h).1
   rw [o.off _ (by omega) (noL_t H h).1 (noL_t H h).2]
theorem Ln.same {G : Int → List Int} {a b : List Int} (L : Ln pg st G a) (h : ∀ i,0 ≤ i → ¬ NoL pg st i → wAt b i = wAt a i) : Ln pg st G b := by
 have hh : ∀ i,isHd pg st i → wAt b i = wAt a i := fun i hi => h i (by have := (hd_b H hi).1; omega) (fun z => z.1 hi)
 have hn : ∀ p,isPage pg p = true → wAt b (nA pg st p) = wAt a (nA pg st p) ∧ wAt b (vA pg st p) = wAt a (vA pg st p) := fun p hp =>
   ⟨h _ (by have := (nv_b H hp).1.1; omega) (fun z => (z.2 p hp).1 rfl),h _ (by have := (nv_b H hp).2.1; omega) (fun z => (z.2 p hp).2 rfl)⟩
 refine ⟨fun i hi => by rw [hh i hi]; exact L.head i hi,L.page,L.nodup,L.apart,fun i p hi hp => ?_,fun i p hi hp => ?_,fun p hp hf => ?_⟩
 · rw [(hn p (L.page i hi p hp)).1]; exact L.next i p hi hp
 · rw [(hn p (L.page i hi p hp)).2]; exact L.prev i p hi hp
 · rw [(hn p hp).1,(hn p hp).2]; exact L.free p hp hf
structure Mod (pg st : Int) (n : Nat) (q f' : Int) (T : List Int → List Int) : Prop where
 len : ∀ a,a.length = n → (T a).length = n
 off : ∀ a b,a.length = n → b.length = n → LOff pg st a b → LOff pg st (T a) (T b)
 no : ∀ a,a.length = n → ∀ i,0 ≤ i → ¬ NoL pg st i → wAt (T a) i = wAt a i
 cnt : ∀ a,a.length = n → cntV pg st (T a) q = f'
def setsW (pg st q b f : Int) (ws : List Int) : List Int := (ws.set (bA pg st q).toNat b).set (cA pg st q).toNat f
theorem sets_at {q : Int} (h : isPage pg q = true) (b f : Int) {ws : List Int} (hn : ws.length = n) {i : Int} (hi : 0 ≤ i) : wAt (setsW pg st q b f ws) i = if i = cA pg st q then f else if i = bA pg st q then b else wAt ws i := by
 obtain ⟨⟨b0,b1,_⟩,c0,c1,_⟩ := page_c H h
 unfold setsW
 rw [wAt_set b0 hi (by simp [hn]; exact b1),wAt_set c0 hi (by rw [hn]; exact c1)]
theorem mod_sets {q : Int} (h : isPage pg q = true) (b f : Int) : Mod pg st n q f (setsW pg st q b f) := by
 refine ⟨fun a e => by simp [setsW,e],fun a a' e e' o => ⟨by simp [setsW,e,e'],fun i h0 h1 h2 => ?_⟩,fun a e i h0 h1 => ?_,fun a e => ?_⟩
 · rw [sets_at H h b f e' h0,sets_at H h b f e h0,o.off i h0 h1 h2]
 · have k1 : i ≠ cA pg st q := fun z => h1 (by rw [z]; exact noL_c H h)
   have k2 : i ≠ bA pg st q := fun z => h1 (by rw [z]; exact noL_b H h)
   rw [sets_at H h b f e h0,if_neg k1,if_neg k2]
 · show wAt (setsW pg st q b f a) (cA pg st q) = f
   rw [sets_at H h b f e (page_c H h).1.1,if_pos rfl]
theorem mod_put3 {q : Int} (h : isPage pg q = true) (k x : Int) : Mod pg st n q x (put3V pg st q k x) := by
 refine ⟨fun a e => by rw [put3_len H.toPgIn]; exact e,fun a a' e e' o => ⟨by rw [put3_len H.toPgIn,put3_len H.toPgIn,e,e'],fun i h0 h1 h2 => ?_⟩,fun a e i h0 h1 => ?_,fun a e => ?_⟩
 · rw [put3_at H.toPgIn h k x e' h0,put3_at H.toPgIn h k x e h0,o.off i h0 h1 h2]
 · have k1 : i ≠ cA pg st q := fun z => h1 (by rw [z]; exact noL_c H h)
   have k2 : i ≠ bA pg st q := fun z => h1 (by rw [z]; exact noL_b H h)
   have k3 : i ≠ kA pg st q := fun z => h1 (by rw [z]; exact noL_k H h)
   rw [put3_at H.toPgIn h k x e h0,if_neg k2,if_neg k1,if_neg k3]
 · rw [cnt_put3 H.toPgIn h k x e h,if_pos rfl]
def unlG (pg st : Int) (G : Int → List Int) (k f : Int) (s t : List Int) : Int → List Int := if headV pg st k f = 0 then G else updG G (headV pg st k f) (s ++ t)
def lnkG (pg st : Int) (G : Int → List Int) (q k f : Int) : Int → List Int := if headV pg st k f = 0 then G else updG G (headV pg st k f) (q :: G (headV pg st k f))
theorem lnk_ln {q k f : Int} (hq : isPage pg q = true) {G : Int → List Int} {ws : List Int} (L : Ln pg st G ws) (hn : ws.length = n) (hf : ∀ a,isHd pg st a → q ∉ G a) :
   Ln pg st (lnkG pg st G q k f) (plLinkV pg st q k f ws).2 ∧ LOff pg st ws (plLinkV pg st q k f ws).2 := by
 unfold lnkG
 by_cases hz : headV pg st k f = 0
 · have e : plLinkV pg st q k f ws = (false,ws) := by unfold plLinkV; exact if_neg (fun z => z.1 hz)
   rw [if_pos hz,e]
   exact ⟨L,LOff.refl _ _ _⟩
 · rw [if_neg hz]
   exact link_ln H L hn hz hq hf
theorem unl_ln {q k f : Int} {G : Int → List Int} {s t : List Int} (hin : headV pg st k f ≠ 0 → G (headV pg st k f) = s ++ q :: t ∧ q ∉ s) {ws : List Int} (L : Ln pg st G ws) (hn : ws.length = n) :
   Ln pg st (unlG pg st G k f s t) (plUnlinkV pg st q k f ws).2 ∧ LOff pg st ws (plUnlinkV pg st q k f ws).2 := by
 unfold unlG
 by_cases hz : headV pg st k f = 0
 · rw [if_pos hz,unlink_no H L (fun _ z => absurd hz z)]
   exact ⟨L,LOff.refl _ _ _⟩
 · rw [if_neg hz]
   obtain ⟨h1,h2⟩ := hin hz
   exact (unlink_ln H L hn hz h1 h2).2
theorem moved {q k f f' : Int} {T : List Int → List Int} (M : Mod pg st n q f' T) (hq : isPage pg q = true) {G : Int → List Int} {ws : List Int} (L : Ln pg st G ws) (hn : ws.length = n)
   (hin : ∀ a,isHd pg st a → (q ∈ G a ↔ headV pg st k f = a)) :
   ∃ G1 G2,Ln pg st G1 (plUnlinkV pg st q k f ws).2 ∧ LOff pg st ws (plUnlinkV pg st q k f ws).2 ∧ (plUnlinkV pg st q k f ws).2.length = n ∧ (∀ a,isHd pg st a → q ∉ G1 a) ∧
     Ln pg st G2 (movesV pg st q k f (T ws)) ∧ LOff pg st (T ws) (movesV pg st q k f (T ws)) ∧
     (plLinkV pg st q k f' (T (plUnlinkV pg st q k f ws).2)).2 = movesV pg st q k f (T ws) ∧
     (∀ a p,isHd pg st a → p ≠ q → (p ∈ G2 a ↔ p ∈ G a)) ∧ ∀ a,isHd pg st a → (q ∈ G2 a ↔ headV pg st k f' = a) := by
 obtain ⟨s,t,hst⟩ : ∃ s t,headV pg st k f ≠ 0 → G (headV pg st k f) = s ++ q :: t ∧ q ∉ s := by
   by_cases hz : headV pg st k f = 0
   · exact ⟨[],[],fun z => absurd hz z⟩
   · obtain ⟨s,t,h1,h2⟩ := split_mem ((hin _ (head_hd hz).1).2 rfl)
     exact ⟨s,t,fun _ => ⟨h1,h2⟩⟩
 have m1 : ∀ a,isHd pg st a → q ∉ unlG pg st G k f s t a := fun a ha hm => by
   unfold unlG at hm
   by_cases hz : headV pg st k f = 0
   · rw [if_pos hz] at hm
     have := (hin a ha).1 hm
     rw [hz] at this
     have := (hd_b H ha).1
     omega
   · rw [if_neg hz] at hm
     obtain ⟨h1,h2⟩ := hst hz
     by_cases e : a = headV pg st k f
     · subst e
       rw [updG_at] at hm
       have nd := L.nodup _ (head_hd hz).1
       rw [h1] at nd
       rcases List.mem_append.1 hm with z | z
       · exact h2 z
       · exact (List.nodup_cons.1 (List.nodup_append.1 nd).2.1).1 z
     · rw [updG_ne _ _ _ e] at hm
       exact e ((hin a ha).1 hm).symm
 have m2 : ∀ a p,isHd pg st a → p ≠ q → (p ∈ unlG pg st G k f s t a ↔ p ∈ G a) := fun a p ha hp => by
   unfold unlG
   by_cases hz : headV pg st k f = 0
   · rw [if_pos hz]
   · rw [if_neg hz]
     obtain ⟨h1,h2⟩ := hst hz
     by_cases e : a = headV pg st k f
     · subst e
       rw [updG_at,h1]
       simp [hp]
     · rw [updG_ne _ _ _ e]
 obtain ⟨L1,o1⟩ := unl_ln H hst L hn
 have hB : (T ws).length = n := M.len _ hn
 have LB : Ln pg st G (T ws) := L.same H (M.no ws hn)
 obtain ⟨L2,o2⟩ := unl_ln H hst LB hB
 have n1 : (plUnlinkV pg st q k f ws).2.length = n := o1.len.trans hn
 have n2 : (plUnlinkV pg st q k f (T ws)).2.length = n := o2.len.trans hB
 have ec : cntV pg st (plUnlinkV pg st q k f (T ws)).2 q = f' := by rw [o2.cnt H hq,M.cnt ws hn]
 have em : movesV pg st q k f (T ws) = (plLinkV pg st q k f' (plUnlinkV pg st q k f (T ws)).2).2 := by unfold movesV; rw [ec]
 obtain ⟨L3,o3⟩ := lnk_ln H (k:=k) (f:=f') hq L2 n2 m1
 have LT : Ln pg st (unlG pg st G k f s t) (T (plUnlinkV pg st q k f ws).2) := L1.same H (M.no _ n1)
 obtain ⟨L4,o4⟩ := lnk_ln H (k:=k) (f:=f') hq LT (M.len _ n1) m1
 have oB := o2.trans o3
 have oY := (M.off _ _ hn n1 o1).trans o4
 refine ⟨_,lnkG pg st (unlG pg st G k f s t) q k f',L1,o1,n1,m1,by rw [em]; exact L3,by rw [em]; exact oB,?_,fun a p ha hp => ?_,fun a ha => ?_⟩
 · rw [em]
   exact Ln.uniq L3 L4 (oB.symm.trans oY)
 · rw [← m2 a p ha hp]
   unfold lnkG
   by_cases hz : headV pg st k f' = 0
   · rw [if_pos hz]
   · rw [if_neg hz]
     by_cases e : a = headV pg st k f'
     · subst e; rw [updG_at]; simp [hp]
     · rw [updG_ne _ _ _ e]
 · unfold lnkG
   by_cases hz : headV pg st k f' = 0
   · rw [if_pos hz]
     exact ⟨fun z => absurd z (m1 a ha),fun z => by have := (hd_b H ha).1; omega⟩
   · rw [if_neg hz]
     by_cases e : a = headV pg st k f'
     · subst e; rw [updG_at]; simp
     · rw [updG_ne _ _ _ e]
       exact ⟨fun z => absurd z (m1 a ha),fun z => absurd z.symm e⟩
end
structure PgF (pg st : Int) (G : Int → List Int) (ws : List Int) : Prop where
 kd : ∀ p,isPage pg p = true → 0 ≤ kindV pg st ws p ∧ kindV pg st ws p ≤ 5
 free : ∀ p,isPage pg p = true → kindV pg st ws p = 0 → cntV pg st ws p = 0 ∧ bitV pg st ws p = 0
 map : ∀ p,isPage pg p = true → kindV pg st ws p ≠ 0 → mappedV pg st ws (p / 4) = true
 cnt : ∀ p,isPage pg p = true → 1 ≤ kindV pg st ws p → cntV pg st ws p = openV (kindV pg st ws p - 1) (bitV pg st ws p) ∧ cntV pg st ws p < slotsC (kindV pg st ws p - 1)
 mem : ∀ a p,isHd pg st a → (p ∈ G a ↔ isPage pg p = true ∧ 1 ≤ kindV pg st ws p ∧ headV pg st (kindV pg st ws p - 1) (cntV pg st ws p) = a)
structure PgW (pg st : Int) (G : Int → List Int) (ws : List Int) : Prop where
 ln : Ln pg st G ws
 f : PgF pg st G ws
section
variable {pg st : Int} {n : Nat} (H : HdIn pg st n)
include H
theorem PgF.off {G : Int → List Int} {a b : List Int} (F : PgF pg st G a) (o : LOff pg st a b) : PgF pg st G b := by
 refine ⟨fun p hp => by rw [o.kind H]; exact F.kd p hp,fun p hp => by rw [o.kind H,o.cnt H hp,o.bit H hp]; exact F.free p hp,fun p hp => by rw [o.kind H,o.map H]; exact F.map p hp,fun p hp => by rw [o.kind H,o.cnt H hp,o.bit H hp]; exact F.cnt p hp,fun x p hx => ?_⟩
 rw [F.mem x p hx]
 constructor
 · rintro ⟨h1,h2,h3⟩
   exact ⟨h1,by rw [o.kind H]; exact h2,by rw [o.kind H,o.cnt H h1]; exact h3⟩
 · rintro ⟨h1,h2,h3⟩
   rw [o.kind H] at h2
   rw [o.kind H,o.cnt H h1] at h3
   exact ⟨h1,h2,h3⟩
theorem PgF.turn {G G2 : Int → List Int} {a b : List Int} (F : PgF pg st G a) {q : Int} (hq : isPage pg q = true) {k f c : Int}
   (hk : ∀ p,isPage pg p = true → kindV pg st b p = if p = q then k else kindV pg st a p) (hc : ∀ p,isPage pg p = true → cntV pg st b p = if p = q then f else cntV pg st a p) (hb : ∀ p,isPage pg p = true → bitV pg st b p = if p = q then c else bitV pg st a p)
   (hm : ∀ p,isPage pg p = true → p ≠ q → mappedV pg st a (p / 4) = true → mappedV pg st b (p / 4) = true) (hmq : k ≠ 0 → mappedV pg st b (q / 4) = true)
   (k0 : 0 ≤ k ∧ k ≤ 5) (kf : k = 0 → f = 0 ∧ c = 0) (kc : 1 ≤ k → f = openV (k - 1) c ∧ f < slotsC (k - 1))
   (g1 : ∀ x p,isHd pg st x → p ≠ q → (p ∈ G2 x ↔ p ∈ G x)) (g2 : ∀ x,isHd pg st x → (q ∈ G2 x ↔ 1 ≤ k ∧ headV pg st (k - 1) f = x)) : PgF pg st G2 b := by
 refine ⟨fun p hp => ?_,fun p hp => ?_,fun p hp => ?_,fun p hp => ?_,fun x p hx => ?_⟩
 · rw [hk p hp]; split
   · exact k0
   · exact F.kd p hp
 · rw [hk p hp,hc p hp,hb p hp]; split
   · exact kf
   · exact F.free p hp
 · rw [hk p hp]; split
   · rename_i e; rw [e]; exact hmq
   · rename_i e; exact fun z => hm p hp e (F.map p hp z)
 · rw [hk p hp,hc p hp,hb p hp]; split
   · exact kc
   · exact F.cnt p hp
 · by_cases e : p = q
   · subst e
     rw [g2 x hx,hk p hq,hc p hq,if_pos rfl,if_pos rfl]
     exact ⟨fun z => ⟨hq,z⟩,fun z => z.2⟩
   · rw [g1 x p hx e,F.mem x p hx]
     constructor
     · rintro ⟨h1,h2⟩
       rw [hk p h1,hc p h1,if_neg e,if_neg e]; exact ⟨h1,h2⟩
     · rintro ⟨h1,h2⟩
       rw [hk p h1,hc p h1,if_neg e,if_neg e] at h2; exact ⟨h1,h2⟩
theorem sets_kind {q : Int} (h : isPage pg q = true) (b f : Int) {ws : List Int} (hn : ws.length = n) (p : Int) : kindV pg st (setsW pg st q b f ws) p = kindV pg st ws p := by
 cases hp : isPage pg p with
 | false => rw [kind_out hp,kind_out hp]
 | true =>
   have h0 := (page_b H.toPgIn hp).1.1
   have := isPage_iff.1 h; have := isPage_iff.1 hp
   rw [kind_in hp,kind_in hp,sets_at H h b f hn (by omega),if_neg (by unfold kA cA; omega),if_neg (by unfold kA bA; omega)]
theorem sets_cnt {q : Int} (h : isPage pg q = true) (b f : Int) {ws : List Int} (hn : ws.length = n) {p : Int} (hp : isPage pg p = true) : cntV pg st (setsW pg st q b f ws) p = if p = q then f else cntV pg st ws p := by
 have := isPage_iff.1 h; have := isPage_iff.1 hp
 unfold cntV
 rw [sets_at H h b f hn (page_c H hp).1.1]
 by_cases e : p = q
 · rw [if_pos e,if_pos (by rw [e])]
 · rw [if_neg e,if_neg (by unfold cA; omega),if_neg (by unfold cA bA; omega)]
theorem sets_bit {q : Int} (h : isPage pg q = true) (b f : Int) {ws : List Int} (hn : ws.length = n) {p : Int} (hp : isPage pg p = true) : bitV pg st (setsW pg st q b f ws) p = if p = q then b else bitV pg st ws p := by
 have := isPage_iff.1 h; have := isPage_iff.1 hp
 unfold bitV
 rw [sets_at H h b f hn (page_c H hp).2.1,if_neg (by unfold cA bA; omega)]
 by_cases e : p = q
 · rw [if_pos e,if_pos (by rw [e])]
 · rw [if_neg e,if_neg (by unfold bA; omega)]
theorem sets_map {q : Int} (h : isPage pg q = true) (b f : Int) {ws : List Int} (hn : ws.length = n) (j : Int) : mappedV pg st (setsW pg st q b f ws) j = mappedV pg st ws j := by
 unfold mappedV
 cases hj : isChunk pg j with
 | false => rfl
 | true =>
   have h0 := (tbl_b H.toTblIn hj).1
   obtain ⟨t0,t1,t2⟩ := tbl_page H.toPgIn hj h
   rw [sets_at H h b f hn (by omega),if_neg t1,if_neg t2]
theorem fst_at {G : Int → List Int} {ws : List Int} (L : Ln pg st G ws) {k f : Int} (h0 : headV pg st k f ≠ 0) : plLeadV pg (headV pg st k f) ws = fst1 (G (headV pg st k f)) := by
 have ha := (head_hd h0).1
 have := (hd_b H ha).1
 exact lead_hd H (by omega) (L.head _ ha) (L.page _ ha)
theorem first_is {G : Int → List Int} {ws : List Int} (L : Ln pg st G ws) {k : Int} (hk : 0 ≤ k ∧ k ≤ 4) (m : Nat) : ∀ f : Int,1 ≤ f → f + m = slotsC k + 1 →
   (plFirstV pg st k m f ws = -1 ∧ ∀ x,f ≤ x → x ≤ slotsC k → G (headV pg st k x) = []) ∨
   ∃ x t,f ≤ x ∧ x ≤ slotsC k ∧ headV pg st k x ≠ 0 ∧ G (headV pg st k x) = plFirstV pg st k m f ws :: t ∧ ∀ y,f ≤ y → y < x → G (headV pg st k y) = [] := by
 have hs := slotsC_eq hk
 have hh : ∀ x,1 ≤ x → x ≤ slotsC k → headV pg st k x ≠ 0 := fun x h1 h2 => by
   have h3 := H.st1; have h4 := H.pg1
   unfold headV; rw [if_pos ⟨hk.1,hk.2,h1,by omega⟩]
   unfold headsV tableV chunksV aheadV
   (repeat' split) <;> omega
 induction m with
 | zero => intro f h1 h2; exact .inl ⟨rfl,fun x h3 h4 => by omega⟩
 | succ m ih =>
   intro f h1 h2
   have hz := hh f h1 (by omega)
   have hl := fst_at H L hz
   show (((if plLeadV pg (headV pg st k f) ws = -1 then plFirstV pg st k m (f + 1) ws else plLeadV pg (headV pg st k f) ws) = -1) ∧ _) ∨ ∃ x t,f ≤ x ∧ x ≤ slotsC k ∧ headV pg st k x ≠ 0 ∧ G (headV pg st k x) = (if plLeadV pg (headV pg st k f) ws = -1 then plFirstV pg st k m (f + 1) ws else plLeadV pg (headV pg st k f) ws) :: t ∧ _
   rw [hl]
   cases hG : G (headV pg st k f) with
   | nil =>
     rw [show fst1 ([] : List Int) = -1 from rfl,if_pos rfl]
     rcases ih (f + 1) (by omega) (by omega) with ⟨h3,h4⟩ | ⟨x,t,h3,h4,h5,h6,h7⟩
     · refine .inl ⟨h3,fun x h5 h6 => ?_⟩
       by_cases e : x = f
       · rw [e]; exact hG
       · exact h4 x (by omega) h6
     · refine .inr ⟨x,t,by omega,h4,h5,h6,fun y h8 h9 => ?_⟩
       by_cases e : y = f
       · rw [e]; exact hG
       · exact h7 y (by omega) h9
   | cons p t =>
     have hp := isPage_iff.1 (L.page _ (head_hd hz).1 p (by rw [hG]; simp))
     rw [show fst1 (p :: t) = p from rfl,if_neg (by omega)]
     exact .inr ⟨f,t,Int.le_refl _,by omega,hz,hG,fun y h8 h9 => by omega⟩
theorem find_one (ws : List Int) : (findV pg st 1 1 ws = -1 ∧ ∀ p,isPage pg p = true → kindV pg st ws p ≠ 0) ∨ (isPage pg (findV pg st 1 1 ws) = true ∧ kindV pg st ws (findV pg st 1 1 ws) = 0) := by
 have h1 := H.pg1
 have key : ∀ f : Int → Bool,(leastV f pg 1 1 = -1 ∧ ∀ p,isPage pg p = true → f p = false) ∨ (isPage pg (leastV f pg 1 1) = true ∧ f (leastV f pg 1 1) = true) := fun f => by
   rcases seek_specR (f:=f) (pg:=pg) (m:=1) (step:=1) (by omega) (by omega) (pg.toNat + 1) 0 0 rfl (by omega) (by omega) with ⟨e,hn⟩ | ⟨k,e,h0,hh,_⟩
   · refine .inl ⟨e,fun p hp => ?_⟩
     have hp := isPage_iff.1 hp
     cases hf : f p with
     | false => rfl
     | true =>
       refine absurd ?_ (hn p (by omega))
       rw [Int.mul_one]
       exact ⟨by omega,fun i i0 i1 => by rw [show i = p by omega]; exact hf⟩
   · rw [Int.mul_one] at e hh h0
     have e : leastV f pg 1 1 = k := e
     rw [e]
     exact .inr ⟨isPage_iff.2 ⟨h0,by have := hh.1; omega⟩,hh.2 k (by omega) (by omega)⟩
 unfold findV
 rw [if_pos ⟨by omega,by omega⟩]
 rcases key (openB pg st ws) with ⟨e,hn⟩ | ⟨e,hf⟩
 · rw [if_pos e]
   rcases key (freeB pg st ws) with ⟨e2,hn2⟩ | ⟨e2,hf2⟩
   · refine .inl ⟨e2,fun p hp => ?_⟩
     have := hn2 p hp
     simpa [freeB] using this
   · refine .inr ⟨e2,?_⟩
     simpa [freeB] using hf2
 · have := isPage_iff.1 e
   rw [if_neg (by omega)]
   refine .inr ⟨e,?_⟩
   simp [openB] at hf
   exact hf.2
theorem take_one {y k : Int} (hk : 0 ≤ k ∧ k ≤ 4) {ws : List Int} (hn : ws.length = n) (hy : isPage pg y = true) (h0 : kindV pg st ws y = 0) : (takeV pg st y 1 (k + 1) ws).1 = true ∧ Took pg st y 1 (k + 1) ws (takeV pg st y 1 (k + 1) ws).2 := by
 have hp := isPage_iff.1 hy
 have ht : thereB pg y 1 = true := there_iff.2 ⟨hp.1,by omega,by omega⟩
 have hv : vacB pg st y 1 ws = true := vacB_iff.2 ⟨ht,fun i i0 i1 => by rw [show i = y by omega]; exact h0⟩
 have hf : fitB (k + 1) 1 = true := fit_iff.2 (.inr ⟨by omega,by omega,rfl⟩)
 have T := take_took H.toPgIn (p:=y) (m:=1) (k:=k + 1) hn ht
 unfold takeV
 rw [hf,hv]
 exact ⟨rfl,T⟩
theorem took_no {y m k : Int} {a b : List Int} (T : Took pg st y m k a b) : ∀ i,0 ≤ i → ¬ NoL pg st i → wAt b i = wAt a i := fun i h0 h1 =>
 T.off i h0 (fun p hp => ⟨fun z => h1 (by rw [z]; exact noL_k H hp),fun z => h1 (by rw [z]; exact noL_c H hp),fun z => h1 (by rw [z]; exact noL_b H hp)⟩) (fun j hj z => h1 (by rw [z]; exact noL_t H hj))
end
section
variable {pg st : Int} {n : Nat} (H : HdIn pg st n)
include H
theorem grab_none1 (us : Int) {k : Int} (h : slotsC k = 0) (ws : List Int) : grabV us pg st k ws = ((0,false),ws) := by
 unfold grabV giverV
 rw [if_pos h]
 unfold grab2V
 rw [if_pos rfl]
theorem take_none {m k : Int} (ws : List Int) : takeV pg st (-1) m k ws = (false,ws) := by
 have : vacB pg st (-1) m ws = false := by
   cases e : vacB pg st (-1) m ws with
   | false => rfl
   | true => have := there_iff.1 (vacB_iff.1 e).1; omega
 unfold takeV
 rw [this]
 simp
theorem grab_none2 (us : Int) {k : Int} (hs : slotsC k ≠ 0) {ws : List Int} (h1 : plFirstV pg st k (slotsC k).toNat 1 ws = -1) (h2 : findV pg st 1 1 ws = -1) : grabV us pg st k ws = ((0,false),ws) := by
 have e : giverV pg st k ws = (-1,ws) := by
   unfold giverV giver2V
   rw [if_neg hs,h1,if_pos rfl,h2,take_none H]
   rfl
 unfold grabV
 rw [e]
 unfold grab2V
 rw [if_pos rfl]
theorem giver_old {k : Int} (hs : slotsC k ≠ 0) {ws : List Int} {q : Int} (h1 : plFirstV pg st k (slotsC k).toNat 1 ws = q) (hq : q ≠ -1) : giverV pg st k ws = (q,ws) := by
 unfold giverV giver2V
 rw [if_neg hs,h1,if_neg hq]
theorem giver_new {k : Int} (hs : slotsC k ≠ 0) {ws : List Int} {y : Int} (h1 : plFirstV pg st k (slotsC k).toNat 1 ws = -1) (h2 : findV pg st 1 1 ws = y) (h3 : (takeV pg st y 1 (k + 1) ws).1 = true) : giverV pg st k ws = (y,(takeV pg st y 1 (k + 1) ws).2) := by
 unfold giverV giver2V
 rw [if_neg hs,h1,if_pos rfl,h2,h3]
 rfl
theorem put_sets {q k b f : Int} (ho : openV k b = f) (hf : f ≠ slotsC k) (ws : List Int) : pgPutV pg st q k b ws = setsW pg st q b f ws := by
 unfold pgPutV setsW
 rw [if_neg (by rw [ho]; exact hf),ho]
structure PgMoved (pg st : Int) (n : Nat) (q k f f' : Int) (T : List Int → List Int) (ws : List Int) (G G1 G2 : Int → List Int) (u X : List Int) : Prop where
 eu : (plUnlinkV pg st q k f ws).2 = u
 l1 : Ln pg st G1 u
 nu : u.length = n
 o1 : LOff pg st ws u
 m1 : ∀ a,isHd pg st a → q ∉ G1 a
 lt : Ln pg st G1 (T u)
 nt : (T u).length = n
 eX : (plLinkV pg st q k f' (T u)).2 = X
 eM : movesV pg st q k f (T ws) = X
 l2 : Ln pg st G2 X
 o2 : LOff pg st (T ws) X
 m2 : ∀ a p,isHd pg st a → p ≠ q → (p ∈ G2 a ↔ p ∈ G a)
 m3 : ∀ a,isHd pg st a → (q ∈ G2 a ↔ headV pg st k f' = a)
theorem moved' {q k f f' : Int} {T : List Int → List Int} (M : Mod pg st n q f' T) (hq : isPage pg q = true) {G : Int → List Int} {ws : List Int} (L : Ln pg st G ws) (hn : ws.length = n)
   (hin : ∀ a,isHd pg st a → (q ∈ G a ↔ headV pg st k f = a)) : ∃ G1 G2 u X,PgMoved pg st n q k f f' T ws G G1 G2 u X := by
 obtain ⟨G1,G2,h1,h2,h3,h4,h5,h6,h7,h8,h9⟩ := moved H M hq L hn hin
 exact ⟨G1,G2,_,_,⟨rfl,h1,h3,h2,h4,h1.same H (M.no _ h3),M.len _ h3,h7,rfl,h5,h6,h8,h9⟩⟩
theorem grab_old (us : Int) {k : Int} (hs : slotsC k ≠ 0) {G : Int → List Int} {ws : List Int} (P : PgW pg st G ws) (hn : ws.length = n) {q : Int} (h1 : plFirstV pg st k (slotsC k).toNat 1 ws = q) (hq : q ≠ -1) :
   ∃ (j : Nat) (G1 G2 : Int → List Int) (u X : List Int),isPage pg q = true ∧ kindV pg st ws q = k + 1 ∧ 1 ≤ cntV pg st ws q ∧ (∀ y,1 ≤ y → y < cntV pg st ws q → G (headV pg st k y) = []) ∧
     slFirstV (bitV pg st ws q) (slotsC k) = (j : Int) ∧ (j : Int) < slotsC k ∧ bitB (bitV pg st ws q) j = false ∧
     PgMoved pg st n q k (cntV pg st ws q) (cntV pg st ws q - 1) (setsW pg st q (setV (bitV pg st ws q) j) (cntV pg st ws q - 1)) ws G G1 G2 u X ∧
     grabV us pg st k ws = ((us + 32 * q + j * szV k,true),X) ∧ PgW pg st G2 X := by
 have hk := slots_cls hs
 obtain ⟨L,F⟩ := P
 rcases first_is H L hk (slotsC k).toNat 1 (by omega) (by have := slots_in k; omega) with ⟨e,_⟩ | ⟨x,t,x1,x2,hz,hG,hno⟩
 · exact absurd (h1.symm.trans e) hq
 rw [h1] at hG
 have ha := (head_hd hz).1
 have hm := (F.mem _ q ha).1 (by rw [hG]; simp)
 obtain ⟨hqp,hk1,hh⟩ := hm
 have hkb := F.kd q hqp
 have hc := F.cnt q hqp hk1
 have inj := head_inj hz hh.symm
 have ek : kindV pg st ws q = k + 1 := by omega
 have ef : cntV pg st ws q = x := inj.2.symm
 rw [ek] at hc
 have hop : openV k (bitV pg st ws q) = cntV pg st ws q := by rw [hc.1]; congr 1; omega
 obtain ⟨j,hj1,hj2,hj3,hj4⟩ := first_open (b:=bitV pg st ws q) (k:=k) (by omega)
 have hlt : cntV pg st ws q < slotsC k := by have := hc.2; rwa [show k + 1 - 1 = k by omega] at this
 obtain ⟨G1,G2,u,X,M⟩ := moved' H (mod_sets H hqp (setV (bitV pg st ws q) j) (cntV pg st ws q - 1)) hqp L hn (k:=k) (f:=cntV pg st ws q) (fun a h => by
   rw [F.mem a q h,ek,show k + 1 - 1 = k by omega]
   exact ⟨fun z => z.2.2,fun z => ⟨hqp,by omega,z⟩⟩)
 refine ⟨j,G1,G2,u,X,hqp,ek,by omega,fun y y1 y2 => hno y y1 (by omega),hj1,hj2,hj3,M,?_,M.l2,?_⟩
 · unfold grabV
   rw [giver_old H hs h1 hq]
   unfold grab2V
   rw [if_neg hq,if_neg (by rw [hj1]; omega),hj1]
   unfold putMoveV
   rw [put_sets H (f:=cntV pg st ws q - 1) (by rw [hj4,hop]) (by omega),M.eM]
 · refine PgF.off H (a:=setsW pg st q (setV (bitV pg st ws q) j) (cntV pg st ws q - 1) ws) ?_ M.o2
   refine F.turn H hqp (k:=k + 1) (f:=cntV pg st ws q - 1) (c:=setV (bitV pg st ws q) j) (fun p hp => ?_) (fun p hp => sets_cnt H hqp _ _ hn hp) (fun p hp => sets_bit H hqp _ _ hn hp) (fun p _ _ h => by rw [sets_map H hqp _ _ hn]; exact h) (fun _ => by rw [sets_map H hqp _ _ hn]; exact F.map q hqp (by omega)) (by omega) (by omega) (fun _ => ?_) M.m2 (fun a h => ?_)
   · rw [sets_kind H hqp _ _ hn]; split
     · rename_i e; rw [e]; exact ek
     · rfl
   · rw [show k + 1 - 1 = k by omega,hj4,hop]; omega
   · rw [M.m3 a h,show k + 1 - 1 = k by omega]
     exact ⟨fun z => ⟨by omega,z⟩,fun z => z.2⟩
theorem grab_new (us : Int) {k : Int} (hs : slotsC k ≠ 0) {G : Int → List Int} {ws : List Int} (P : PgW pg st G ws) (hn : ws.length = n) {y : Int} (h1 : plFirstV pg st k (slotsC k).toNat 1 ws = -1) (h2 : findV pg st 1 1 ws = y) (hy : y ≠ -1) :
   ∃ (G1 G2 : Int → List Int) (w1 X : List Int),isPage pg y = true ∧ kindV pg st ws y = 0 ∧ takeV pg st y 1 (k + 1) ws = (true,w1) ∧ Took pg st y 1 (k + 1) ws w1 ∧ w1.length = n ∧ Ln pg st G w1 ∧
     PgMoved pg st n y k 0 (slotsC k - 1) (setsW pg st y (setV 0 0) (slotsC k - 1)) w1 G G1 G2 w1 X ∧
     grabV us pg st k ws = ((us + 32 * y,true),X) ∧ PgW pg st G2 X := by
 have hk := slots_cls hs
 have hsl := slots_in k
 obtain ⟨L,F⟩ := P
 have hfy := (find_one H ws).resolve_left (fun z => hy (h2.symm.trans z.1))
 rw [h2] at hfy
 obtain ⟨hyp,hk0⟩ := hfy
 obtain ⟨t1,T⟩ := take_one H hk hn hyp hk0
 obtain ⟨w1,ew⟩ : ∃ w1,(takeV pg st y 1 (k + 1) ws).2 = w1 := ⟨_,rfl⟩
 rw [ew] at T
 have n1 : w1.length = n := T.len.trans hn
 have L1 : Ln pg st G w1 := L.same H (took_no H T)
 have hno : ∀ a,isHd pg st a → y ∉ G a := fun a h z => by have := ((F.mem a y h).1 z).2.1; omega
 have hb1 : bitV pg st w1 y = 0 := by rw [T.bit y hyp,if_pos (by omega)]
 have hc1 : cntV pg st w1 y = 0 := by rw [T.cnt y hyp,if_pos rfl,if_neg (by omega)]
 have hz0 : headV pg st k 0 = 0 := by unfold headV; rw [if_neg (by omega)]
 have hos : openV k (setV 0 0) = slotsC k - 1 := by
   have := open_set (b:=0) (k:=k) (j:=0) (by omega) (bit_zero 0)
   rw [open_zero] at this
   exact this
 obtain ⟨G1,G2,u,X,M⟩ := moved' H (mod_sets H hyp (setV 0 0) (slotsC k - 1)) hyp L1 n1 (k:=k) (f:=0) (fun a h => ⟨fun z => absurd z (hno a h),fun z => by have := (hd_b H h).1; omega⟩)
 have eu : u = w1 := by rw [← M.eu,unlink_no H L1 (fun _ z => absurd hz0 z)]
 subst eu
 refine ⟨G1,G2,u,X,hyp,hk0,Prod.ext t1 ew,T,n1,L1,M,?_,M.l2,?_⟩
 · unfold grabV
   rw [giver_new H hs h1 h2 t1,ew]
   unfold grab2V
   rw [if_neg hy]
   show (if slFirstV (bitV pg st u y) (slotsC k) = -1 then _ else _) = _
   rw [hb1,first_zero hs,if_neg (by omega),hc1]
   unfold putMoveV
   rw [put_sets H (f:=slotsC k - 1) hos (by omega),M.eM]
   simp
 · refine PgF.off H (a:=setsW pg st y (setV 0 0) (slotsC k - 1) u) ?_ M.o2
   refine F.turn H hyp (k:=k + 1) (f:=slotsC k - 1) (c:=setV 0 0) (fun p hp => ?_) (fun p hp => ?_) (fun p hp => ?_) (fun p hp hne h => ?_) (fun _ => ?_) (by omega) (by omega) (fun _ => ?_) M.m2 (fun a h => ?_)
   · rw [sets_kind H hyp _ _ n1,T.kind]
     by_cases e : p = y
     · rw [if_pos e,if_pos e]
     · rw [if_neg e,if_neg e,if_neg (by omega)]
   · rw [sets_cnt H hyp _ _ n1 hp,T.cnt p hp]
     by_cases e : p = y
     · rw [if_pos e,if_pos e]
     · rw [if_neg e,if_neg e,if_neg e,if_neg (by omega)]
   · rw [sets_bit H hyp _ _ n1 hp,T.bit p hp]
     by_cases e : p = y
     · rw [if_pos e,if_pos e]
     · rw [if_neg e,if_neg e,if_neg (by omega)]
   · rw [sets_map H hyp _ _ n1,T.map _ (chunk_of hp),h]; rfl
   · rw [sets_map H hyp _ _ n1,T.map _ (chunk_of hyp)]
     simp
   · rw [show k + 1 - 1 = k by omega,hos]
     exact ⟨rfl,by omega⟩
   · rw [M.m3 a h,show k + 1 - 1 = k by omega]
     exact ⟨fun z => ⟨by omega,z⟩,fun z => z.2⟩
theorem taken_is {us a : Int} {G : Int → List Int} {ws : List Int} (F : PgF pg st G ws) {q k i : Int} {t : Bool} (h : takenV us pg st a ws = some (q,k,i,t)) :
   isPage pg q = true ∧ kindV pg st ws q = k + 1 ∧ 0 ≤ k ∧ k ≤ 4 ∧ 0 ≤ i ∧ i < slotsC k ∧ t = hasB (bitV pg st ws q) i ∧ a = us + 32 * q + i * szV k := by
 unfold takenV at h
 split at h
 · rename_i hin
   obtain ⟨hq,hw⟩ := place_b hin
   have hkd := F.kd _ hq
   have hwr : IntKind.i64.wrap (kindV pg st ws ((a - us) / 32) - 1) = kindV pg st ws ((a - us) / 32) - 1 := wrap_in (by omega) (by omega)
   unfold tkRestV at h
   rw [hwr] at h
   split at h
   · cases h
   · rename_i hz
     split at h
     · cases h
     · rename_i hm
       have hk := slots_cls hz
       obtain ⟨z,hzk⟩ : ∃ z : Nat,kindV pg st ws ((a - us) / 32) - 1 = (z : Int) := ⟨_,(Int.toNat_of_nonneg hk.1).symm⟩
       simp only [Option.some.injEq,Prod.mk.injEq] at h
       obtain ⟨rfl,rfl,rfl,rfl⟩ := h
       rw [hzk] at hk hm ⊢
       have hsb := sz_b (k:=z) (by omega)
       have hm : (a - us) % 32 % szV (z : Int) = 0 := by simpa using hm
       have hsz := slots_of_sz (k:=z) (by omega)
       have hd := Int.emod_add_mul_ediv ((a - us) % 32) (szV (z : Int))
       rw [hm] at hd
       refine ⟨hq,by omega,hk.1,hk.2,Int.ediv_nonneg hw.1 (by omega),?_,rfl,?_⟩
       · have hz4 : z = 0 ∨ z = 1 ∨ z = 2 ∨ z = 3 ∨ z = 4 := by omega
         generalize (a - us) % 32 = wd at hw hm ⊢
         rcases hz4 with rfl | rfl | rfl | rfl | rfl
         · show wd / 1 < 32; omega
         · show wd / 2 < 16; omega
         · show wd / 4 < 8; omega
         · show wd / 8 < 4; omega
         · show wd / 16 < 2; omega
       · rw [Int.mul_comm ((a - us) % 32 / szV (z : Int)) (szV (z : Int))]
         omega
 · cases h
theorem back_yes (us : Int) {a : Int} {G : Int → List Int} {ws : List Int} (P : PgW pg st G ws) (hn : ws.length = n) (ho : OkW ws) {q k i : Int} (h : tkYes (takenV us pg st a ws) = some (q,k,i)) :
   isPage pg q = true ∧ kindV pg st ws q = k + 1 ∧ 0 ≤ k ∧ k ≤ 4 ∧ 0 ≤ i ∧ i < slotsC k ∧ hasB (bitV pg st ws q) i = true ∧ a = us + 32 * q + i * szV k ∧ 0 ≤ cntV pg st ws q ∧ cntV pg st ws q < slotsC k ∧
   (cntV pg st ws q + 1 ≠ slotsC k → ∃ G1 G2 u X,PgMoved pg st n q k (cntV pg st ws q) (cntV pg st ws q + 1) (setsW pg st q (clearV (bitV pg st ws q) i) (cntV pg st ws q + 1)) ws G G1 G2 u X ∧ backV us pg st a ws = (true,X) ∧ PgW pg st G2 X) ∧
   (cntV pg st ws q + 1 = slotsC k → ∃ G1 G2 u X,PgMoved pg st n q k (cntV pg st ws q) 0 (put3V pg st q 0 0) ws G G1 G2 u X ∧ backV us pg st a ws = (true,X) ∧ PgW pg st G2 X) := by
 obtain ⟨L,F⟩ := P
 obtain ⟨hq,ek,k0,k4,i0,i1,ht,ha⟩ := taken_is H F (tkYes_some h)
 have hc := F.cnt q hq (by omega)
 rw [ek,show k + 1 - 1 = k by omega] at hc
 have hcb := cnt_b (bitV pg st ws q) k
 have hcl := open_clear (b:=bitV pg st ws q) (k:=k) (okW_at' ho _) i0 i1 ht.symm
 have hin : ∀ a,isHd pg st a → (q ∈ G a ↔ headV pg st k (cntV pg st ws q) = a) := fun a h => by
   rw [F.mem a q h,ek,show k + 1 - 1 = k by omega]
   exact ⟨fun z => z.2.2,fun z => ⟨hq,by omega,z⟩⟩
 refine ⟨hq,ek,k0,k4,i0,i1,ht.symm,ha,by omega,hc.2,fun hne => ?_,fun he => ?_⟩
 · obtain ⟨G1,G2,u,X,M⟩ := moved' H (mod_sets H hq (clearV (bitV pg st ws q) i) (cntV pg st ws q + 1)) hq L hn (k:=k) (f:=cntV pg st ws q) hin
   refine ⟨G1,G2,u,X,M,?_,M.l2,?_⟩
   · unfold backV
     rw [h]
     show (true,putMoveV _ _ _ _ _ _ _) = _
     unfold putMoveV
     rw [put_sets H (f:=cntV pg st ws q + 1) (by rw [hcl,hc.1]) hne,M.eM]
   · refine PgF.off H (a:=setsW pg st q (clearV (bitV pg st ws q) i) (cntV pg st ws q + 1) ws) ?_ M.o2
     refine F.turn H hq (k:=k + 1) (f:=cntV pg st ws q + 1) (c:=clearV (bitV pg st ws q) i) (fun p hp => ?_) (fun p hp => sets_cnt H hq _ _ hn hp) (fun p hp => sets_bit H hq _ _ hn hp) (fun p _ _ h => by rw [sets_map H hq _ _ hn]; exact h) (fun _ => by rw [sets_map H hq _ _ hn]; exact F.map q hq (by omega)) (by omega) (by omega) (fun _ => ?_) M.m2 (fun a h => ?_)
     · rw [sets_kind H hq _ _ hn]; split
       · rename_i e; rw [e]; exact ek
       · rfl
     · rw [show k + 1 - 1 = k by omega,hcl,hc.1]
       exact ⟨rfl,by omega⟩
     · rw [M.m3 a h,show k + 1 - 1 = k by omega]
       exact ⟨fun z => ⟨by omega,z⟩,fun z => z.2⟩
 · obtain ⟨G1,G2,u,X,M⟩ := moved' H (mod_put3 H hq 0 0) hq L hn (k:=k) (f:=cntV pg st ws q) hin
   have hd : (dropV pg st q ws).2 = put3V pg st q 0 0 ws := by
     have hl : lenV pg st q ws = 1 := by unfold lenV; rw [ek,if_pos (cls_iff.2 ⟨by omega,by omega⟩)]
     unfold dropV
     rw [hl]
     rfl
   refine ⟨G1,G2,u,X,M,?_,M.l2,?_⟩
   · unfold backV
     rw [h]
     show (true,putMoveV _ _ _ _ _ _ _) = _
     unfold putMoveV pgPutV
     rw [if_pos (by rw [hcl,← hc.1]; exact he),hd,M.eM]
   · refine PgF.off H (a:=put3V pg st q 0 0 ws) ?_ M.o2
     have hz0 : headV pg st k 0 = 0 := by unfold headV; rw [if_neg (by omega)]
     refine F.turn H hq (k:=0) (f:=0) (c:=0) (fun p hp => kind_put3 H.toPgIn hq 0 0 hn p) (fun p hp => cnt_put3 H.toPgIn hq 0 0 hn hp) (fun p hp => bit_put3 H.toPgIn hq 0 0 hn hp) (fun p _ _ h => by rw [map_put3 H.toPgIn hq 0 0 hn]; exact h) (fun z => absurd rfl z) (by omega) (fun _ => ⟨rfl,rfl⟩) (fun z => by omega) M.m2 (fun a h => ?_)
     rw [M.m3 a h,hz0]
     have := (hd_b H h).1
     exact ⟨fun z => by omega,fun z => by omega⟩
theorem back_no {us a : Int} {ws : List Int} (h : tkYes (takenV us pg st a ws) = none) : backV us pg st a ws = (false,ws) := by
 unfold backV
 rw [h]
 rfl
end
end Go.Proofs.YtflihdcliknggaaGreatDoor
