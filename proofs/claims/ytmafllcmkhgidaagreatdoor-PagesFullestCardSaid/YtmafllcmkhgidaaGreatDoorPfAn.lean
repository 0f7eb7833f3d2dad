/-
  Arguments as the walks of layer 7 are told of them: slices of pairs, of steps, of integers.
-/
import Derived.Test.YtmafllcmkhgidaaGreatDoorPfAe
import Derived.ProofKit
import Derived.OpenShut
import Derived.Deep.Slices
import Derived.Deep.Fields
import Derived.Lib.SmallJoins
import Derived.Test.YtmafllcmkhgidaaGreatDoorPfAh
import Derived.Test.YtmafllcmkhgidaaGreatDoorPfAk
import Derived.Test.YtmafllcmkhgidaaGreatDoorPfAj
import Derived.Test.YtmafllcmkhgidaaGreatDoorPfAm
set_option maxRecDepth 100000
set_option maxHeartbeats 8000000
set_option linter.unusedVariables false
set_option linter.unusedSimpArgs false
set_option linter.unusedSectionVars false
namespace Go.Proofs.YtmafllcmkhgidaaGreatDoor
open Go.ChangeShapes Go.WideShapes Go.ChangeAt Go.RowKit Go.Joins Go.Deep
theorem addr_add' (b o j : Nat) : (⟨b,o,none⟩ : Addr).add j = ⟨b,o + j,none⟩ := by
 unfold Addr.add
 by_cases q : j = 0
 · subst q; simp
 · simp [q]
theorem list_get {α : Type} {n : Nat} {f : Nat → α} {i : Nat} {t : α} (h : ((List.range n).map f)[i]? = some t) : i < n ∧ t = f i := by
 rw [List.getElem?_map] at h
 by_cases q : i < n
 · rw [List.getElem?_range q] at h; exact ⟨q,by simpa using h.symm⟩
 · rw [List.getElem?_eq_none (by simpa using q)] at h; cases h
section
variable {H : Type} {enc : TypeId × Value → H} {P : Program} {w : World} {base : Nat} {spare : Nat → Bool} {held : Bool}
theorem isPairs_of {t e : TypeId} {f0 f1 : Field} {a : Option Addr} {len cap : Nat} {d : DataW H} {p : List MemPlace} (ht : P.underlying t = some (.slice e)) (hs : P.underlying e = some (.struct #[f0,f1])) (hone : oneCellFields P #[f0,f1] = true) (hC : P.cellsOf e = 2)
   (u0 : P.underlying f0.type = some (.int .i64)) (u1 : P.underlying f1.type = some (.int .i64))
   (h : DataW.Trod enc P w base spare held t (.slice a len cap) d p) : ∃ l : List KV,l.length = len ∧ IsPairs w a l ∧ OkPs l ∧ l.length ≤ 9223372036854775807 := by
 obtain ⟨fuel,hf⟩ := h
 have zero : ∀ n,len = n → n = 0 → ∃ l : List KV,l.length = len ∧ IsPairs w a l ∧ OkPs l ∧ l.length ≤ 9223372036854775807 := fun n h0 h1 => ⟨[],by rw [h0,h1]; rfl,.inl rfl,(fun p hp => by cases hp),by simp⟩
 rcases open_slice ht hf with ⟨hcs,_⟩ | ⟨x,l,c,m,n,D,Pl,hcs,_,hl,hm,hmm,_,hi⟩
 · simp [Value.cells] at hcs
   obtain ⟨rfl,rfl,rfl⟩ := hcs
   exact zero _ rfl rfl
 · simp [Value.cells] at hcs
   obtain ⟨rfl,rfl,rfl⟩ := hcs
   have key : ∀ i,i < len → ∃ g : KV,w.cell? (x.add (i * 2)) = some (.int .i64 g.1) ∧ w.cell? (x.add (i * 2 + 1)) = some (.int .i64 g.2) ∧ W64 g.1 ∧ W64 g.2 := by
     intro i hil
     obtain ⟨cs',hc,ht'⟩ := hi i (by have := hmm; split at this <;> omega)
     rw [hC] at hc
     obtain ⟨_,hcl,hat⟩ := World.cells?_some hc
     obtain ⟨c0,c1,rfl⟩ : ∃ c0 c1,cs' = [c0,c1] := by
       match cs',hcl with
       | [c0,c1],_ => exact ⟨c0,c1,rfl⟩
     obtain ⟨y0,y1,n',_,_,h0,h1⟩ := trod_struct2 hs ht'
     obtain ⟨o0,k0⟩ := hone_of hone 0 f0 rfl
     obtain ⟨o1,k1⟩ := hone_of hone 1 f1 rfl
     rw [o0,k0] at h0; rw [o1,k1] at h1
     obtain ⟨x0,e0,_,w0⟩ := DataW.trod_int u0 h0
     obtain ⟨x1,e1,_,w1⟩ := DataW.trod_int u1 h1
     simp at e0 e1
     subst e0 e1
     have a0 := hat 0 (by omega)
     have a1 := hat 1 (by omega)
     rw [Go.Deep.add_add] at a0 a1
     exact ⟨(x0,x1),a0,a1,of_wf w0,of_wf w1⟩
   by_cases h0 : len = 0
   · exact zero _ rfl h0
   · obtain ⟨s,o,spot⟩ := x
     obtain ⟨g0,hg0,_⟩ := key 0 (by omega)
     have hspot : spot = none := by simpa [Addr.add] using World.cell?_spot hg0
     subst hspot
     have hF : ∀ i,∃ g : KV,i < len → w.cell? ⟨s,o + i * 2,none⟩ = some (.int .i64 g.1) ∧ w.cell? ⟨s,o + i * 2 + 1,none⟩ = some (.int .i64 g.2) ∧ W64 g.1 ∧ W64 g.2 := by
       intro i
       by_cases hil : i < len
       · obtain ⟨g,hg⟩ := key i hil
         exact ⟨g,fun _ => by simp only [Nat.add_assoc]; simp only [← addr_add']; exact hg⟩
       · exact ⟨(0,0),fun q => absurd q hil⟩
     have hm' : cap ≤ 9223372036854775807 := by unfold maxLen at hm; exact hm
     have hspec := fun i hil => Classical.choose_spec (hF i) hil
     refine ⟨(List.range len).map fun i => Classical.choose (hF i),by simp,.inr ⟨s,o,rfl,lt_of_cell (hspec 0 (by omega)).1,fun i t ht => ?_⟩,fun t ht => ?_,by simp; omega⟩
     · obtain ⟨hil,rfl⟩ := list_get ht
       have q := hspec i hil
       exact ⟨q.1,q.2.1⟩
     · obtain ⟨i,hi',rfl⟩ := List.mem_map.1 ht
       have q := hspec i (by simpa using hi')
       exact ⟨q.2.2.1,q.2.2.2⟩
theorem isIns_of {t e : TypeId} {f0 f1 f2 : Field} {a : Option Addr} {len cap : Nat} {d : DataW H} {p : List MemPlace} (ht : P.underlying t = some (.slice e)) (hs : P.underlying e = some (.struct #[f0,f1,f2])) (hone : oneCellFields P #[f0,f1,f2] = true) (hC : P.cellsOf e = 3)
   (u0 : P.underlying f0.type = some (.int .i64)) (u1 : P.underlying f1.type = some (.int .i64)) (u2 : P.underlying f2.type = some (.int .i64))
   (h : DataW.Trod enc P w base spare held t (.slice a len cap) d p) : ∃ l : List Ins3,l.length = len ∧ IsIns w a l ∧ OkP l ∧ l.length ≤ 9223372036854775807 := by
 obtain ⟨fuel,hf⟩ := h
 have zero : ∀ n,len = n → n = 0 → ∃ l : List Ins3,l.length = len ∧ IsIns w a l ∧ OkP l ∧ l.length ≤ 9223372036854775807 := fun n h0 h1 => ⟨[],by rw [h0,h1]; rfl,.inl rfl,(fun p hp => by cases hp),by simp⟩
 rcases open_slice ht hf with ⟨hcs,_⟩ | ⟨x,l,c,m,n,D,Pl,hcs,_,hl,hm,hmm,_,hi⟩
 · simp [Value.cells] at hcs
   obtain ⟨rfl,rfl,rfl⟩ := hcs
   exact zero _ rfl rfl
 · simp [Value.cells] at hcs
   obtain ⟨rfl,rfl,rfl⟩ := hcs
   have key : ∀ i,i < len → ∃ g : Ins3,w.cell? (x.add (i * 3)) = some (.int .i64 g.1) ∧ w.cell? (x.add (i * 3 + 1)) = some (.int .i64 g.2.1) ∧ w.cell? (x.add (i * 3 + 2)) = some (.int .i64 g.2.2) ∧ W64 g.1 ∧ W64 g.2.1 ∧ W64 g.2.2 := by
     intro i hil
     obtain ⟨cs',hc,ht'⟩ := hi i (by have := hmm; split at this <;> omega)
     rw [hC] at hc
     obtain ⟨_,hcl,hat⟩ := World.cells?_some hc
     obtain ⟨c0,c1,c2,rfl⟩ : ∃ c0 c1 c2,cs' = [c0,c1,c2] := by
       match cs',hcl with
       | [c0,c1,c2],_ => exact ⟨c0,c1,c2,rfl⟩
     obtain ⟨y0,y1,y2,n',_,_,h0,h1,h2⟩ := trod_struct3 hs ht'
     obtain ⟨o0,k0⟩ := hone_of hone 0 f0 rfl
     obtain ⟨o1,k1⟩ := hone_of hone 1 f1 rfl
     obtain ⟨o2,k2⟩ := hone_of hone 2 f2 rfl
     rw [o0,k0] at h0; rw [o1,k1] at h1; rw [o2,k2] at h2
     obtain ⟨x0,e0,_,w0⟩ := DataW.trod_int u0 h0
     obtain ⟨x1,e1,_,w1⟩ := DataW.trod_int u1 h1
     obtain ⟨x2,e2,_,w2⟩ := DataW.trod_int u2 h2
     simp at e0 e1 e2
     subst e0 e1 e2
     have a0 := hat 0 (by omega)
     have a1 := hat 1 (by omega)
     have a2 := hat 2 (by omega)
     rw [Go.Deep.add_add] at a0 a1 a2
     exact ⟨(x0,x1,x2),a0,a1,a2,of_wf w0,of_wf w1,of_wf w2⟩
   by_cases h0 : len = 0
   · exact zero _ rfl h0
   · obtain ⟨s,o,spot⟩ := x
     obtain ⟨g0,hg0,_⟩ := key 0 (by omega)
     have hspot : spot = none := by simpa [Addr.add] using World.cell?_spot hg0
     subst hspot
     have hF : ∀ i,∃ g : Ins3,i < len → w.cell? ⟨s,o + i * 3,none⟩ = some (.int .i64 g.1) ∧ w.cell? ⟨s,o + i * 3 + 1,none⟩ = some (.int .i64 g.2.1) ∧ w.cell? ⟨s,o + i * 3 + 2,none⟩ = some (.int .i64 g.2.2) ∧ W64 g.1 ∧ W64 g.2.1 ∧ W64 g.2.2 := by
       intro i
       by_cases hil : i < len
       · obtain ⟨g,hg⟩ := key i hil
         exact ⟨g,fun _ => by simp only [Nat.add_assoc]; simp only [← addr_add']; exact hg⟩
       · exact ⟨(0,0,0),fun q => absurd q hil⟩
     have hm' : cap ≤ 9223372036854775807 := by unfold maxLen at hm; exact hm
     have hspec := fun i hil => Classical.choose_spec (hF i) hil
     refine ⟨(List.range len).map fun i => Classical.choose (hF i),by simp,.inr ⟨s,o,rfl,lt_of_cell (hspec 0 (by omega)).1,fun i t ht => ?_⟩,fun t ht => ?_,by simp; omega⟩
     · obtain ⟨hil,rfl⟩ := list_get ht
       have q := hspec i hil
       exact ⟨q.1,q.2.1,q.2.2.1⟩
     · obtain ⟨i,hi',rfl⟩ := List.mem_map.1 ht
       have q := hspec i (by simpa using hi')
       exact ⟨q.2.2.2.2.1,q.2.2.2.2.2⟩
end
section
variable {H : Type} {enc : TypeId × Value → H} {P : Program} {w : World} {base : Nat} {spare : Nat → Bool} {held : Bool}
end
theorem drop_at4 {α : Type} {l : List α} {j : Nat} {x : α} (h : l[j]? = some x) : l.drop j = x :: l.drop (j + 1) := by
 have hj : j < l.length := by
   rcases Nat.lt_or_ge j l.length with q | q
   · exact q
   · rw [List.getElem?_eq_none q] at h; cases h
 rw [List.drop_eq_getElem_cons hj]
 rw [List.getElem?_eq_getElem hj] at h
 cases h; rfl
end Go.Proofs.YtmafllcmkhgidaaGreatDoor
namespace Go.Proofs.YtmafllcmkhgidaaGreatDoor
open Go.RowKit Go.Sort Go.Maps Go.Shelf
theorem done_fin {α : Type} {w w1 wz w2 : World} {F F' : Nat → Prop} {p n g : Nat} {kn : Int → Option Int} {D : List KV} {val : α → Value} {R : Res α} {x : α} {cs : Array Value} {t : TypeId} {fr : Nat × Nat} (m : More w w1) (h : MidV w1 wz F (fun _ => False) p kn n D F') (hR : R = .ok x D) (hg : w.heap.size ≤ g) (hl : g < w1.heap.size) (nF : ¬ F g) (hb : wz.heap[g]? = some (.cells cs t fr)) (ht : Turned (fun k => k = g) wz w2) : WentV w F p kn val R (.returned (val x)) w2 := by
 refine WentV.did hR ⟨rfl,F',h.view.keepS ht (fun k hk e => h.off hl nF (e ▸ hk)) (fun k es cl e q => by subst e; rw [hb] at q; cases q),?_,fun k q => (h.from' k q).imp id (fun r => Nat.le_trans m.size r)⟩
 exact turned_own (turned_own (Turned.mono m (fun _ _ q => q.elim)) h.turn (fun k q => q.imp id (fun r => r.elim))) ht (fun k q => .inr (by omega))
end Go.Proofs.YtmafllcmkhgidaaGreatDoor
namespace Go.Proofs.YtmafllcmkhgidaaGreatDoor
def chkVac (pg st k : Int) (ws : List Int) : Bool := vacB pg st (firstV pg k) (sizeV pg k) ws
section
variable {pg st : Int} {n : Nat} (H : PgIn pg st n)
include H
structure Trimmed (pg st : Int) (lo s : Int) (ws : List Int) (r : Int × List Int) : Prop where
 tab : Tab pg st ws r.2
 wf : Wf pg st r.2
 cnt : countW pg st r.2 = countW pg st ws - (r.1 - s)
 le : s ≤ r.1
 map : ∀ j,isChunk pg j = true → mappedV pg st r.2 j = if lo ≤ j then (mappedV pg st ws j && !chkVac pg st j ws) else mappedV pg st ws j
end
section
variable {pg st : Int} {n : Nat} (H : PgIn pg st n)
include H
end
end Go.Proofs.YtmafllcmkhgidaaGreatDoor
namespace Go.Proofs.YtmafllcmkhgidaaGreatDoor
open Go.RowKit Go.Sort Go.Maps Go.Shelf
def opN (pg st : Int) (ws : List Int) (mp : Bool) : Nat → Int → Bool
 | 0,_ => true
 | m + 1,q => (decide (kindV pg st ws q = 0) && (!mp || mappedV pg st ws (ofV q))) && opN pg st ws mp m (q + 1)
def opV (pg st : Int) (ws : List Int) (p n : Int) (mp : Bool) : Bool := thereB pg p n && opN pg st ws mp n.toNat p
theorem opN_iff (pg st : Int) (ws : List Int) (mp : Bool) (m : Nat) : ∀ q : Int,opN pg st ws mp m q = true ↔ ∀ i : Int,q ≤ i → i < q + m → kindV pg st ws i = 0 ∧ (mp = true → mappedV pg st ws (ofV i) = true) := by
 induction m with
 | zero => intro q; exact ⟨fun _ i h0 h1 => by omega,fun _ => rfl⟩
 | succ m ih =>
   intro q
   show ((decide (kindV pg st ws q = 0) && (!mp || mappedV pg st ws (ofV q))) && opN pg st ws mp m (q + 1)) = true ↔ _
   rw [Bool.and_eq_true,Bool.and_eq_true,ih]
   constructor
   · rintro ⟨⟨h0,h1⟩,h2⟩ i hi hl
     by_cases e : i = q
     · subst e
       refine ⟨by simpa using h0,fun hm => ?_⟩
       rw [hm] at h1; simpa using h1
     · exact h2 i (by omega) (by omega)
   · intro h
     obtain ⟨a,b⟩ := h q (by omega) (by omega)
     refine ⟨⟨by simpa using a,?_⟩,fun i hi hl => h i (by omega) (by omega)⟩
     cases mp with
     | false => rfl
     | true => simpa using b rfl
def HitsR (f : Int → Bool) (pg m q : Int) : Prop := q ≤ pg - m ∧ ∀ i,q ≤ i → i < q + m → f i = true
theorem scan_noneR {f : Int → Bool} (m : Nat) : ∀ q : Int,scanV f m q = none → ∀ i,q ≤ i → i < q + m → f i = true := by
 induction m with
 | zero => intro q _ i h0 h1; omega
 | succ m ih =>
   intro q h i h0 h1
   have h : (if f q then scanV f m (q + 1) else some q) = none := h
   by_cases e : f q = true
   · rw [if_pos e] at h
     by_cases ei : i = q
     · rw [ei]; exact e
     · exact ih (q + 1) h i (by omega) (by omega)
   · rw [if_neg e] at h; cases h
theorem scan_someR {f : Int → Bool} (m : Nat) : ∀ q x : Int,scanV f m q = some x → q ≤ x ∧ x < q + m ∧ f x = false := by
 induction m with
 | zero => intro q x h; cases h
 | succ m ih =>
   intro q x h
   have h : (if f q then scanV f m (q + 1) else some q) = some x := h
   by_cases e : f q = true
   · rw [if_pos e] at h
     obtain ⟨a,b,c⟩ := ih (q + 1) x h
     exact ⟨by omega,by omega,c⟩
   · rw [if_neg e] at h
     cases h
     exact ⟨by omega,by omega,by simpa using e⟩
theorem seek_specR {f : Int → Bool} {pg m step : Int} (h1 : 1 ≤ m) (h2 : 1 ≤ step) (j : Nat) : ∀ p d : Int,p = d * step → 0 ≤ p → pg < p + j →
   (seekV f pg m step j p = -1 ∧ ∀ k : Int,p ≤ k * step → ¬ HitsR f pg m (k * step)) ∨ ∃ k : Int,seekV f pg m step j p = k * step ∧ p ≤ k * step ∧ HitsR f pg m (k * step) ∧ ∀ l : Int,p ≤ l * step → l * step < k * step → ¬ HitsR f pg m (l * step) := by
 induction j with
 | zero => intro p d hp h0 hj; exact .inl ⟨rfl,fun k hk hh => by have := hh.1; omega⟩
 | succ j ih =>
   intro p d hp h0 hj
   unfold seekV
   by_cases e : p ≤ pg - m
   · rw [if_pos e]
     cases hs : scanV f m.toNat p with
     | none =>
       have := scan_noneR _ _ hs
       exact .inr ⟨d,hp,by omega,⟨by omega,fun i a b => this i (by omega) (by omega)⟩,fun l a b => by omega⟩
     | some q =>
       obtain ⟨s0,s1,s2⟩ := scan_someR _ _ _ hs
       have q0 : q / step * step ≤ q := Int.ediv_mul_le q (by omega)
       have q1 : q < (q / step + 1) * step := Int.lt_ediv_add_one_mul_self q (by omega)
       have skip : ∀ l : Int,p ≤ l * step → l * step < (q / step + 1) * step → ¬ HitsR f pg m (l * step) := fun l a b hh => by
         have hl : l < q / step + 1 := Int.lt_of_mul_lt_mul_right b (by omega)
         have hl2 : l * step ≤ q / step * step := Int.mul_le_mul_of_nonneg_right (by omega) (by omega)
         have := hh.2 q (by omega) (by omega)
         rw [s2] at this; cases this
       rcases ih ((q / step + 1) * step) (q / step + 1) rfl (by omega) (by omega) with ⟨a,b⟩ | ⟨k,a,b,c,d'⟩
       · refine .inl ⟨a,fun k hk => ?_⟩
         rcases Int.lt_or_le (k * step) ((q / step + 1) * step) with z | z
         · exact skip k hk z
         · exact b k z
       · refine .inr ⟨k,a,by omega,c,fun l hl hl2 => ?_⟩
         rcases Int.lt_or_le (l * step) ((q / step + 1) * step) with z | z
         · exact skip l hl z
         · exact d' l z hl2
   · rw [if_neg e]
     exact .inl ⟨rfl,fun k hk hh => by have := hh.1; omega⟩
theorem least_one {f : Int → Bool} {pg m step : Int} (h1 : 1 ≤ m) (h2 : 1 ≤ step) (hpg : 0 ≤ pg) {k : Int} (h0 : 0 ≤ k * step) (hk : HitsR f pg m (k * step)) (hl : ∀ l : Int,0 ≤ l * step → l * step < k * step → ¬ HitsR f pg m (l * step)) : leastV f pg m step = k * step := by
 rcases seek_specR (f:=f) (pg:=pg) h1 h2 (pg.toNat + 1) 0 0 (by omega) (by omega) (by omega) with ⟨_,h⟩ | ⟨k',e,p0,hh,hm⟩
 · exact absurd hk (h k h0)
 · unfold leastV
   rw [e]
   rcases Int.lt_trichotomy (k' * step) (k * step) with c | c | c
   · exact absurd hh (hl k' p0 c)
   · exact c
   · exact absurd hk (hm k h0 c)
theorem least_no {f : Int → Bool} {pg m step : Int} (h1 : 1 ≤ m) (h2 : 1 ≤ step) (hpg : 0 ≤ pg) (hl : ∀ l : Int,0 ≤ l * step → ¬ HitsR f pg m (l * step)) : leastV f pg m step = -1 := by
 rcases seek_specR (f:=f) (pg:=pg) h1 h2 (pg.toNat + 1) 0 0 (by omega) (by omega) (by omega) with ⟨e,_⟩ | ⟨k',e,p0,hh,hm⟩
 · exact e
 · exact absurd hh (hl k' p0)
theorem op_hits {pg st : Int} {ws : List Int} {p n : Int} (h0 : 0 ≤ p) (h1 : 1 ≤ n) (mp : Bool) : opV pg st ws p n mp = true ↔ HitsR (if mp then openB pg st ws else freeB pg st ws) pg n p := by
 unfold opV HitsR
 rw [Bool.and_eq_true,there_iff,opN_iff]
 constructor
 · rintro ⟨⟨_,_,t2⟩,h⟩
   refine ⟨by omega,fun i a b => ?_⟩
   obtain ⟨k0,km⟩ := h i a (by omega)
   cases mp with
   | false => show freeB pg st ws i = true; unfold freeB; simp [k0]
   | true => show openB pg st ws i = true; unfold openB; rw [km rfl]; simp [k0]
 · rintro ⟨t,h⟩
   refine ⟨⟨h0,h1,by omega⟩,fun i a b => ?_⟩
   have := h i a (by omega)
   cases mp with
   | false =>
     have : freeB pg st ws i = true := this
     unfold freeB at this
     exact ⟨by simpa using this,fun e => by cases e⟩
   | true =>
     have : openB pg st ws i = true := this
     unfold openB at this
     rw [Bool.and_eq_true] at this
     exact ⟨by simpa using this.2,fun _ => this.1⟩
theorem find_first {pg st : Int} {ws : List Int} {n step : Int} (h1 : 1 ≤ n) (h2 : 1 ≤ step) (hpg : 0 ≤ pg) {p : Int} (p0 : 0 ≤ p) (pm : p % step = 0) (mp : Bool) (ho : opV pg st ws p n mp = true) (hb : ∀ q,0 ≤ q → q < p → q % step = 0 → opV pg st ws q n mp = false) : leastV (if mp then openB pg st ws else freeB pg st ws) pg n step = p := by
 have e : p = p / step * step := by have := Int.mul_ediv_add_emod p step; rw [pm] at this; rw [Int.mul_comm]; omega
 rw [e]
 refine least_one h1 h2 hpg (by rw [← e]; exact p0) (by rw [← e]; exact (op_hits p0 h1 mp).1 ho) (fun l l0 ll hh => ?_)
 rw [← e] at ll
 have := hb (l * step) l0 ll (Int.mul_emod_left l step)
 rw [(op_hits l0 h1 mp).2 hh] at this
 cases this
theorem find_none {pg st : Int} {ws : List Int} {n step : Int} (h1 : 1 ≤ n) (h2 : 1 ≤ step) (hpg : 0 ≤ pg) (mp : Bool) (hb : ∀ q,0 ≤ q → q < pg → q % step = 0 → opV pg st ws q n mp = false) : leastV (if mp then openB pg st ws else freeB pg st ws) pg n step = -1 := by
 refine least_no h1 h2 hpg (fun l l0 hh => ?_)
 have := hb (l * step) l0 (by have := hh.1; omega) (Int.mul_emod_left l step)
 rw [(op_hits l0 h1 mp).2 hh] at this
 cases this
section
variable {pg st : Int} {n : Nat} (H : PgIn pg st n)
include H
end
end Go.Proofs.YtmafllcmkhgidaaGreatDoor
namespace Go.Proofs.YtmafllcmkhgidaaGreatDoor
def plLeadV (pg a : Int) (ws : List Int) : Int := if a = 0 then -1 else plWord pg (wAt ws a)
def plThrV (pg st p : Int) : Nat → Int → List Int → List Int → List Int × Bool
 | 0,_,l,_ => (l,false)
 | m + 1,a,l,ws => if plLeadV pg a ws = p then (l,true) else if plLeadV pg a ws = -1 then (l,false) else plThrV pg st p m (nA pg st (plLeadV pg a ws)) (l ++ [plLeadV pg a ws]) ws
def plJoinV (pg st h p q : Int) (ws : List Int) : List Int := if q = -1 then ws.set (if p = -1 then h else nA pg st p).toNat (q + 1) else (ws.set (if p = -1 then h else nA pg st p).toNat (q + 1)).set (vA pg st q).toNat (p + 1)
def plLinkV (pg st p c f : Int) (ws : List Int) : Bool × List Int := if headV pg st c f ≠ 0 ∧ isPage pg p = true then (true,plJoinV pg st (headV pg st c f) (-1) p (plJoinV pg st (headV pg st c f) p (plLeadV pg (headV pg st c f) ws) ws)) else (false,ws)
def plUnlinkV (pg st p c f : Int) (ws : List Int) : Bool × List Int := if isPage pg p = true ∧ (plThrV pg st p pg.toNat (headV pg st c f) [] ws).2 = true then (true,((plJoinV pg st (headV pg st c f) (lastO (plThrV pg st p pg.toNat (headV pg st c f) [] ws).1) (plLeadV pg (nA pg st p) ws) ws).set (nA pg st p).toNat 0).set (vA pg st p).toNat 0) else (false,ws)
def plFirstV (pg st c : Int) : Nat → Int → List Int → Int
 | 0,_,_ => -1
 | m + 1,f,ws => if plLeadV pg (headV pg st c f) ws = -1 then plFirstV pg st c m (f + 1) ws else plLeadV pg (headV pg st c f) ws
section
variable {pg st : Int} {n : Nat} (H : HdIn pg st n)
include H
theorem flat_plLead {a : Int} (h0 : 0 ≤ a) (ha : a < n) : Flat n (plLeadP pg a) (fun ws => (plLeadV pg a ws,ws)) := by
 unfold plLeadP plLeadV
 by_cases e : a = 0
 · simp only [if_pos e]; exact flat_pure n (-1)
 · simp only [if_neg e]; exact flat_bind (flat_read h0 ha) (fun x => flat_pure n (plWord pg x))
theorem lead_b (a : Int) (ws : List Int) : plLeadV pg a ws = -1 ∨ isPage pg (plLeadV pg a ws) = true := by
 unfold plLeadV
 split
 · exact .inl rfl
 · exact plWord_b H _
theorem flat_plThrN (p : Int) (m : Nat) : ∀ (a : Int) (l : List Int),0 ≤ a → a < n → Flat n (plThrN pg st p m a l) (fun ws => (plThrV pg st p m a l ws,ws)) := by
 induction m with
 | zero => intro a l _ _; exact flat_pure n (l,false)
 | succ m ih =>
   intro a l h0 ha
   refine flat_eq (flat_bindQ (Q:=fun q : Int => q = -1 ∨ isPage pg q = true) (flat_plLead H h0 ha) (fun ws _ => lead_b H a ws) (fun q hq => flat_ite (fun _ => flat_pure n (l,true)) (fun _ => flat_ite (fun _ => flat_pure n (l,false)) (fun hne => by
     have hp := hq.resolve_left hne
     have := (nv_b H hp).1
     exact ih (nA pg st q) (l ++ [q]) (by omega) this.2.1)))) (fun ws _ => ?_)
   show _ = (if plLeadV pg a ws = p then (l,true) else if plLeadV pg a ws = -1 then (l,false) else plThrV pg st p m (nA pg st (plLeadV pg a ws)) (l ++ [plLeadV pg a ws]) ws,ws)
   by_cases e : plLeadV pg a ws = p
   · simp only [if_pos e]
   · by_cases e2 : plLeadV pg a ws = -1
     · simp only [if_neg e,if_pos e2]
     · simp only [if_neg e,if_neg e2]
theorem flat_plThr (p c f : Int) : Flat n (plThrP pg st p c f) (fun ws => (plThrV pg st p pg.toNat (headV pg st c f) [] ws,ws)) := flat_plThrN H p _ _ _ (head_b H).1 (head_b H).2.1
theorem flat_plJoin {h p q : Int} (h0 : 0 ≤ h) (h1 : W64 h) (h2 : h < n) (hp : p = -1 ∨ isPage pg p = true) (hq : q = -1 ∨ isPage pg q = true) : Flat n (plJoinP pg st h p q) (fun ws => ((),plJoinV pg st h p q ws)) := by
 have first : Flat n (if p = -1 then writeP h (q + 1) else writeP (nA pg st p) (q + 1)) (fun ws => ((),ws.set (if p = -1 then h else nA pg st p).toNat (q + 1))) := by
   by_cases e : p = -1
   · simp only [if_pos e]; exact flat_write h0 h2 h1 (pageW H hq)
   · simp only [if_neg e]
     obtain ⟨⟨a,b,c⟩,_⟩ := nv_b H (hp.resolve_left e)
     exact flat_write (by omega) b c (pageW H hq)
 refine flat_eq (flat_bind first (fun _ => flat_ite (fun _ => flat_pure n ()) (fun hne => by
   obtain ⟨_,a,b,c⟩ := nv_b H (hq.resolve_left hne)
   exact flat_write (by omega) b c (pageW H hp)))) (fun ws _ => ?_)
 unfold plJoinV
 by_cases e : q = -1
 · simp only [if_pos e]
 · simp only [if_neg e]
theorem flat_plLink (p c f : Int) : Flat n (plLinkP pg st p c f) (plLinkV pg st p c f) := by
 unfold plLinkP
 by_cases hz : headV pg st c f = 0
 · rw [if_pos hz]
   exact flat_eq (flat_pure n false) (fun ws _ => by unfold plLinkV; rw [if_neg (by rintro ⟨a,_⟩; exact a hz)])
 rw [if_neg hz]
 cases hp : isPage pg p with
 | false => exact flat_eq (flat_pure n false) (fun ws _ => by unfold plLinkV; rw [if_neg (by rintro ⟨_,a⟩; rw [hp] at a; cases a)])
 | true =>
   rw [if_pos rfl]
   obtain ⟨b0,b1,b2⟩ := head_b (c:=c) (f:=f) H
   refine flat_eq (flat_bindQ (Q:=fun q : Int => q = -1 ∨ isPage pg q = true) (flat_plLead H b0 b1) (fun ws _ => lead_b H _ ws) (fun q hq => flat_bind (flat_plJoin H b0 b2 b1 (.inr hp) hq) (fun _ => flat_bind (flat_plJoin H b0 b2 b1 (.inl rfl) (.inr hp)) (fun _ => flat_pure n true)))) (fun ws _ => ?_)
   unfold plLinkV
   rw [if_pos ⟨hz,hp⟩]
theorem thr_pages (p : Int) (m : Nat) (ws : List Int) : ∀ (a : Int) (l : List Int),(∀ x ∈ l,isPage pg x = true) → ∀ x ∈ (plThrV pg st p m a l ws).1,isPage pg x = true := by
 induction m with
 | zero => intro a l hl; exact hl
 | succ m ih =>
   intro a l hl
   unfold plThrV
   split
   · exact hl
   · split
     · exact hl
     · rename_i hne
       exact ih _ _ (fun x hx => by
         rcases List.mem_append.1 hx with h | h
         · exact hl x h
         · rw [List.mem_singleton.1 h]; exact (lead_b H a ws).resolve_left hne)
theorem flat_plUnlink (p c f : Int) : Flat n (plUnlinkP pg st p c f) (plUnlinkV pg st p c f) := by
 unfold plUnlinkP
 cases hp : isPage pg p with
 | false => exact flat_eq (flat_pure n false) (fun ws _ => by unfold plUnlinkV; rw [if_neg (by rintro ⟨a,_⟩; rw [hp] at a; cases a)])
 | true =>
   rw [if_pos rfl]
   obtain ⟨b0,b1,b2⟩ := head_b (c:=c) (f:=f) H
   obtain ⟨⟨a0,a1,a2⟩,c0,c1,c2⟩ := nv_b H hp
   refine flat_eq (flat_bindQ (Q:=fun r : List Int × Bool => ∀ x ∈ r.1,isPage pg x = true) (flat_plThr H p c f) (fun ws _ => thr_pages H _ _ _ _ _ (fun x hx => by cases hx)) (fun r hr => flat_ite (fun _ => flat_bindQ (Q:=fun q : Int => q = -1 ∨ isPage pg q = true) (flat_plLead H (by omega) a1) (fun ws _ => lead_b H _ ws) (fun q hq => flat_bind (flat_plJoin H b0 b2 b1 (lastO_b H hr) hq) (fun _ => flat_bind (flat_write (by omega) a1 a2 (by unfold W64; omega)) (fun _ => flat_bind (flat_write (by omega) c1 c2 (by unfold W64; omega)) (fun _ => flat_pure n true))))) (fun _ => flat_pure n false))) (fun ws _ => ?_)
   unfold plUnlinkV
   by_cases e : (plThrV pg st p pg.toNat (headV pg st c f) [] ws).2 = true
   · simp only [if_pos e,if_pos (And.intro hp e)]
   · simp only [if_neg e]; rw [if_neg (fun q => e q.2)]
theorem flat_plFirstN (c : Int) (m : Nat) : ∀ f,Flat n (plFirstN pg st c m f) (fun ws => (plFirstV pg st c m f ws,ws)) := by
 induction m with
 | zero => intro f; exact flat_pure n (-1)
 | succ m ih =>
   intro f
   obtain ⟨b0,b1,b2⟩ := head_b (c:=c) (f:=f) H
   refine flat_eq (flat_bind (flat_plLead H b0 b1) (fun q => flat_ite (fun _ => ih (f + 1)) (fun _ => flat_pure n q))) (fun ws _ => ?_)
   show _ = (if plLeadV pg (headV pg st c f) ws = -1 then plFirstV pg st c m (f + 1) ws else plLeadV pg (headV pg st c f) ws,ws)
   by_cases e : plLeadV pg (headV pg st c f) ws = -1
   · simp only [if_pos e]
   · simp only [if_neg e]
end
def isHd (pg st a : Int) : Prop := headsV st pg ≤ a ∧ a < headsV st pg + 62
theorem head_hd {pg st c f : Int} (h : headV pg st c f ≠ 0) : isHd pg st (headV pg st c f) ∧ 0 ≤ c ∧ c ≤ 4 ∧ 1 ≤ f ∧ f ≤ slotsV c := by
 unfold headV at h ⊢
 split
 · rename_i g
   refine ⟨?_,g.1,g.2.1,g.2.2.1,g.2.2.2⟩
   obtain ⟨c0,c4,f1,fs⟩ := g
   have : c = 0 ∨ c = 1 ∨ c = 2 ∨ c = 3 ∨ c = 4 := by omega
   unfold isHd
   rcases this with rfl | rfl | rfl | rfl | rfl <;> simp [slotsV,aheadV] at fs ⊢ <;> omega
 · rename_i g; rw [if_neg g] at h; exact absurd rfl h
theorem head_inj {pg st c f c' f' : Int} (h : headV pg st c f ≠ 0) (e : headV pg st c f = headV pg st c' f') : c = c' ∧ f = f' := by
 have g := (head_hd h).2
 have g' := (head_hd (e ▸ h)).2
 unfold headV at e
 rw [if_pos ⟨g.1,g.2.1,g.2.2.1,g.2.2.2⟩,if_pos ⟨g'.1,g'.2.1,g'.2.2.1,g'.2.2.2⟩] at e
 obtain ⟨c0,c4,f1,fs⟩ := g
 obtain ⟨d0,d4,k1,ks⟩ := g'
 have h1 : c = 0 ∨ c = 1 ∨ c = 2 ∨ c = 3 ∨ c = 4 := by omega
 have h2 : c' = 0 ∨ c' = 1 ∨ c' = 2 ∨ c' = 3 ∨ c' = 4 := by omega
 rcases h1 with rfl | rfl | rfl | rfl | rfl <;> rcases h2 with rfl | rfl | rfl | rfl | rfl <;> simp [slotsV,aheadV] at fs ks e ⊢ <;> omega
def hd1 : List Int → Int
 | [] => 0
 | p :: _ => p + 1
def fst1 : List Int → Int
 | [] => -1
 | p :: _ => p
theorem hd1_fst (l : List Int) : hd1 l = fst1 l + 1 := by cases l <;> rfl
def nxL : List Int → Int → Int
 | [],_ => 0
 | x :: t,p => if x = p then hd1 t else nxL t p
def pvL : Int → List Int → Int → Int
 | _,[],_ => 0
 | k,x :: t,p => if x = p then k else pvL (x + 1) t p
theorem lastO_snoc (l : List Int) (x : Int) : lastO (l ++ [x]) = x := by simp [lastO,List.getD]
theorem lastO_cons (x : Int) (l : List Int) (h : l ≠ []) : lastO (x :: l) = lastO l := by
 obtain ⟨s,y,rfl⟩ : ∃ s y,l = s ++ [y] := ⟨l.dropLast,l.getLast h,(List.dropLast_concat_getLast h).symm⟩
 rw [lastO_snoc,show x :: (s ++ [y]) = (x :: s) ++ [y] from rfl,lastO_snoc]
theorem lastO_app (l m : List Int) (h : m ≠ []) : lastO (l ++ m) = lastO m := by
 obtain ⟨s,y,rfl⟩ : ∃ s y,m = s ++ [y] := ⟨m.dropLast,m.getLast h,(List.dropLast_concat_getLast h).symm⟩
 rw [lastO_snoc,← List.append_assoc,lastO_snoc]
theorem lastO_mem (l : List Int) (h : l ≠ []) : lastO l ∈ l := by
 obtain ⟨s,y,rfl⟩ : ∃ s y,l = s ++ [y] := ⟨l.dropLast,l.getLast h,(List.dropLast_concat_getLast h).symm⟩
 rw [lastO_snoc]; simp
theorem nxL_at (u v : List Int) (r : Int) (h : r ∉ u) : nxL (u ++ r :: v) r = hd1 v := by
 induction u with
 | nil => show (if r = r then hd1 v else _) = _; rw [if_pos rfl]
 | cons x u ih =>
   show (if x = r then _ else nxL (u ++ r :: v) r) = _
   rw [if_neg (fun e => h (by simp [e])),ih (fun q => h (by simp [q]))]
theorem pvL_at (u v : List Int) (r : Int) (h : r ∉ u) : ∀ k,pvL k (u ++ r :: v) r = if u = [] then k else lastO u + 1 := by
 induction u with
 | nil => intro k; show (if r = r then k else _) = _; rw [if_pos rfl,if_pos rfl]
 | cons x u ih =>
   intro k
   show (if x = r then k else pvL (x + 1) (u ++ r :: v) r) = _
   rw [if_neg (fun e => h (by simp [e])),ih (fun q => h (by simp [q]))]
   by_cases hu : u = []
   · subst hu; rfl
   · rw [if_neg hu,if_neg (show ¬ x :: u = [] by simp),lastO_cons x u hu]
theorem pvL0_at (u v : List Int) (r : Int) (h : r ∉ u) : pvL 0 (u ++ r :: v) r = lastO u + 1 := by
 rw [pvL_at u v r h]
 split
 · rename_i e; subst e; rfl
 · rfl
theorem split_mem {l : List Int} {p : Int} (h : p ∈ l) : ∃ s t,l = s ++ p :: t ∧ p ∉ s := by
 induction l with
 | nil => cases h
 | cons x l ih =>
   by_cases e : x = p
   · exact ⟨[],l,by rw [e]; rfl,by simp⟩
   · obtain ⟨s,t,rfl,hs⟩ := ih ((List.mem_cons.1 h).resolve_left (fun q => e q.symm))
     exact ⟨x :: s,t,rfl,by simp only [List.mem_cons]; rintro (q | q); exact e q.symm; exact hs q⟩
structure Ln (pg st : Int) (G : Int → List Int) (ws : List Int) : Prop where
 head : ∀ a,isHd pg st a → wAt ws a = hd1 (G a)
 page : ∀ a,isHd pg st a → ∀ p ∈ G a,isPage pg p = true
 nodup : ∀ a,isHd pg st a → (G a).Nodup
 apart : ∀ a b p,isHd pg st a → isHd pg st b → p ∈ G a → p ∈ G b → a = b
 next : ∀ a p,isHd pg st a → p ∈ G a → wAt ws (nA pg st p) = nxL (G a) p
 prev : ∀ a p,isHd pg st a → p ∈ G a → wAt ws (vA pg st p) = pvL 0 (G a) p
 free : ∀ p,isPage pg p = true → (∀ a,isHd pg st a → p ∉ G a) → wAt ws (nA pg st p) = 0 ∧ wAt ws (vA pg st p) = 0
structure LOff (pg st : Int) (ws ws' : List Int) : Prop where
 len : ws'.length = ws.length
 off : ∀ i : Int,0 ≤ i → ¬ isHd pg st i → (∀ p,isPage pg p = true → i ≠ nA pg st p ∧ i ≠ vA pg st p) → wAt ws' i = wAt ws i
theorem LOff.refl (pg st : Int) (ws : List Int) : LOff pg st ws ws := ⟨rfl,fun _ _ _ _ => rfl⟩
theorem LOff.trans {pg st : Int} {a b c : List Int} (h : LOff pg st a b) (g : LOff pg st b c) : LOff pg st a c := ⟨g.len.trans h.len,fun i h0 h1 h2 => (g.off i h0 h1 h2).trans (h.off i h0 h1 h2)⟩
theorem Ln.uniq {pg st : Int} {G : Int → List Int} {ws ws' : List Int} (h : Ln pg st G ws) (g : Ln pg st G ws') (o : LOff pg st ws ws') : ws' = ws :=
 words_ext o.len (fun i h0 _ => by
   by_cases e : isHd pg st i
   · rw [h.head i e,g.head i e]
   by_cases e2 : ∃ p,isPage pg p = true ∧ (i = nA pg st p ∨ i = vA pg st p)
   · obtain ⟨p,hp,hi⟩ := e2
     by_cases m : ∃ a,isHd pg st a ∧ p ∈ G a
     · obtain ⟨a,ha,m⟩ := m
       rcases hi with rfl | rfl
       · rw [h.next a p ha m,g.next a p ha m]
       · rw [h.prev a p ha m,g.prev a p ha m]
     · have m' : ∀ a,isHd pg st a → p ∉ G a := fun a ha q => m ⟨a,ha,q⟩
       rcases hi with rfl | rfl
       · rw [(h.free p hp m').1,(g.free p hp m').1]
       · rw [(h.free p hp m').2,(g.free p hp m').2]
   · exact o.off i h0 e (fun p hp => ⟨fun q => e2 ⟨p,hp,.inl q⟩,fun q => e2 ⟨p,hp,.inr q⟩⟩))
section
variable {pg st : Int} {n : Nat} (H : HdIn pg st n)
include H
theorem hd_b {a : Int} (h : isHd pg st a) : 4 ≤ a ∧ a < n ∧ W64 a := by
 have h1 := H.st1; have h2 := H.st2; have h3 := H.top62; have h4 := H.pg1; have h5 := H.pg2
 unfold isHd headsV W64 at *
 unfold chunksV tableV at *
 omega
theorem hd_nv {a p : Int} (h : isHd pg st a) (hp : isPage pg p = true) : a ≠ nA pg st p ∧ a ≠ vA pg st p := by
 have := isPage_iff.1 hp; have h4 := H.pg1
 unfold isHd headsV at h
 unfold nA vA
 omega
theorem nv_ne {p q : Int} (hp : isPage pg p = true) (hq : isPage pg q = true) : nA pg st p ≠ vA pg st q := by
 have := isPage_iff.1 hp; have := isPage_iff.1 hq
 unfold nA vA; omega
theorem word_of {x : Int} (h : isPage pg x = true) : plWord pg (x + 1) = x := by
 have := isPage_iff.1 h; have h5 := H.pg2
 unfold plWord
 rw [show IntKind.i64.wrap (x + 1 - 1) = x by rw [show x + 1 - 1 = x by omega]; exact wrap_in (by omega) (by omega),if_pos h]
theorem word_zero : plWord pg 0 = -1 := by
 unfold plWord
 rw [show IntKind.i64.wrap (0 - 1) = -1 from wrap_in (by omega) (by omega),if_neg (by rw [isPage_not.2 (by omega)]; simp)]
theorem word_hd {l : List Int} (h : ∀ p ∈ l,isPage pg p = true) : plWord pg (hd1 l) = fst1 l := by
 cases l with
 | nil => exact word_zero H
 | cons x t => exact word_of H (h x (by simp))
theorem lead_hd {l : List Int} {a : Int} {ws : List Int} (ha : 0 < a) (hw : wAt ws a = hd1 l) (h : ∀ p ∈ l,isPage pg p = true) : plLeadV pg a ws = fst1 l := by
 unfold plLeadV
 rw [if_neg (by omega),hw]
 exact word_hd H h
theorem short {l : List Int} (h : ∀ p ∈ l,isPage pg p = true) (hn : l.Nodup) : l.length ≤ pg.toNat :=
 nodup_short pg.toNat l hn (fun p hp => by have := isPage_iff.1 (h p hp); omega)
theorem thr_go {p a : Int} {G : Int → List Int} {ws : List Int} (L : Ln pg st G ws) (ha : isHd pg st a) (m : Nat) : ∀ (s t : List Int) (at' : Int),G a = s ++ t → 0 < at' → wAt ws at' = hd1 t →
   (∀ t1 t2,t = t1 ++ p :: t2 → p ∉ t1 → t1.length < m → plThrV pg st p m at' s ws = (s ++ t1,true)) ∧
   (p ∉ t → t.length ≤ m → (plThrV pg st p m at' s ws).1 = s ++ t ∧ (p ≠ -1 → (plThrV pg st p m at' s ws).2 = false)) := by
 induction m with
 | zero =>
   intro s t at' hG h0 hw
   refine ⟨fun t1 t2 _ _ h => absurd h (by omega),fun _ h => ?_⟩
   have : t = [] := List.length_eq_zero_iff.1 (by omega)
   subst this
   exact ⟨by show s = s ++ []; simp,fun _ => rfl⟩
 | succ m ih =>
   intro s t at' hG h0 hw
   have hpt : ∀ x ∈ t,isPage pg x = true := fun x hx => L.page a ha x (by rw [hG]; simp [hx])
   have hl := lead_hd H h0 hw hpt
   unfold plThrV
   rw [hl]
   cases t with
   | nil =>
     refine ⟨fun t1 t2 e _ _ => by simp at e,fun _ _ => ?_⟩
     rw [show fst1 [] = -1 from rfl]
     by_cases e : (-1 : Int) = p
     · simp only [if_pos e]; exact ⟨by simp,fun q => absurd e.symm q⟩
     · simp only [if_neg e,if_true]; exact ⟨by simp,fun _ => by simp⟩
   | cons x t =>
     have hx := hpt x (by simp)
     have hxp := isPage_iff.1 hx
     have hxm : x ∈ G a := by rw [hG]; simp
     have hnd := L.nodup a ha
     rw [hG] at hnd
     have hxs : x ∉ s := fun q => by
       have := List.nodup_append.1 hnd
       exact this.2.2 x q x (by simp) rfl
     have hnx : wAt ws (nA pg st x) = hd1 t := by rw [L.next a x ha hxm,hG,nxL_at s t x hxs]
     have I := ih (s ++ [x]) t (nA pg st x) (by rw [hG]; simp) (by have := (nv_b H hx).1.1; omega) hnx
     show (∀ t1 t2,x :: t = t1 ++ p :: t2 → p ∉ t1 → t1.length < m + 1 → (if x = p then (s,true) else if x = -1 then (s,false) else plThrV pg st p m (nA pg st x) (s ++ [x]) ws) = (s ++ t1,true)) ∧ (p ∉ x :: t → (x :: t).length ≤ m + 1 → (if x = p then (s,true) else if x = -1 then (s,false) else plThrV pg st p m (nA pg st x) (s ++ [x]) ws).1 = s ++ x :: t ∧ (p ≠ -1 → (if x = p then (s,true) else if x = -1 then (s,false) else plThrV pg st p m (nA pg st x) (s ++ [x]) ws).2 = false))
     refine ⟨fun t1 t2 e hn hm => ?_,fun hn hm => ?_⟩
     · cases t1 with
       | nil =>
         have : x = p := by simp at e; exact e.1
         rw [if_pos this]; simp
       | cons y t1 =>
         simp only [List.cons_append,List.cons.injEq] at e
         obtain ⟨rfl,e⟩ := e
         rw [if_neg (fun q => hn (by simp [q])),if_neg (by omega),I.1 t1 t2 e (fun q => hn (by simp [q])) (by simp at hm; omega)]
         simp
     · have hne : x ≠ p := fun q => hn (by simp [q])
       rw [if_neg hne,if_neg (by omega)]
       have := I.2 (fun q => hn (by simp [q])) (by simp at hm; omega)
       exact ⟨by rw [this.1]; simp,this.2⟩
theorem thr_met {p a : Int} {G : Int → List Int} {ws : List Int} (L : Ln pg st G ws) (ha : isHd pg st a) {s t : List Int} (hG : G a = s ++ p :: t) (hs : p ∉ s) : plThrV pg st p pg.toNat a [] ws = (s,true) := by
 have hl := short H (L.page a ha) (L.nodup a ha)
 rw [hG] at hl
 simp at hl
 have := (thr_go H (p:=p) L ha pg.toNat [] (G a) a rfl (by have := (hd_b H ha).1; omega) (L.head a ha)).1 s t hG hs (by omega)
 simpa using this
theorem thr_all {p a : Int} {G : Int → List Int} {ws : List Int} (L : Ln pg st G ws) (ha : isHd pg st a) (hp : p ∉ G a) : (plThrV pg st p pg.toNat a [] ws).1 = G a ∧ (p ≠ -1 → (plThrV pg st p pg.toNat a [] ws).2 = false) := by
 have := (thr_go H (p:=p) L ha pg.toNat [] (G a) a rfl (by have := (hd_b H ha).1; omega) (L.head a ha)).2 hp (short H (L.page a ha) (L.nodup a ha))
 simpa using this
theorem thr_none {p : Int} (ws : List Int) : (plThrV pg st p pg.toNat 0 [] ws).1 = [] ∧ (p ≠ -1 → (plThrV pg st p pg.toNat 0 [] ws).2 = false) := by
 obtain ⟨m,hm⟩ : ∃ m,pg.toNat = m + 1 := ⟨pg.toNat - 1,by have := H.pg1; omega⟩
 rw [hm]
 have h0 : plLeadV pg 0 ws = -1 := by unfold plLeadV; rw [if_pos rfl]
 unfold plThrV
 rw [h0]
 by_cases e : (-1 : Int) = p
 · rw [if_pos e]; exact ⟨rfl,fun q => absurd e.symm q⟩
 · rw [if_neg e,if_pos rfl]; exact ⟨rfl,fun _ => rfl⟩
theorem join_at {h p q : Int} (hh : isHd pg st h) (hp : p = -1 ∨ isPage pg p = true) (hq : q = -1 ∨ isPage pg q = true) {ws : List Int} (hn : ws.length = n) {i : Int} (hi : 0 ≤ i) :
   wAt (plJoinV pg st h p q ws) i = if q ≠ -1 ∧ i = vA pg st q then p + 1 else if i = (if p = -1 then h else nA pg st p) then q + 1 else wAt ws i := by
 have hb : 4 ≤ (if p = -1 then h else nA pg st p) ∧ (if p = -1 then h else nA pg st p) < n := by
   by_cases e : p = -1
   · rw [if_pos e]; exact ⟨(hd_b H hh).1,(hd_b H hh).2.1⟩
   · rw [if_neg e]; have := (nv_b H (hp.resolve_left e)).1; exact ⟨this.1,this.2.1⟩
 unfold plJoinV
 by_cases e : q = -1
 · rw [if_pos e,wAt_set (by omega) hi (by omega),if_neg (fun z : q ≠ -1 ∧ i = vA pg st q => z.1 e)]
 · have := (nv_b H (hq.resolve_left e)).2
   rw [if_neg e,wAt_set (by omega) hi (by simp; omega),wAt_set (by omega) hi (by omega)]
   by_cases e2 : i = vA pg st q
   · rw [if_pos e2,if_pos ⟨e,e2⟩]
   · rw [if_neg e2,if_neg (fun z : q ≠ -1 ∧ i = vA pg st q => e2 z.2)]
theorem join_len (h p q : Int) (ws : List Int) : (plJoinV pg st h p q ws).length = ws.length := by unfold plJoinV; split <;> simp
end
def updG (G : Int → List Int) (a : Int) (l : List Int) : Int → List Int := fun b => if b = a then l else G b
theorem updG_at (G : Int → List Int) (a : Int) (l : List Int) : updG G a l a = l := if_pos rfl
theorem updG_ne (G : Int → List Int) (a : Int) (l : List Int) {b : Int} (h : b ≠ a) : updG G a l b = G b := if_neg h
section
variable {pg st : Int} {n : Nat} (H : HdIn pg st n)
include H
theorem link_ln {c f p : Int} {G : Int → List Int} {ws : List Int} (L : Ln pg st G ws) (hn : ws.length = n) (hz : headV pg st c f ≠ 0) (hp : isPage pg p = true) (hf : ∀ a,isHd pg st a → p ∉ G a) :
   Ln pg st (updG G (headV pg st c f) (p :: G (headV pg st c f))) (plLinkV pg st p c f ws).2 ∧ LOff pg st ws (plLinkV pg st p c f ws).2 := by
 have hv : plLinkV pg st p c f ws = (true,plJoinV pg st (headV pg st c f) (-1) p (plJoinV pg st (headV pg st c f) p (plLeadV pg (headV pg st c f) ws) ws)) := by unfold plLinkV; rw [if_pos ⟨hz,hp⟩]
 have ha := (head_hd hz).1
 rw [hv]
 generalize headV pg st c f = a at ha hz
 show Ln pg st (updG G a (p :: G a)) (plJoinV pg st a (-1) p (plJoinV pg st a p (plLeadV pg a ws) ws)) ∧ LOff pg st ws (plJoinV pg st a (-1) p (plJoinV pg st a p (plLeadV pg a ws) ws))
 have ha4 := (hd_b H ha).1
 rw [lead_hd H (by omega) (L.head a ha) (L.page a ha)]
 have hq : fst1 (G a) = -1 ∨ isPage pg (fst1 (G a)) = true := by
   cases e : G a with
   | nil => exact .inl rfl
   | cons x t => exact .inr (L.page a ha x (by rw [e]; simp))
 have hpp := isPage_iff.1 hp
 have hne : p ≠ -1 := by omega
 have val : ∀ i : Int,0 ≤ i → wAt (plJoinV pg st a (-1) p (plJoinV pg st a p (fst1 (G a)) ws)) i = if i = vA pg st p then 0 else if i = a then p + 1 else if fst1 (G a) ≠ -1 ∧ i = vA pg st (fst1 (G a)) then p + 1 else if i = nA pg st p then hd1 (G a) else wAt ws i := fun i hi => by
   rw [join_at H ha (.inl rfl) (.inr hp) (by rw [join_len H]; exact hn) hi,join_at H ha (.inr hp) hq hn hi,if_pos rfl,if_neg hne,hd1_fst]
   by_cases e : i = vA pg st p
   · rw [if_pos ⟨hne,e⟩,if_pos e]; omega
   · rw [if_neg (fun z : p ≠ -1 ∧ i = vA pg st p => e z.2),if_neg e]
 have hlen : (plJoinV pg st a (-1) p (plJoinV pg st a p (fst1 (G a)) ws)).length = ws.length := by rw [join_len H,join_len H]
 generalize plJoinV pg st a (-1) p (plJoinV pg st a p (fst1 (G a)) ws) = xs at val hlen
 have hfa := hf a ha
 have qmem : fst1 (G a) ≠ -1 → fst1 (G a) ∈ G a := fun e => by
   cases e2 : G a with
   | nil => rw [e2] at e; exact absurd rfl e
   | cons x t => simp [fst1]
 have pos1 := fun (b : Int) (hb : isHd pg st b) => (hd_b H hb).1
 have posn := fun (r : Int) (hr : isPage pg r = true) => (nv_b H hr).1.1
 have posv := fun (r : Int) (hr : isPage pg r = true) => (nv_b H hr).2.1
 have injn : ∀ r,nA pg st r = nA pg st p → r = p := fun r e => by unfold nA at e; omega
 have injv : ∀ r s,vA pg st r = vA pg st s → r = s := fun r s e => by unfold vA at e; omega
 refine ⟨⟨fun b hb => ?_,fun b hb r hr => ?_,fun b hb => ?_,fun b b' r hb hb' hr hr' => ?_,fun b r hb hr => ?_,fun b r hb hr => ?_,fun r hr hno => ?_⟩,?_,fun i h0 h1 h2 => ?_⟩
 · have nv := hd_nv H hb hp
   rw [val b (by have := pos1 b hb; omega),if_neg nv.2]
   by_cases e : b = a
   · rw [if_pos e,e,updG_at]; rfl
   · rw [if_neg e,updG_ne _ _ _ e,if_neg (fun z => (hd_nv H hb (L.page a ha _ (qmem z.1))).2 z.2),if_neg nv.1]
     exact L.head b hb
 · by_cases e : b = a
   · subst e
     rw [updG_at] at hr
     rcases List.mem_cons.1 hr with rfl | hr
     · exact hp
     · exact L.page b hb r hr
   · rw [updG_ne _ _ _ e] at hr; exact L.page b hb r hr
 · by_cases e : b = a
   · subst e
     rw [updG_at]
     exact List.nodup_cons.2 ⟨hfa,L.nodup b hb⟩
   · rw [updG_ne _ _ _ e]; exact L.nodup b hb
 · have cas : ∀ b,isHd pg st b → r ∈ updG G a (p :: G a) b → (b = a ∧ r = p) ∨ r ∈ G b := fun b hb hr => by
     by_cases e : b = a
     · subst e
       rw [updG_at] at hr
       rcases List.mem_cons.1 hr with h | h
       · exact .inl ⟨rfl,h⟩
       · exact .inr h
     · rw [updG_ne _ _ _ e] at hr; exact .inr hr
   rcases cas b hb hr with ⟨e,h⟩ | h
   · rcases cas b' hb' hr' with ⟨e',_⟩ | h'
     · rw [e,e']
     · rw [h] at h'; exact absurd h' (hf b' hb')
   · rcases cas b' hb' hr' with ⟨e',h'⟩ | h'
     · rw [h'] at h; exact absurd h (hf b hb)
     · exact L.apart b b' r hb hb' h h'
 · have hrp : isPage pg r = true := by
     by_cases e : b = a
     · subst e
       rw [updG_at] at hr
       rcases List.mem_cons.1 hr with rfl | hr
       · exact hp
       · exact L.page b hb r hr
     · rw [updG_ne _ _ _ e] at hr; exact L.page b hb r hr
   have p0 := posn r hrp
   rw [val _ (by omega),if_neg (nv_ne H hrp hp),if_neg (fun e => (hd_nv H ha hrp).1 e.symm),if_neg (fun z => nv_ne H hrp (L.page a ha _ (qmem z.1)) z.2)]
   by_cases e : r = p
   · subst e
     have : b = a := by
       rcases Classical.em (b = a) with h | h
       · exact h
       · rw [updG_ne _ _ _ h] at hr; exact absurd hr (hf b hb)
     subst this
     rw [if_pos rfl,updG_at]
     exact (nxL_at [] (G b) r (by simp)).symm
   · rw [if_neg (fun z => e (injn r z))]
     by_cases e2 : b = a
     · subst e2
       rw [updG_at] at hr ⊢
       have hr := (List.mem_cons.1 hr).resolve_left e
       rw [L.next b r hb hr]
       show _ = if p = r then _ else nxL (G b) r
       rw [if_neg (fun z => e z.symm)]
     · rw [updG_ne _ _ _ e2] at hr ⊢
       exact L.next b r hb hr
 · have hrp : isPage pg r = true := by
     by_cases e : b = a
     · subst e
       rw [updG_at] at hr
       rcases List.mem_cons.1 hr with rfl | hr
       · exact hp
       · exact L.page b hb r hr
     · rw [updG_ne _ _ _ e] at hr; exact L.page b hb r hr
   have p0 := posv r hrp
   rw [val _ (by omega)]
   by_cases e : r = p
   · subst e
     have : b = a := by
       rcases Classical.em (b = a) with h | h
       · exact h
       · rw [updG_ne _ _ _ h] at hr; exact absurd hr (hf b hb)
     subst this
     rw [if_pos rfl,updG_at]
     exact (pvL0_at [] (G b) r (by simp)).symm
   · rw [if_neg (fun z => e (injv r p z)),if_neg (fun z => (hd_nv H ha hrp).2 z.symm)]
     by_cases e2 : b = a
     · subst e2
       rw [updG_at] at hr ⊢
       have hr := (List.mem_cons.1 hr).resolve_left e
       have e5 : pvL 0 (p :: G b) r = pvL (p + 1) (G b) r := by show (if p = r then 0 else pvL (p + 1) (G b) r) = _; rw [if_neg (fun z => e z.symm)]
       rw [e5]
       by_cases e3 : r = fst1 (G b)
       · have hq1 : fst1 (G b) ≠ -1 := by have := isPage_iff.1 hrp; omega
         rw [if_pos ⟨hq1,by rw [e3]⟩]
         cases e4 : G b with
         | nil => rw [e4] at hr; cases hr
         | cons x t =>
           rw [e4] at e3
           have : x = r := e3.symm
           show _ = if x = r then p + 1 else _
           rw [if_pos this]
       · rw [if_neg (fun z => e3 (injv _ _ z.2)),if_neg (fun z => (nv_ne H hp hrp) z.symm),L.prev b r hb hr]
         cases e4 : G b with
         | nil => rw [e4] at hr; cases hr
         | cons x t =>
           rw [e4] at e3
           have : x ≠ r := fun z => e3 z.symm
           show (if x = r then 0 else pvL (x + 1) t r) = if x = r then p + 1 else pvL (x + 1) t r
           rw [if_neg this,if_neg this]
     · rw [updG_ne _ _ _ e2] at hr ⊢
       rw [if_neg (fun z => e2 (L.apart b a r hb ha hr (by rw [injv _ _ z.2]; exact qmem z.1))),if_neg (fun z => (nv_ne H hp hrp) z.symm)]
       exact L.prev b r hb hr
 · have hrne : r ≠ p := fun e => hno a ha (by rw [updG_at,e]; simp)
   have hno' : ∀ b,isHd pg st b → r ∉ G b := fun b hb q => by
     by_cases e : b = a
     · subst e; exact hno b hb (by rw [updG_at]; simp [q])
     · exact hno b hb (by rw [updG_ne _ _ _ e]; exact q)
   have := L.free r hr hno'
   have p0 := posn r hr
   have p1 := posv r hr
   rw [val _ (by omega),val _ (by omega)]
   rw [if_neg (nv_ne H hr hp),if_neg (fun z => (hd_nv H ha hr).1 z.symm),if_neg (fun z => nv_ne H hr (L.page a ha _ (qmem z.1)) z.2),if_neg (fun z => hrne (injn r z))]
   rw [if_neg (fun z => hrne (injv r p z)),if_neg (fun z => (hd_nv H ha hr).2 z.symm),if_neg (fun z => hno' a ha (by rw [injv _ _ z.2]; exact qmem z.1)),if_neg (fun z => (nv_ne H hp hr) z.symm)]
   exact this
 · exact hlen
 · rw [val i h0,if_neg (h2 p hp).2,if_neg (fun e => h1 (by rw [e]; exact ha)),if_neg (fun z => (h2 _ (L.page a ha _ (qmem z.1))).2 z.2),if_neg (h2 p hp).1]
theorem unlink_ln {c f p : Int} {G : Int → List Int} {ws : List Int} (L : Ln pg st G ws) (hn : ws.length = n) (hz : headV pg st c f ≠ 0) {s t : List Int} (hG : G (headV pg st c f) = s ++ p :: t) (hs : p ∉ s) :
   (plUnlinkV pg st p c f ws).1 = true ∧ Ln pg st (updG G (headV pg st c f) (s ++ t)) (plUnlinkV pg st p c f ws).2 ∧ LOff pg st ws (plUnlinkV pg st p c f ws).2 := by
 have ha := (head_hd hz).1
 have hpm : p ∈ G (headV pg st c f) := by rw [hG]; simp
 have hp := L.page _ ha p hpm
 have thr := thr_met H L ha hG hs
 have hv : plUnlinkV pg st p c f ws = (true,((plJoinV pg st (headV pg st c f) (lastO s) (plLeadV pg (nA pg st p) ws) ws).set (nA pg st p).toNat 0).set (vA pg st p).toNat 0) := by
   unfold plUnlinkV
   rw [thr,if_pos ⟨hp,rfl⟩]
 rw [hv]
 refine ⟨rfl,?_⟩
 generalize headV pg st c f = a at ha hz hG hpm
 show Ln pg st (updG G a (s ++ t)) (((plJoinV pg st a (lastO s) (plLeadV pg (nA pg st p) ws) ws).set (nA pg st p).toNat 0).set (vA pg st p).toNat 0) ∧ LOff pg st ws (((plJoinV pg st a (lastO s) (plLeadV pg (nA pg st p) ws) ws).set (nA pg st p).toNat 0).set (vA pg st p).toNat 0)
 have hpgl := L.page a ha
 have hnd := L.nodup a ha
 rw [hG] at hpgl hnd
 have hna := List.nodup_append.1 hnd
 have hpt : p ∉ t := (List.nodup_cons.1 hna.2.1).1
 have hst : ∀ x,x ∈ s → x ∉ t := fun x h1 h2 => hna.2.2 x h1 x (by simp [h2]) rfl
 have hnp : wAt ws (nA pg st p) = hd1 t := by rw [L.next a p ha hpm,hG,nxL_at s t p hs]
 obtain ⟨⟨a0,a1,a2⟩,c0,c1,c2⟩ := nv_b H hp
 have htp : ∀ x ∈ t,isPage pg x = true := fun x hx => hpgl x (by simp [hx])
 have hsp : ∀ x ∈ s,isPage pg x = true := fun x hx => hpgl x (by simp [hx])
 rw [lead_hd H (by omega) hnp htp]
 have hq : fst1 t = -1 ∨ isPage pg (fst1 t) = true := by
   cases t with
   | nil => exact .inl rfl
   | cons x t => exact .inr (htp x (by simp))
 have hb := lastO_b H hsp
 have val : ∀ i : Int,0 ≤ i → wAt (((plJoinV pg st a (lastO s) (fst1 t) ws).set (nA pg st p).toNat 0).set (vA pg st p).toNat 0) i = if i = vA pg st p then 0 else if i = nA pg st p then 0 else if fst1 t ≠ -1 ∧ i = vA pg st (fst1 t) then lastO s + 1 else if i = (if lastO s = -1 then a else nA pg st (lastO s)) then hd1 t else wAt ws i := fun i hi => by
   rw [wAt_set (by omega) hi (by simp [join_len H]; omega),wAt_set (by omega) hi (by rw [join_len H]; omega),join_at H ha hb hq hn hi,hd1_fst]
 have hlen : (((plJoinV pg st a (lastO s) (fst1 t) ws).set (nA pg st p).toNat 0).set (vA pg st p).toNat 0).length = ws.length := by simp [join_len H]
 generalize ((plJoinV pg st a (lastO s) (fst1 t) ws).set (nA pg st p).toNat 0).set (vA pg st p).toNat 0 = xs at val hlen
 have hpp := isPage_iff.1 hp
 have pos1 := fun (b : Int) (hb : isHd pg st b) => (hd_b H hb).1
 have posn := fun (r : Int) (hr : isPage pg r = true) => (nv_b H hr).1.1
 have posv := fun (r : Int) (hr : isPage pg r = true) => (nv_b H hr).2.1
 have injn : ∀ r s,nA pg st r = nA pg st s → r = s := fun r s e => by unfold nA at e; omega
 have injv : ∀ r s,vA pg st r = vA pg st s → r = s := fun r s e => by unfold vA at e; omega
 have qmem : fst1 t ≠ -1 → fst1 t ∈ t := fun e => by
   cases t with
   | nil => exact absurd rfl e
   | cons x t => simp [fst1]
 have bmem : lastO s ≠ -1 → lastO s ∈ s := fun e => lastO_mem s (fun z => by rw [z] at e; exact e rfl)
 have snil : lastO s = -1 → s = [] := fun e => by
   rcases Classical.em (s = []) with z | z
   · exact z
   · have := isPage_iff.1 (hsp _ (lastO_mem s z)); omega
 have mem' : ∀ b r,isHd pg st b → r ∈ updG G a (s ++ t) b → r ∈ G b ∧ r ≠ p := fun b r hb hr => by
   by_cases e : b = a
   · subst e
     rw [updG_at] at hr
     refine ⟨?_,fun z => ?_⟩
     · rw [hG]
       rcases List.mem_append.1 hr with h | h <;> simp [h]
     · rw [z] at hr
       rcases List.mem_append.1 hr with h | h
       · exact hs h
       · exact hpt h
   · rw [updG_ne _ _ _ e] at hr
     exact ⟨hr,fun z => e (L.apart b a p hb ha (z ▸ hr) hpm)⟩
 have qin : ∀ r,fst1 t ≠ -1 ∧ vA pg st r = vA pg st (fst1 t) → r ∈ t := fun r z => by rw [injv _ _ z.2]; exact qmem z.1
 have ga : ∀ r,r ∈ s ∨ r ∈ t → r ∈ G a := fun r h => by rw [hG]; rcases h with h | h <;> simp [h]
 refine ⟨⟨fun b hb => ?_,fun b hb r hr => L.page b hb r (mem' b r hb hr).1,fun b hb => ?_,fun b b' r hb hb' hr hr' => L.apart b b' r hb hb' (mem' b r hb hr).1 (mem' b' r hb' hr').1,fun b r hb hr => ?_,fun b r hb hr => ?_,fun r hr hno => ?_⟩,hlen,fun i h0 h1 h2 => ?_⟩
 · have nv := hd_nv H hb hp
   rw [val b (by have := pos1 b hb; omega),if_neg nv.2,if_neg nv.1,if_neg (fun z => (hd_nv H hb (htp _ (qmem z.1))).2 z.2)]
   by_cases e : b = a
   · subst e
     rw [updG_at]
     by_cases e2 : lastO s = -1
     · rw [if_pos e2,if_pos rfl,snil e2]; rfl
     · rw [if_neg e2,if_neg (hd_nv H hb (hsp _ (bmem e2))).1,L.head b hb,hG]
       cases s with
       | nil => exact absurd rfl e2
       | cons x s => rfl
   · rw [updG_ne _ _ _ e]
     by_cases e2 : lastO s = -1
     · rw [if_pos e2,if_neg e]; exact L.head b hb
     · rw [if_neg e2,if_neg (hd_nv H hb (hsp _ (bmem e2))).1]; exact L.head b hb
 · by_cases e : b = a
   · subst e
     rw [updG_at]
     refine List.nodup_append.2 ⟨hna.1,(List.nodup_cons.1 hna.2.1).2,fun x hx y hy z => ?_⟩
     subst z
     exact hst x hx hy
   · rw [updG_ne _ _ _ e]; exact L.nodup b hb
 · obtain ⟨hr1,hrp⟩ := mem' b r hb hr
   have hrg := L.page b hb r hr1
   have p0 := posn r hrg
   rw [val _ (by omega),if_neg (nv_ne H hrg hp),if_neg (fun z => hrp (injn _ _ z)),if_neg (fun z => nv_ne H hrg (htp _ (qmem z.1)) z.2)]
   have hh : nA pg st r ≠ a := fun z => (hd_nv H ha hrg).1 z.symm
   by_cases e : b = a
   · subst e
     rw [updG_at] at hr ⊢
     by_cases e2 : r = lastO s
     · have hs0 : lastO s ≠ -1 := by rw [← e2]; have := isPage_iff.1 hrg; omega
       rw [if_neg hs0,if_pos (by rw [e2])]
       obtain ⟨s',y,rfl⟩ : ∃ s' y,s = s' ++ [y] := ⟨s.dropLast,s.getLast (fun z => hs0 (by rw [z]; rfl)),(List.dropLast_concat_getLast _).symm⟩
       rw [lastO_snoc] at e2
       subst e2
       have : r ∉ s' := fun q => (List.nodup_append.1 hna.1).2.2 r q r (by simp) rfl
       rw [List.append_assoc]
       exact (nxL_at s' t r this).symm
     · have hif : nA pg st r ≠ (if lastO s = -1 then b else nA pg st (lastO s)) := by
         by_cases e3 : lastO s = -1
         · rw [if_pos e3]; exact hh
         · rw [if_neg e3]; exact fun z => e2 (injn _ _ z)
       rw [if_neg hif,L.next b r hb hr1,hG]
       rcases List.mem_append.1 hr with h | h
       · obtain ⟨u,v,rfl,hu⟩ := split_mem h
         have hv : v ≠ [] := fun z => e2 (by rw [z,lastO_snoc])
         obtain ⟨y,v',rfl⟩ := List.exists_cons_of_ne_nil hv
         have h1 : (u ++ r :: y :: v') ++ p :: t = u ++ r :: (y :: (v' ++ p :: t)) := by simp
         have h2 : (u ++ r :: y :: v') ++ t = u ++ r :: (y :: (v' ++ t)) := by simp
         rw [h1,h2,nxL_at u _ r hu,nxL_at u _ r hu]
         rfl
       · obtain ⟨u,v,rfl,hu⟩ := split_mem h
         have hrs : r ∉ s := fun q => hst r q h
         have h1 : s ++ p :: (u ++ r :: v) = (s ++ p :: u) ++ r :: v := by simp
         have h2 : s ++ (u ++ r :: v) = (s ++ u) ++ r :: v := by simp
         rw [h1,h2,nxL_at _ v r (by simp; exact ⟨hrs,hrp,hu⟩),nxL_at _ v r (by simp; exact ⟨hrs,hu⟩)]
   · rw [updG_ne _ _ _ e] at hr ⊢
     have hif : nA pg st r ≠ (if lastO s = -1 then a else nA pg st (lastO s)) := by
       by_cases e3 : lastO s = -1
       · rw [if_pos e3]; exact hh
       · rw [if_neg e3]; exact fun z => e (L.apart b a r hb ha hr (by rw [injn _ _ z]; exact ga _ (.inl (bmem e3))))
     rw [if_neg hif]
     exact L.next b r hb hr
 · obtain ⟨hr1,hrp⟩ := mem' b r hb hr
   have hrg := L.page b hb r hr1
   have p0 := posv r hrg
   rw [val _ (by omega),if_neg (fun z => hrp (injv _ _ z)),if_neg (fun z => nv_ne H hp hrg z.symm)]
   have hif : vA pg st r ≠ (if lastO s = -1 then a else nA pg st (lastO s)) := by
     by_cases e3 : lastO s = -1
     · rw [if_pos e3]; exact fun z => (hd_nv H ha hrg).2 z.symm
     · rw [if_neg e3]; exact fun z => nv_ne H (hsp _ (bmem e3)) hrg z.symm
   by_cases e : b = a
   · subst e
     rw [updG_at] at hr ⊢
     by_cases e2 : fst1 t ≠ -1 ∧ vA pg st r = vA pg st (fst1 t)
     · rw [if_pos e2]
       have hrt := qin r e2
       have hr' := injv _ _ e2.2
       cases t with
       | nil => cases hrt
       | cons x t' =>
         have : x = r := hr'.symm
         subst this
         exact (pvL0_at s t' x (fun q => hst x q (by simp))).symm
     · rw [if_neg e2,if_neg hif,L.prev b r hb hr1,hG]
       rcases List.mem_append.1 hr with h | h
       · obtain ⟨u,v,rfl,hu⟩ := split_mem h
         have h1 : (u ++ r :: v) ++ p :: t = u ++ r :: (v ++ p :: t) := by simp
         have h2 : (u ++ r :: v) ++ t = u ++ r :: (v ++ t) := by simp
         rw [h1,h2,pvL0_at u _ r hu,pvL0_at u _ r hu]
       · obtain ⟨u,v,rfl,hu⟩ := split_mem h
         have hrs : r ∉ s := fun q => hst r q h
         have hun : u ≠ [] := fun z => e2 (by subst z; exact ⟨by show r ≠ -1; have := isPage_iff.1 hrg; omega,rfl⟩)
         have h1 : s ++ p :: (u ++ r :: v) = (s ++ p :: u) ++ r :: v := by simp
         have h2 : s ++ (u ++ r :: v) = (s ++ u) ++ r :: v := by simp
         rw [h1,h2,pvL0_at _ v r (by simp; exact ⟨hrs,hrp,hu⟩),pvL0_at _ v r (by simp; exact ⟨hrs,hu⟩),lastO_app s (p :: u) (by simp),lastO_cons p u hun,lastO_app s u hun]
   · rw [updG_ne _ _ _ e] at hr ⊢
     rw [if_neg (fun z => e (L.apart b a r hb ha hr (ga _ (.inr (qin r z))))),if_neg hif]
     exact L.prev b r hb hr
 · have p0 := posn r hr
   have p1 := posv r hr
   rw [val _ (by omega),val _ (by omega)]
   by_cases e : r = p
   · subst e
     rw [if_neg (nv_ne H hr hr),if_pos rfl,if_pos rfl]
     exact ⟨rfl,rfl⟩
   · have hno' : ∀ b,isHd pg st b → r ∉ G b := fun b hb q => by
       by_cases e2 : b = a
       · subst e2
         refine hno b hb ?_
         rw [updG_at]
         rw [hG] at q
         rcases List.mem_append.1 q with h | h
         · simp [h]
         · simp [(List.mem_cons.1 h).resolve_left e]
       · exact hno b hb (by rw [updG_ne _ _ _ e2]; exact q)
     have fr := L.free r hr hno'
     have hif1 : nA pg st r ≠ (if lastO s = -1 then a else nA pg st (lastO s)) := by
       by_cases e3 : lastO s = -1
       · rw [if_pos e3]; exact fun z => (hd_nv H ha hr).1 z.symm
       · rw [if_neg e3]; exact fun z => hno' a ha (by rw [injn _ _ z]; exact ga _ (.inl (bmem e3)))
     have hif2 : vA pg st r ≠ (if lastO s = -1 then a else nA pg st (lastO s)) := by
       by_cases e3 : lastO s = -1
       · rw [if_pos e3]; exact fun z => (hd_nv H ha hr).2 z.symm
       · rw [if_neg e3]; exact fun z => nv_ne H (hsp _ (bmem e3)) hr z.symm
     rw [if_neg (nv_ne H hr hp),if_neg (fun z => e (injn _ _ z)),if_neg (fun z => nv_ne H hr (htp _ (qmem z.1)) z.2),if_neg hif1]
     rw [if_neg (fun z => e (injv _ _ z)),if_neg (fun z => nv_ne H hp hr z.symm),if_neg (fun z => hno' a ha (ga _ (.inr (qin r z)))),if_neg hif2]
     exact fr
 · have hif : i ≠ (if lastO s = -1 then a else nA pg st (lastO s)) := by
     by_cases e3 : lastO s = -1
     · rw [if_pos e3]; exact fun z => h1 (by rw [z]; exact ha)
     · rw [if_neg e3]; exact (h2 _ (hsp _ (bmem e3))).1
   rw [val i h0,if_neg (h2 p hp).2,if_neg (h2 p hp).1,if_neg (fun z => (h2 _ (htp _ (qmem z.1))).2 z.2),if_neg hif]
theorem unlink_no {c f p : Int} {G : Int → List Int} {ws : List Int} (L : Ln pg st G ws) (h : isPage pg p = true → headV pg st c f ≠ 0 → p ∉ G (headV pg st c f)) : plUnlinkV pg st p c f ws = (false,ws) := by
 unfold plUnlinkV
 refine if_neg (fun z => ?_)
 have hp := isPage_iff.1 z.1
 by_cases e : headV pg st c f = 0
 · have := (thr_none H (p:=p) ws).2 (by omega)
   rw [e,this] at z
   cases z.2
 · have := (thr_all H L (head_hd e).1 (h z.1 e)).2 (by omega)
   rw [this] at z
   cases z.2
end
theorem ln_zeros {pg st : Int} {n : Nat} (H : HdIn pg st n) : Ln pg st (fun _ => []) (zeros n) := by
 have hz : ∀ i : Int,wAt (zeros n) i = 0 := fun i => by
   unfold wAt zeros
   simp only [List.getD,List.getElem?_replicate]
   split <;> rfl
 exact ⟨fun a _ => hz a,fun a _ p h => (by cases h),fun a _ => List.nodup_nil,fun a b p _ _ h => (by cases h),fun a p _ h => (by cases h),fun a p _ h => (by cases h),fun p _ _ => ⟨hz _,hz _⟩⟩
section
variable {pg st : Int} {n : Nat} (H : HdIn pg st n)
include H
end
structure InL (pg st : Int) (G : Int → List Int) (ins : List Int) : Prop where
 len : ins.length = pg.toNat
 at' : ∀ p,isPage pg p = true → (wAt ins p = 0 ∧ ∀ a,isHd pg st a → p ∉ G a) ∨ (∃ c f,headV pg st c f ≠ 0 ∧ p ∈ G (headV pg st c f) ∧ wAt ins p = 100 * c + f)
section
variable {pg st : Int} {n : Nat} (H : HdIn pg st n)
include H
end
end Go.Proofs.YtmafllcmkhgidaaGreatDoor
namespace Go.Proofs.YtmafllcmkhgidaaGreatDoor
open Go.RowKit Go.Sort Go.Maps Go.Shelf
theorem LOff.symm {pg st : Int} {a b : List Int} (h : LOff pg st a b) : LOff pg st b a := ⟨h.len.symm,fun i h0 h1 h2 => (h.off i h0 h1 h2).symm⟩
structure LayI (pg st h : Int) (ps : List Int) (ws : List Int) (i : Nat) (ws' : List Int) : Prop where
 hd : wAt ws' h = if i = 0 then 0 else hd1 ps
 nx : ∀ k,k < i → wAt ws' (nA pg st (ps.getD k 0)) = if k + 1 < ps.length then ps.getD (k + 1) 0 + 1 else 0
 pv : ∀ k,k < i → wAt ws' (vA pg st (ps.getD k 0)) = if k = 0 then 0 else ps.getD (k - 1) 0 + 1
 off : ∀ x : Int,0 ≤ x → x ≠ h → (∀ k,k < i → x ≠ nA pg st (ps.getD k 0) ∧ x ≠ vA pg st (ps.getD k 0)) → wAt ws' x = wAt ws x
section
variable {pg st : Int} {n : Nat} (H : HdIn pg st n)
include H
end
end Go.Proofs.YtmafllcmkhgidaaGreatDoor
namespace Go.Proofs.YtmafllcmkhgidaaGreatDoor
theorem okW_apG {n : Nat} {zs : List Int} {D : List KV} (hz : OkW zs) (h : InvD n D) (hn : zs.length = n) : OkW (applyD zs D) := by
 subst hn
 intro x hx
 obtain ⟨i,hi,rfl⟩ := List.getElem_of_mem hx
 have hl : i < zs.length := by rw [applyD_len] at hi; exact hi
 have h1 := word_all (zs:=zs) h (a:=(i : Int)) (by omega) (by omega)
 have h2 : wAt (applyD zs D) (i : Int) = (applyD zs D)[i] := by simp [wAt,List.getD,hi]
 rw [← h2]
 exact word_ok (okK_all hz) h.ok h1
theorem okW_at' {ws : List Int} (h : OkW ws) (a : Int) : W64 (wAt ws a) := by
 unfold wAt
 by_cases e : a.toNat < ws.length
 · rw [List.getD,List.getElem?_eq_getElem e]; exact h _ (List.getElem_mem e)
 · rw [List.getD,List.getElem?_eq_none (by omega)]; unfold W64; constructor <;> decide
theorem flat_bindW {α β : Type} {n : Nat} {p : Prg α} {f : α → Prg β} {g : List Int → α × List Int} {k : α → List Int → β × List Int} {Q : α → Prop} (h : Flat n p g) (hq : ∀ ws,ws.length = n → OkW ws → Q (g ws).1) (hf : ∀ x,Q x → Flat n (f x) (k x)) : Flat n (bindP p f) (fun ws => k (g ws).1 (g ws).2) := fun zs D hn hz hD => by
 obtain ⟨D1,e1,a1,i1⟩ := h zs D hn hz hD
 obtain ⟨D2,e2,a2,i2⟩ := hf (g (applyD zs D)).1 (hq _ (by rw [applyD_len]; exact hn) (okW_apG hz hD hn)) zs D1 hn hz i1
 refine ⟨D2,?_,?_,i2⟩
 · rw [bindP_ok e1,e2,a1]
 · rw [a2,a1]
def giver2V (pg st k x : Int) (ws : List Int) : Int × List Int :=
 if x = -1 then (if (takeV pg st (findV pg st 1 1 ws) 1 (k + 1) ws).1 then findV pg st 1 1 ws else -1,(takeV pg st (findV pg st 1 1 ws) 1 (k + 1) ws).2) else (x,ws)
def giverV (pg st k : Int) (ws : List Int) : Int × List Int := if slotsC k = 0 then (-1,ws) else giver2V pg st k (plFirstV pg st k (slotsC k).toNat 1 ws) ws
def pgPutV (pg st q k b : Int) (ws : List Int) : List Int := if openV k b = slotsC k then (dropV pg st q ws).2 else (ws.set (bA pg st q).toNat b).set (cA pg st q).toNat (openV k b)
def movesV (pg st q k was : Int) (ws : List Int) : List Int := (plLinkV pg st q k (cntV pg st (plUnlinkV pg st q k was ws).2 q) (plUnlinkV pg st q k was ws).2).2
def putMoveV (pg st q k was b : Int) (ws : List Int) : List Int := movesV pg st q k was (pgPutV pg st q k b ws)
def grab2V (us pg st k q : Int) (ws : List Int) : (Int × Bool) × List Int :=
 if q = -1 then ((0,false),ws) else if slFirstV (bitV pg st ws q) (slotsC k) = -1 then ((0,false),ws)
 else ((us + 32 * q + slFirstV (bitV pg st ws q) (slotsC k) * szV k,true),putMoveV pg st q k (cntV pg st ws q) (setV (bitV pg st ws q) (slFirstV (bitV pg st ws q) (slotsC k))) ws)
def grabV (us pg st k : Int) (ws : List Int) : (Int × Bool) × List Int := grab2V us pg st k (giverV pg st k ws).1 (giverV pg st k ws).2
def tkRestV (pg st q wd x : Int) (ws : List Int) : TkA :=
 if slotsC (IntKind.i64.wrap (x - 1)) = 0 then none else if wd % szV (IntKind.i64.wrap (x - 1)) ≠ 0 then none
 else some (q,IntKind.i64.wrap (x - 1),wd / szV (IntKind.i64.wrap (x - 1)),hasB (bitV pg st ws q) (wd / szV (IntKind.i64.wrap (x - 1))))
def takenV (us pg st a : Int) (ws : List Int) : TkA := if us ≤ a ∧ a < us + 32 * pg then tkRestV pg st ((a - us) / 32) ((a - us) % 32) (kindV pg st ws ((a - us) / 32)) ws else none
def backToV (pg st : Int) (x : Option (Int × Int × Int)) (ws : List Int) : Bool × List Int :=
 match x with
 | some (q,k,i) => (true,putMoveV pg st q k (cntV pg st ws q) (clearV (bitV pg st ws q) i) ws)
 | none => (false,ws)
def backV (us pg st a : Int) (ws : List Int) : Bool × List Int := backToV pg st (tkYes (takenV us pg st a ws)) ws
def lookRV : Option (Int × Int × Int) → Int × Bool
 | some (_,k,_) => (k,true)
 | none => (0,false)
def lookV (us pg st a : Int) (ws : List Int) : Int × Bool := lookRV (tkYes (takenV us pg st a ws))
def roomV (pg st k : Int) (ws : List Int) : Bool := plFirstV pg st k (slotsC k).toNat 1 ws != -1
def freeNV (pg st k : Int) : Nat → Int → Int → List Int → Int
 | 0,_,s,_ => s
 | m + 1,q,s,ws => if kindV pg st ws q = k + 1 then freeNV pg st k m (q + 1) (s + openV k (bitV pg st ws q)) ws else freeNV pg st k m (q + 1) s ws
def freeV (pg st k : Int) (ws : List Int) : Int := if slotsC k = 0 then 0 else freeNV pg st k pg.toNat 0 0 ws
section
variable {pg st : Int} {n : Nat} (H : HdIn pg st n)
include H
theorem page_c {q : Int} (hq : isPage pg q = true) : (0 ≤ cA pg st q ∧ cA pg st q < n ∧ W64 (cA pg st q)) ∧ 0 ≤ bA pg st q ∧ bA pg st q < n ∧ W64 (bA pg st q) := by
 obtain ⟨_,⟨b0,b1,b2⟩,c0,c1,c2⟩ := page_b H.toPgIn hq
 exact ⟨⟨by omega,b1,b2⟩,by omega,c1,c2⟩
theorem plFirst_b (k : Int) (m : Nat) (ws : List Int) : ∀ f,plFirstV pg st k m f ws = -1 ∨ isPage pg (plFirstV pg st k m f ws) = true := by
 induction m with
 | zero => intro f; exact .inl rfl
 | succ m ih =>
   intro f
   show (if _ then _ else _) = -1 ∨ isPage pg (if _ then _ else _) = true
   split
   · exact ih _
   · exact lead_b H _ _
theorem flat_giver2 {k : Int} (hk : 0 ≤ k ∧ k ≤ 4) (x : Int) : Flat n (if x = -1 then bindP (efindP pg st 1 1) (fun y => bindP (etakeP pg st y 1 (k + 1)) fun b => pureP (if b then y else -1)) else pureP x) (giver2V pg st k x) := by
 unfold giver2V
 exact flat_ite (fun _ => flat_bind (flat_find H.toPgIn 1 1) fun y => flat_bind (flat_take H.toPgIn y 1 (k + 1) (by unfold W64; omega) w64_1) fun b => flat_pure n _) (fun _ => flat_pure n x)
theorem flat_giver (k : Int) : Flat n (giverP pg st k) (giverV pg st k) := by
 unfold giverP giverV
 exact flat_ite (fun _ => flat_pure n _) (fun h => flat_bind (flat_plFirstN H k _ 1) fun x => flat_giver2 H (slots_cls h) x)
theorem take_page {y m k : Int} {ws : List Int} (h : (takeV pg st y m k ws).1 = true) : isPage pg y = true := by
 unfold takeV at h
 split at h
 · rename_i e
   simp at e
   have := (vacB_iff.1 e.2).1
   have := there_iff.1 this
   exact isPage_iff.2 ⟨by omega,by omega⟩
 · cases h
theorem giver_b (k : Int) (ws : List Int) : (giverV pg st k ws).1 = -1 ∨ isPage pg (giverV pg st k ws).1 = true := by
 unfold giverV
 split
 · exact .inl rfl
 · unfold giver2V
   split
   · show (if _ then _ else _) = -1 ∨ isPage pg (if _ then _ else _) = true
     split
     · rename_i e; exact .inr (take_page H e)
     · exact .inl rfl
   · exact plFirst_b H k _ ws 1
theorem flat_pgPut {q k b : Int} (hq : isPage pg q = true) (hb : W64 b) : Flat n (pgPutP pg st q k b) (fun ws => ((),pgPutV pg st q k b ws)) := by
 obtain ⟨⟨b0,b1,b2⟩,c0,c1,c2⟩ := page_c H hq
 unfold pgPutP
 refine flat_eq (flat_ite (fun _ => flat_bind (flat_drop H.toPgIn q) fun _ => flat_pure n ()) (fun _ => flat_bind (flat_write c0 c1 c2 hb) fun _ => flat_bind (flat_write b0 b1 b2 (x:=openV k b) (by have := cnt_b b k; unfold W64; omega)) fun _ => flat_pure n _)) (fun ws _ => ?_)
 unfold pgPutV
 split <;> rfl
theorem flat_moves {q : Int} (hq : isPage pg q = true) (k was : Int) : Flat n (movesP pg st q k was) (fun ws => ((),movesV pg st q k was ws)) := by
 obtain ⟨⟨b0,b1,b2⟩,_⟩ := page_c H hq
 exact flat_bind (flat_plUnlink H q k was) fun _ => flat_bind (flat_read b0 b1) fun f => flat_bind (flat_plLink H q k f) fun _ => flat_pure n ()
theorem flat_grab2 (us k : Int) {q : Int} (hq : q = -1 ∨ isPage pg q = true) : Flat n (if q = -1 then pureP (0,false) else bindP (readP (bA pg st q)) fun b =>
   if slFirstV b (slotsC k) = -1 then pureP (0,false) else bindP (readP (cA pg st q)) fun was =>
     bindP (pgPutP pg st q k (setV b (slFirstV b (slotsC k)))) fun _ => bindP (movesP pg st q k was) fun _ => pureP (us + 32 * q + slFirstV b (slotsC k) * szV k,true)) (grab2V us pg st k q) := by
 unfold grab2V
 refine flat_ite (fun _ => flat_pure n _) (fun h => ?_)
 have hq := hq.resolve_left h
 obtain ⟨⟨b0,b1,b2⟩,c0,c1,c2⟩ := page_c H hq
 refine flat_eq (flat_bindW (Q:=W64) (flat_read c0 c1) (fun ws _ ho => okW_at' ho _) fun b hb => flat_ite (fun _ => flat_pure n ((0 : Int),false)) fun _ => flat_bind (flat_read b0 b1) fun was => flat_bind (flat_pgPut H hq (set_w64 hb _)) fun _ => flat_bind (flat_moves H hq k was) fun _ => flat_pure n (us + 32 * q + slFirstV b (slotsC k) * szV k,true)) (fun ws _ => ?_)
 rfl
theorem flat_grab (us k : Int) : Flat n (grabP us pg st k) (grabV us pg st k) :=
 flat_bindQ (Q:=fun q => q = -1 ∨ isPage pg q = true) (flat_giver H k) (fun ws _ => giver_b H k ws) fun q hq => flat_grab2 H us k hq
theorem flat_tkRest {q : Int} (hq : isPage pg q = true) (wd x : Int) : Flat n (tkRest pg st q wd x) (fun ws => (tkRestV pg st q wd x ws,ws)) := by
 obtain ⟨_,c0,c1,c2⟩ := page_c H hq
 unfold tkRest
 refine flat_eq (flat_ite (fun _ => flat_pure n _) (fun _ => flat_ite (fun _ => flat_pure n _) (fun _ => flat_bind (flat_read c0 c1) fun b => flat_pure n _))) (fun ws _ => ?_)
 unfold tkRestV
 split
 · rfl
 · split <;> rfl
theorem flat_taken1 {q : Int} (hq : isPage pg q = true) (wd : Int) : Flat n (bindP (ekindP pg st q) fun x => tkRest pg st q wd x) (fun ws => (tkRestV pg st q wd (kindV pg st ws q) ws,ws)) :=
 flat_eq (flat_bind (flat_kind H.toPgIn q) fun x => flat_tkRest H hq wd x) (fun ws _ => rfl)
theorem flat_taken (us a : Int) : Flat n (takenP us pg st a) (fun ws => (takenV us pg st a ws,ws)) := by
 unfold takenP
 generalize hq : (a - us) / 32 = q
 generalize hw : (a - us) % 32 = wd
 refine flat_eq (flat_ite (fun h => flat_taken1 H (by rw [← hq]; exact (place_b h).1) wd) (fun _ => flat_pure n (none : TkA))) (fun ws _ => ?_)
 unfold takenV
 rw [hq,hw]
 split <;> rfl
theorem taken_b {us a : Int} {ws : List Int} {q k i : Int} {t : Bool} (h : takenV us pg st a ws = some (q,k,i,t)) : isPage pg q = true ∧ 0 ≤ k ∧ k ≤ 4 := by
 unfold takenV at h
 split at h
 · rename_i hin
   unfold tkRestV at h
   split at h
   · cases h
   · rename_i hz
     split at h
     · cases h
     · cases h
       have := slots_cls hz
       exact ⟨(place_b hin).1,this.1,this.2⟩
 · cases h
theorem flat_backRest {q : Int} (hq : isPage pg q = true) (k i : Int) : Flat n (backRest pg st q k i) (fun ws => (true,putMoveV pg st q k (cntV pg st ws q) (clearV (bitV pg st ws q) i) ws)) := by
 obtain ⟨⟨b0,b1,b2⟩,c0,c1,c2⟩ := page_c H hq
 refine flat_eq (flat_bind (flat_read b0 b1) fun was => flat_bindW (Q:=W64) (flat_read c0 c1) (fun ws _ ho => okW_at' ho _) fun b hb => flat_bind (flat_pgPut H hq (clear_w64 hb i)) fun _ => flat_bind (flat_moves H hq k was) fun _ => flat_pure n true) (fun ws _ => ?_)
 rfl
theorem flat_backTo (x : Option (Int × Int × Int)) (hx : ∀ q k i,x = some (q,k,i) → isPage pg q = true) : Flat n (backTo pg st x) (backToV pg st x) := by
 cases x with
 | none => exact flat_pure n _
 | some y =>
   obtain ⟨q,k,i⟩ := y
   exact flat_backRest H (hx q k i rfl) k i
theorem flat_back (us a : Int) : Flat n (backP us pg st a) (backV us pg st a) :=
 flat_bindQ (k:=fun x ws => backToV pg st (tkYes x) ws) (Q:=fun x : TkA => ∀ q k i t,x = some (q,k,i,t) → isPage pg q = true) (flat_taken H us a) (fun ws _ q k i t e => (taken_b H e).1) fun x hx => flat_backTo H _ fun q k i e => hx q k i true (tkYes_some e)
theorem flat_lookR (x : Option (Int × Int × Int)) : Flat n (lookRest x) (fun ws => (lookRV x,ws)) := by
 cases x with
 | none => exact flat_pure n _
 | some y => exact flat_pure n _
theorem flat_look (us a : Int) : Flat n (lookP us pg st a) (fun ws => (lookV us pg st a ws,ws)) :=
 flat_bind (k:=fun x ws => (lookRV (tkYes x),ws)) (flat_taken H us a) fun x => flat_lookR H _
theorem flat_room (k : Int) : Flat n (roomP pg st k) (fun ws => (roomV pg st k ws,ws)) := flat_bind (flat_plFirstN H k _ 1) fun x => flat_pure n _
theorem flat_freeN (k : Int) (m : Nat) : ∀ (q s : Int),0 ≤ q → q + m ≤ pg → Flat n (freeN pg st k m q s) (fun ws => (freeNV pg st k m q s ws,ws)) := by
 induction m with
 | zero => intro q s _ _; exact flat_pure n s
 | succ m ih =>
   intro q s h0 h1
   have hq : isPage pg q = true := isPage_iff.2 ⟨h0,by omega⟩
   obtain ⟨_,c0,c1,c2⟩ := page_c H hq
   refine flat_eq (flat_bind (flat_kind H.toPgIn q) fun x => flat_ite (fun _ => flat_bind (flat_read c0 c1) fun b => ih (q + 1) (s + openV k b) (by omega) (by omega)) (fun _ => ih (q + 1) s (by omega) (by omega))) (fun ws _ => ?_)
   rw [show freeNV pg st k (m + 1) q s ws = if kindV pg st ws q = k + 1 then freeNV pg st k m (q + 1) (s + openV k (bitV pg st ws q)) ws else freeNV pg st k m (q + 1) s ws from rfl]
   show (if kindV pg st ws q = k + 1 then _ else _) = _
   split <;> rfl
theorem flat_free' (k : Int) : Flat n (freeP pg st k) (fun ws => (freeV pg st k ws,ws)) := by
 have := H.pg1
 unfold freeP
 refine flat_eq (flat_ite (fun _ => flat_pure n _) (fun _ => flat_freeN H k pg.toNat 0 0 (by omega) (by omega))) (fun ws _ => ?_)
 unfold freeV
 split <;> rfl
end
end Go.Proofs.YtmafllcmkhgidaaGreatDoor
