/-
  What a function that is handed a view comes to; on the way through a program that is handed a view: between two calls.
-/
import Derived.Test.YtmafllcmkhgidaaGreatDoorPfAe
import Derived.Test.YtmafllcmkhgidaaGreatDoorPfAa
import Derived.Test.YtmafllcmkhgidaaGreatDoorPfAb
import Derived.RangeFuncNested
import Derived.RangeFuncCalls
import Derived.RangeFuncLeaves
import Derived.OwnWalkIn
import Derived.TacticsInMore
import Derived.RangeFuncBox
import Derived.Shelf.Abstract
import Derived.LoopNIn
import Derived.LoopIn
set_option maxRecDepth 100000
set_option maxHeartbeats 8000000
set_option linter.unusedVariables false
set_option linter.unusedSimpArgs false
set_option linter.unusedSectionVars false
namespace Go.Proofs.YtmafllcmkhgidaaGreatDoor
open Go.RowKit Go.Sort Go.Maps Go.Shelf
theorem ViewAt.keepS {w w' : World} {F S : Nat → Prop} {p : Nat} {kn : Int → Option Int} {D : List KV} (h : ViewAt w F p kn D) (ht : Turned S w w') (hs : ∀ k,F k → ¬ S k) (hM : ∀ k es cl,S k → w.heap[k]? ≠ some (.map es cl)) : ViewAt w' F p kn D := by
 obtain ⟨M,q,n,F0,hp,hk,hm,fp,f0,fM⟩ := h.ex
 have nM : ¬ S M := by
   obtain ⟨D',⟨es,clock,hb,_⟩,_⟩ := hk
   intro q
   exact hM M _ _ q hb
 exact ⟨⟨M,q,n,F0,by rw [Turned.block ht p (lt_of_heap hp) (hs p fp)]; exact hp,hk.keep ht nM,hm.keep ht (fun k q => hs k (f0 k q).1),fp,f0,fM⟩,fun k hk => Nat.lt_of_lt_of_le (h.lt k hk) ht.size⟩
theorem setCell_one {W : World} {g : Nat} {v : Value} {t : TypeId} (h : W.heap[g]? = some (.cells #[v] t (0,0))) (z : Value) : (W.setCell ⟨g,0,none⟩ z).heap[g]? = some (.cells #[z] t (0,0)) := by
 have := heap_setCell (o:=0) z h
 simpa using this
def WentV {α : Type} (w : World) (F : Nat → Prop) (p : Nat) (kn : Int → Option Int) (val : α → Value) (R : Res α) (e : Ending) (w' : World) : Prop :=
 match R with
 | .need a => Ended w F p a e w'
 | .ok x D => DidView w F p kn D (val x) e w'
theorem WentV.from {α : Type} {w w2 w' : World} {F F' : Nat → Prop} {p : Nat} {kn : Int → Option Int} {val : α → Value} {R : Res α} {e : Ending} (t : Turned F w w2) (n : ∀ k,F' k → F k ∨ w.heap.size ≤ k) (h : WentV w2 F' p kn val R e w') : WentV w F p kn val R e w' := by
 cases R with
 | need a => exact ⟨h.1,h.2.1,turned_own t h.2.2 n⟩
 | ok x D =>
   obtain ⟨he,F1,hv,ht,hn⟩ := h
   refine ⟨he,F1,hv,turned_own t ht n,fun k hk => ?_⟩
   rcases hn k hk with q | q
   · exact n k q
   · exact .inr (Nat.le_trans t.size q)
theorem WentV.after {α : Type} {w w2 w' : World} {F : Nat → Prop} {p : Nat} {kn : Int → Option Int} {val : α → Value} {R : Res α} {e : Ending} (t : More w w2) (h : WentV w2 F p kn val R e w') : WentV w F p kn val R e w' :=
 h.from (Turned.mono t (fun _ _ q => q.elim)) (fun k q => .inl q)
theorem WentV.need {α : Type} {w w' : World} {F : Nat → Prop} {p : Nat} {kn : Int → Option Int} {val : α → Value} {R : Res α} {e : Ending} {a : Int} (hR : R = .need a) (h : Ended w F p a e w') : WentV w F p kn val R e w' := by subst hR; exact h
theorem WentV.did {α : Type} {w w' : World} {F : Nat → Prop} {p : Nat} {kn : Int → Option Int} {val : α → Value} {R : Res α} {e : Ending} {x : α} {D : List KV} (hR : R = .ok x D) (h : DidView w F p kn D (val x) e w') : WentV w F p kn val R e w' := by subst hR; exact h
theorem WentV.same {α : Type} {w w' : World} {F : Nat → Prop} {p : Nat} {kn : Int → Option Int} {D : List KV} {val : α → Value} {R : Res α} {x : α} (hR : R = .ok x D) (hv : ViewAt w F p kn D) (t : More w w') : WentV w F p kn val R (.returned (val x)) w' := by
 subst hR; exact DidView.same hv t
def mapR {α β : Type} (f : α → β) : Res α → Res β
 | .need a => .need a
 | .ok x D => .ok (f x) D
theorem WentV.map {α β : Type} {w w' : World} {F : Nat → Prop} {p : Nat} {kn : Int → Option Int} {val : α → Value} {val' : β → Value} (f : α → β) {R : Res α} {x : α} {D : List KV} {v : Value} (hR : R = .ok x D) (h : WentV w F p kn val R (.returned v) w') : WentV w F p kn val' (mapR f R) (.returned (val' (f x))) w' := by
 subst hR
 obtain ⟨_,F',hv,ht,hn⟩ := h
 exact ⟨rfl,F',hv,ht,hn⟩
theorem WentV.mapN {α β : Type} {w w' : World} {F : Nat → Prop} {p : Nat} {kn : Int → Option Int} {val : α → Value} {val' : β → Value} (f : α → β) {R : Res α} {a : Int} {e : Ending} (hR : R = .need a) (h : WentV w F p kn val R e w') : WentV w F p kn val' (mapR f R) e w' := by
 subst hR
 exact h
structure MidV (W wr : World) (F S : Nat → Prop) (p : Nat) (kn : Int → Option Int) (n : Nat) (D : List KV) (F' : Nat → Prop) : Prop where
 view : ViewAt wr F' p kn D
 from' : ∀ k,F' k → F k ∨ W.heap.size ≤ k
 turn : Turned (fun b => F b ∨ S b) W wr
 inv : InvD n D
namespace MidV
variable {W wr w1 w2 : World} {F S F' : Nat → Prop} {p n : Nat} {kn : Int → Option Int} {D : List KV}
theorem begin (hv : ViewAt W F p kn D) (hD : InvD n D) : MidV W W F S p kn n D F := ⟨hv,fun k q => .inl q,Turned.refl _ _,hD⟩
theorem more (h : MidV W wr F S p kn n D F') (m : More wr w1) : MidV W w1 F S p kn n D F' :=
 ⟨h.view.more m,h.from',turned_own (F' := fun _ => False) h.turn m (fun _ q => q.elim),h.inv⟩
theorem size (h : MidV W wr F S p kn n D F') : W.heap.size ≤ wr.heap.size := h.turn.size
theorem off (h : MidV W wr F S p kn n D F') {b : Nat} (hb : b < W.heap.size) (nF : ¬ F b) : ¬ F' b := fun q => by
 rcases h.from' b q with r | r
 · exact nF r
 · omega
theorem box (h : MidV W wr F S p kn n D F') {b : Nat} (hS : b < W.heap.size → S b) (nF : ¬ F' b) (v : Value) {cs : Array Value} {t : TypeId} {fr : Nat × Nat} (hb : wr.heap[b]? = some (.cells cs t fr)) : MidV W (wr.setCell ⟨b,0,none⟩ v) F S p kn n D F' :=
 ⟨h.view.keepS (S:=fun k => k = b) (Turned.setCell (S:=fun k => k = b) (Turned.refl _ wr) ⟨b,0,none⟩ v (fun _ => rfl)) (fun k q e => nF (e ▸ q)) (fun k es cl e q => by subst e; rw [hb] at q; cases q),
   h.from',turned_own h.turn (Turned.setCell (S:=fun k => k = b) (Turned.refl _ wr) ⟨b,0,none⟩ v (fun _ => rfl)) (fun k q => by
     subst q
     rcases Nat.lt_or_ge k W.heap.size with r | r
     · exact .inl (.inr (hS r))
     · exact .inr r),h.inv⟩
theorem step {α : Type} {val : α → Value} {Q : α → Prop} {pr : Prg α} {e : Ending} (h : MidV W wr F S p kn n D F') (m : More wr w1) (hk : OkK kn) (G : Good n Q pr) (he : WentV w1 F' p kn val (pr kn D) e w2) :
   (∃ a,pr kn D = .need a ∧ e = .panicked (endOf p) ∧ DeadAt w2 p a ∧ Turned (fun b => F b ∨ S b) W w2 ∧ ∀ b o,¬ F' b → wr.heap[b]? = some o → w2.heap[b]? = some o) ∨
   (∃ x D1 F1,pr kn D = .ok x D1 ∧ e = .returned (val x) ∧ MidV W w2 F S p kn n D1 F1 ∧ Q x ∧ (∀ b o,¬ F' b → wr.heap[b]? = some o → w2.heap[b]? = some o) ∧ ∀ b,F1 b → F' b ∨ wr.heap.size ≤ b) := by
 have hm := h.more m
 have hs := m.size
 have hK : ∀ t,Turned F' w1 t → ∀ b o,¬ F' b → wr.heap[b]? = some o → t.heap[b]? = some o := fun t ht b o nb hb => (ht.block b (lt_of_heap (m.block hb)) nb).trans (m.block hb)
 cases hE : pr kn D with
 | need a =>
   rw [hE] at he
   obtain ⟨h1,h2,h3⟩ := he
   exact .inl ⟨a,rfl,h1,h2,turned_own hm.turn h3 (fun k q => (h.from' k q).imp .inl id),hK _ h3⟩
 | ok x D1 =>
   rw [hE] at he
   obtain ⟨h1,F1,hv,ht,hn⟩ := he
   obtain ⟨i1,q1⟩ := G.ok hk h.inv hE
   refine .inr ⟨x,D1,F1,rfl,h1,⟨hv,fun k q => ?_,turned_own hm.turn ht (fun k q => (h.from' k q).imp .inl id),i1⟩,q1,hK _ ht,fun b q => (hn b q).imp id (fun r => by omega)⟩
   rcases hn k q with r | r
   · exact h.from' k r
   · have := hm.size; exact .inr (by omega)
end MidV
theorem wy_need {W w2 : World} {F S : Nat → Prop} {Y X : World → Prop} {p : Nat} {kn : Int → Option Int} {R : Ran} {a : Int} (hR : R = .need a) (hd : DeadAt w2 p a) (ht : Turned (fun b => F b ∨ S b) W w2) (hy : Y w2) : WentY W F S Y X p kn R (.panicked (endOf p)) w2 := by
 subst hR; exact ⟨rfl,hd,ht,hy⟩
theorem wy_done {W wr : World} {F S F' : Nat → Prop} {Y X : World → Prop} {p n : Nat} {kn : Int → Option Int} {D : List KV} {R : Ran} (h : MidV W wr F S p kn n D F') (hR : R = .done D) (hy : Y wr) (hx : X wr) : WentY W F S Y X p kn R (.returned (.tuple #[])) wr := by
 subst hR; exact ⟨rfl,⟨F',h.view⟩,h.turn,hy,hx⟩
theorem bindP_assoc {α β γ : Type} (p : Prg α) (f : α → Prg β) (g : β → Prg γ) : bindP (bindP p f) g = bindP p (fun x => bindP (f x) g) := by
 funext kn D; unfold bindP; cases p kn D <;> rfl
theorem mapR_eq {α β : Type} (f : α → β) (p : Prg α) (kn : Int → Option Int) (D : List KV) : mapR f (p kn D) = bindP p (fun x => pureP (f x)) kn D := by
 unfold bindP; cases p kn D <;> rfl
def BoxB (g : Nat) (w : World) (b : Bool) : Prop := w.heap[g]? = some (.cells #[.bool b] 4 (0,0))
theorem ranOf_need {α : Type} {R : Res α} {a : Int} (h : R = .need a) : ranOf R = .need a := by rw [h]; rfl
theorem ranOf_ok {α : Type} {R : Res α} {x : α} {D : List KV} (h : R = .ok x D) : ranOf R = .done D := by rw [h]; rfl
theorem entry1 (w : World) (o0 : Obj) : ∃ w1,w.alloc o0 = w1 ∧ w1.heap[w.heap.size]? = some o0 ∧ More w w1 ∧ w1.heap.size = w.heap.size + 1 := ⟨_,rfl,heap_new w o0,(More.refl _).alloc _,by simp⟩
theorem entry2 (w : World) (o0 o1 : Obj) : ∃ w2,(w.alloc o0).alloc o1 = w2 ∧ w2.heap[w.heap.size]? = some o0 ∧ w2.heap[w.heap.size + 1]? = some o1 ∧ More w w2 ∧ w2.heap.size = w.heap.size + 2 := by
 obtain ⟨w1,e1,h0,m0,s0⟩ := entry1 w o0
 rw [e1]
 obtain ⟨w2,e2,h1,m1,s1⟩ := entry1 w1 o1
 rw [s0] at h1
 exact ⟨w2,e2,m1.block h0,h1,m0.trans m1,by omega⟩
theorem entry3 (w : World) (o0 o1 o2 : Obj) : ∃ w3,((w.alloc o0).alloc o1).alloc o2 = w3 ∧ w3.heap[w.heap.size]? = some o0 ∧ w3.heap[w.heap.size + 1]? = some o1 ∧ w3.heap[w.heap.size + 2]? = some o2 ∧ More w w3 ∧ w3.heap.size = w.heap.size + 3 := by
 have h0 := heap_new w o0
 have s0 : (w.alloc o0).heap.size = w.heap.size + 1 := by simp
 have m0 : More w (w.alloc o0) := (More.refl _).alloc _
 generalize w.alloc o0 = w1 at h0 s0 m0 ⊢
 have h1 := heap_new w1 o1
 rw [s0] at h1
 have s1 : (w1.alloc o1).heap.size = w.heap.size + 2 := by simp [s0]
 have m1 : More w1 (w1.alloc o1) := (More.refl _).alloc _
 generalize w1.alloc o1 = w2 at h1 s1 m1 ⊢
 have h2 := heap_new w2 o2
 rw [s1] at h2
 have m2 : More w2 (w2.alloc o2) := (More.refl _).alloc _
 exact ⟨_,rfl,m2.block (m1.block h0),m2.block h1,h2,(m0.trans m1).trans m2,by simp [s1]⟩
theorem mid_need {α : Type} {w w1 w2 : World} {F S : Nat → Prop} {p : Nat} {kn : Int → Option Int} {val : α → Value} {R : Res α} {a : Int} (m : More w w1) (hS : ∀ b,S b → w.heap.size ≤ b) (hR : R = .need a) (hd : DeadAt w2 p a) (ht : Turned (fun b => F b ∨ S b) w1 w2) : WentV w F p kn val R (.panicked (endOf p)) w2 :=
 WentV.need hR ⟨rfl,hd,turned_own (Turned.mono m (fun _ _ q => q.elim)) ht (fun k q => q.imp id (hS k))⟩
theorem mid_done {α : Type} {w w1 w2 : World} {F S F' : Nat → Prop} {p n : Nat} {kn : Int → Option Int} {val : α → Value} {R : Res α} {x : α} {D : List KV} (m : More w w1) (hS : ∀ b,S b → w.heap.size ≤ b) (h : MidV w1 w2 F S p kn n D F') (hR : R = .ok x D) : WentV w F p kn val R (.returned (val x)) w2 :=
 WentV.did hR ⟨rfl,F',h.view,turned_own (Turned.mono m (fun _ _ q => q.elim)) h.turn (fun k q => q.imp id (hS k)),fun k q => (h.from' k q).imp id (fun r => Nat.le_trans m.size r)⟩
theorem mid_own {w1 w2 : World} {F S F' : Nat → Prop} {p n : Nat} {kn : Int → Option Int} {D : List KV} (h : MidV w1 w2 F S p kn n D F') {b : Nat} {o : Obj} (hb : w1.heap[b]? = some o) (nF : ¬ F b) (nS : ¬ S b) : w2.heap[b]? = some o :=
 (h.turn.block b (lt_of_heap hb) (by rintro (q | q); exact nF q; exact nS q)).trans hb
theorem read_any (F : Nat → Prop) (p : Nat) (kn : Int → Option Int) (D : List KV) (a : Int) (w : World) (h : ViewAt w F p kn D) (hw : W64 a) :
   Calls Tryz.prog 62 #[.pointer (some ⟨p,0,none⟩),.int .i64 a] w (WentV w F p kn (fun x => .int .i64 x) (readP a kn D)) := by
 cases e : wordV kn D a with
 | none => exact (read_need F p kn D a w h hw e).mono (fun _ _ he => WentV.need (readP_none e) he)
 | some y =>
   refine (read_some F p kn D a y w h hw e).mono ?_
   rintro _ _ ⟨rfl,n,rfl⟩
   exact WentV.same (readP_some e) h ((More.refl w).drewN n)
theorem write_any (F : Nat → Prop) (p : Nat) (kn : Int → Option Int) (D : List KV) (a x : Int) (w : World) (h : ViewAt w F p kn D) (hs : D.length < 100000) :
   Calls Tryz.prog 68 #[.pointer (some ⟨p,0,none⟩),.int .i64 a,.int .i64 x] w (WentV w F p kn (fun _ : Unit => .tuple #[]) (writeP a x kn D)) :=
 (write_ok F p kn D a x w h hs).mono (fun _ _ he => WentV.did rfl he)
end Go.Proofs.YtmafllcmkhgidaaGreatDoor
namespace Go.Proofs.YtmafllcmkhgidaaGreatDoor
def isChunk (pg k : Int) : Bool := decide (0 ≤ k) && decide (k < chunksV pg)
theorem isChunk_iff {pg k : Int} : isChunk pg k = true ↔ 0 ≤ k ∧ k < chunksV pg := by simp [isChunk]
theorem isChunk_not {pg k : Int} : isChunk pg k = false ↔ ¬ (0 ≤ k ∧ k < chunksV pg) := by
 cases h : isChunk pg k with
 | true => simp [isChunk_iff.1 h]
 | false => simp only [true_iff]; intro q; rw [isChunk_iff.2 q] at h; cases h
theorem tbl_in {pg st k : Int} (h : isChunk pg k = true) : tblV pg st k = tableV st + k := if_pos (isChunk_iff.1 h)
theorem tbl_out {pg st k : Int} (h : isChunk pg k = false) : tblV pg st k = 0 := if_neg (isChunk_not.1 h)
def ofV (p : Int) : Int := if p < 0 then -1 else p / 4
def firstV (pg k : Int) : Int := if isChunk pg k then 4 * k else 0
def sizeV (pg k : Int) : Int := if isChunk pg k then min 4 (pg - 4 * k) else 0
def thereB (pg p n : Int) : Bool := decide (0 ≤ p) && (decide (1 ≤ n) && decide (n ≤ pg - p))
theorem there_iff {pg p n : Int} : thereB pg p n = true ↔ 0 ≤ p ∧ 1 ≤ n ∧ n ≤ pg - p := by simp [thereB]
def mappedP (pg st k : Int) : Prg Bool := if isChunk pg k then bindP (readP (tblV pg st k)) (fun y => pureP (decide (y = 1))) else pureP false
def turnP (pg st k x : Int) : Prg Int := if isChunk pg k then bindP (mappedP pg st k) (fun b => if b = decide (x = 1) then pureP 0 else bindP (writeP (tblV pg st k) x) (fun _ => pureP (sizeV pg k))) else pureP 0
def ensureN (pg st : Int) : Nat → Int → Int → Prg Int
 | 0,_,s => pureP s
 | m + 1,k,s => bindP (turnP pg st k 1) (fun x => ensureN pg st m (k + 1) (s + x))
def countN (pg st : Int) : Nat → Int → Int → Prg Int
 | 0,_,s => pureP s
 | m + 1,k,s => bindP (mappedP pg st k) (fun b => countN pg st m (k + 1) (s + if b then sizeV pg k else 0))
def spanV (p n : Int) : Nat := ((p + n - 1) / 4 - p / 4 + 1).toNat
def ensureP (pg st p n : Int) : Prg Int := if thereB pg p n then ensureN pg st (spanV p n) (p / 4) 0 else pureP 0
def countP (pg st : Int) : Prg Int := countN pg st (chunksV pg).toNat 0 0
structure TblIn (pg st : Int) (n : Nat) : Prop where
 st1 : 1 ≤ st
 st2 : st ≤ 64
 pg1 : 1 ≤ pg
 pg2 : pg ≤ 256
 top : tableV st + chunksV pg ≤ n
section
variable {pg st : Int} {n : Nat} (H : TblIn pg st n)
include H
theorem tbl_b {k : Int} (h : isChunk pg k = true) : 4 ≤ tblV pg st k ∧ tblV pg st k < n ∧ W64 (tblV pg st k) := by
 rw [tbl_in h]
 have := isChunk_iff.1 h
 have h1 := H.st1; have h2 := H.st2; have h3 := H.top; have h4 := H.pg1; have h5 := H.pg2
 unfold chunksV at *
 unfold tableV W64 at *
 omega
theorem size_b (k : Int) : 0 ≤ sizeV pg k ∧ sizeV pg k ≤ 4 := by
 unfold sizeV
 split
 · rename_i h
   have := isChunk_iff.1 h
   have := H.pg1
   unfold chunksV at *
   omega
 · omega
theorem good_mapped (k : Int) : Good n (fun _ => True) (mappedP pg st k) := by
 unfold mappedP
 split
 · rename_i h
   exact good_bind (good_read n (tbl_b H h).2.1) (fun y _ => good_pure n trivial)
 · exact good_pure n trivial
theorem good_turn (k x : Int) (hx : W64 x) : Good n (fun y => 0 ≤ y ∧ y ≤ 4) (turnP pg st k x) := by
 unfold turnP
 split
 · rename_i h
   obtain ⟨h0,h1,h2⟩ := tbl_b H h
   refine good_bind (good_mapped H k) (fun b _ => ?_)
   split
   · exact good_pure n (by omega)
   · exact good_bind (good_write n h2 h1 hx) (fun _ _ => good_pure n (size_b H k))
 · exact good_pure n (by omega)
theorem good_ensureN (m : Nat) : ∀ k s : Int,0 ≤ s → Good n (fun y : Int => 0 ≤ y ∧ y ≤ s + 4 * m) (ensureN pg st m k s) := by
 induction m with
 | zero => intro k s h; exact good_pure n (by omega)
 | succ m ih =>
   intro k s h
   exact good_bind (good_turn H k 1 (by unfold W64; omega)) (fun x hx => good_imp (ih _ _ (by omega)) (fun y hy => by omega))
end
theorem sound_mapped (pg st k : Int) : Sound (mappedP pg st k) := by
 unfold mappedP
 exact sound_ite (sound_bind (sound_read _) (fun _ => sound_pure _)) (sound_pure _)
theorem sound_turn (pg st k x : Int) : Sound (turnP pg st k x) := by
 unfold turnP
 exact sound_ite (sound_bind (sound_mapped _ _ _) (fun _ => sound_ite (sound_pure _) (sound_bind (sound_write _ _) (fun _ => sound_pure _)))) (sound_pure _)
theorem sound_ensureN (pg st : Int) (m : Nat) : ∀ k s,Sound (ensureN pg st m k s) := by
 induction m with
 | zero => intro k s; exact sound_pure _
 | succ m ih => intro k s; exact sound_bind (sound_turn _ _ _ _) (fun x => ih _ _)
theorem sound_ensure (pg st p n : Int) : Sound (ensureP pg st p n) := sound_ite (sound_ensureN _ _ _ _ _) (sound_pure _)
theorem span_b {pg p n : Int} (h : thereB pg p n = true) (h2 : pg ≤ 256) : (spanV p n : Int) = (p + n - 1) / 4 - p / 4 + 1 ∧ spanV p n ≤ 64 := by
 obtain ⟨h0,h1,h3⟩ := there_iff.1 h
 unfold spanV; omega
theorem span_in {pg p n : Int} (h : thereB pg p n = true) (i : Nat) (hi : i < spanV p n) : isChunk pg (p / 4 + i) = true := by
 obtain ⟨h0,h1,h3⟩ := there_iff.1 h
 rw [isChunk_iff]
 unfold spanV at hi
 unfold chunksV
 omega
def mappedV (pg st : Int) (ws : List Int) (k : Int) : Bool := isChunk pg k && decide (wAt ws (tblV pg st k) = 1)
def turnV (pg st : Int) (k x : Int) (ws : List Int) : Int × List Int :=
 if isChunk pg k then (if mappedV pg st ws k = decide (x = 1) then (0,ws) else (sizeV pg k,ws.set (tblV pg st k).toNat x)) else (0,ws)
def ensureV (pg st : Int) : Nat → Int → Int → List Int → Int × List Int
 | 0,_,s,ws => (s,ws)
 | m + 1,k,s,ws => ensureV pg st m (k + 1) (s + (turnV pg st k 1 ws).1) (turnV pg st k 1 ws).2
def countV (pg st : Int) : Nat → Int → Int → List Int → Int
 | 0,_,s,_ => s
 | m + 1,k,s,ws => countV pg st m (k + 1) (s + if mappedV pg st ws k then sizeV pg k else 0) ws
section
variable {pg st : Int} {n : Nat} (H : TblIn pg st n)
include H
theorem flat_mapped (k : Int) : Flat n (mappedP pg st k) (fun ws => (mappedV pg st ws k,ws)) := by
 unfold mappedP mappedV
 split
 · rename_i h
   obtain ⟨h0,h1,h2⟩ := tbl_b H h
   exact flat_eq (flat_bind (flat_read (by omega) h1) (fun y => flat_pure n (decide (y = 1)))) (fun ws _ => by simp [h])
 · rename_i h
   exact flat_eq (flat_pure n false) (fun ws _ => by simp [h])
theorem flat_turn (k x : Int) (hx : W64 x) : Flat n (turnP pg st k x) (turnV pg st k x) := by
 unfold turnP
 split
 · rename_i h
   obtain ⟨h0,h1,h2⟩ := tbl_b H h
   have hb : ∀ b : Bool,Flat n (if b = decide (x = 1) then pureP 0 else bindP (writeP (tblV pg st k) x) (fun _ => pureP (sizeV pg k))) (fun ws => if b = decide (x = 1) then (0,ws) else (sizeV pg k,ws.set (tblV pg st k).toNat x)) := fun b => by
     by_cases e : b = decide (x = 1)
     · rw [if_pos e]; exact flat_eq (flat_pure n 0) (fun ws _ => by rw [if_pos e])
     · rw [if_neg e]; exact flat_eq (flat_bind (flat_write (by omega) h1 h2 hx) (fun _ => flat_pure n (sizeV pg k))) (fun ws _ => by rw [if_neg e])
   exact flat_eq (flat_bind (flat_mapped H k) hb) (fun ws _ => by unfold turnV; rw [if_pos h])
 · rename_i h
   exact flat_eq (flat_pure n 0) (fun ws _ => by unfold turnV; rw [if_neg h])
theorem flat_ensureN (m : Nat) : ∀ k s,Flat n (ensureN pg st m k s) (ensureV pg st m k s) := by
 induction m with
 | zero => intro k s; exact flat_pure n s
 | succ m ih => intro k s; exact flat_bind (flat_turn H k 1 (by unfold W64; omega)) (fun x => ih (k + 1) (s + x))
end
theorem turn_len (pg st k x : Int) (ws : List Int) : (turnV pg st k x ws).2.length = ws.length := by
 unfold turnV; split
 · split <;> simp
 · rfl
end Go.Proofs.YtmafllcmkhgidaaGreatDoor
namespace Go.Proofs.YtmafllcmkhgidaaGreatDoor
open Go.RowKit Go.Sort Go.Maps Go.Shelf
structure Cfg where
 wk : Int
 cp : Int
 pg : Int
 st : Int
 tr : Int
 wt : Int
 ck : Int
 pr : Int
 ca : Int
 bi : Int
 ba : Int
def Cfg.Ok (c : Cfg) : Prop := CfgOk c.wk c.cp c.pg c.st c.tr c.wt c.ck c.pr c.ca c.bi c.ba
def Cfg.starts (c : Cfg) : Nat → Int := startsV c.cp c.pg c.st c.ca c.bi
def Cfg.arr (c : Cfg) : Array Value := layArr c.wk c.cp c.pg c.st c.tr c.wt c.ck c.pr c.ca c.bi c.ba c.starts
def Cfg.cells (c : Cfg) : Array Value := #[.int .i64 c.wk,.int .i64 c.cp,.int .i64 c.pg,.int .i64 c.st,.int .i64 c.tr,.int .i64 c.wt,.int .i64 c.ck,.int .i64 c.pr,.int .i64 c.ca,.int .i64 c.bi,.int .i64 c.ba]
def Cfg.words (c : Cfg) : Int := wordsV c.cp c.pg c.st c.ca c.bi
def chkArr (c : Cfg) (k : Int) : Array Value := c.arr.push (.int .i64 k)
theorem y_table {c : Cfg} (R : c.Ok) (w : World) (k : Int) : Calls Tryz.prog 121 #[.agg c.arr,.int .i64 k] w (Gives w (.int .i64 (tblV c.pg c.st k))) := xtable R w k
theorem y_config {c : Cfg} (R : c.Ok) (w : World) : Calls Tryz.prog 6 #[.agg c.arr] w (Gives w (.agg #[.int .i64 c.wk,.int .i64 c.cp,.int .i64 c.pg,.int .i64 c.st,.int .i64 c.tr,.int .i64 c.wt,.int .i64 c.ck,.int .i64 c.pr,.int .i64 c.ca,.int .i64 c.bi,.int .i64 c.ba])) := xconfig R w
theorem y_words {c : Cfg} (R : c.Ok) (w : World) : Calls Tryz.prog 20 #[.agg c.arr] w (Gives w (.int .i64 c.words)) := xwords R w
theorem field_pages (c : Cfg) (W : World) : (Instr.field 23 (.agg #[.int .i64 c.wk,.int .i64 c.cp,.int .i64 c.pg,.int .i64 c.st,.int .i64 c.tr,.int .i64 c.wt,.int .i64 c.ck,.int .i64 c.pr,.int .i64 c.ca,.int .i64 c.bi,.int .i64 c.ba]) 2).run Tryz.prog W = .ok (.int .i64 c.pg) W := by kernel_rfl
theorem build_chunk (c : Cfg) (k : Int) (W : World) : (Instr.build 111 #[(0,.agg c.arr),(1,.int .i64 k)]).run Tryz.prog W = .ok (.agg (chkArr c k)) W := run_build W _ _ _ (by kernel_rfl)
theorem chk_last (c : Cfg) (k : Int) : (chkArr c k)[24]? = some (.int .i64 k) := by rfl
theorem chk_part (c : Cfg) (k : Int) : ∀ j,j < 24 → (chkArr c k)[j]? = c.arr[j]? := fun j hj => by
 unfold chkArr
 rw [Array.getElem?_push,if_neg (by show j ≠ 24; omega)]
theorem run_loadVar_head {P : Program} (w : World) (g : Nat) (t ty : TypeId) (cs hs : Array Value) (fr : Nat × Nat) (d : TypeDesc) (hg : w.heap[g]? = some (.cells cs t fr)) (hc : ∀ j,j < hs.size → cs[j]? = hs[j]?)
   (hu : P.underlying ty = some d) (hd : (match d with | .struct _ | .array _ _ => true | _ => false) = true) (hi : (P.info? ty).map (·.size) = some hs.size) :
   (loadVar ty ⟨g,0,none⟩).run P w = .ok (.agg hs) w := by
 have hl : (loadCells ⟨g,0,none⟩ hs.toList.length).run P w = .ok hs.toList.toArray w :=
   run_loadCells_list (P:=P) w ⟨g,0,none⟩ hs.toList (fun j v hv => by
     have hj : j < hs.size := by have := (List.getElem?_eq_some_iff.1 hv).1; simpa using this
     rw [addr_add,Nat.zero_add,cell_of_row w g j cs t fr hg,hc j hj]
     simpa using hv)
 cases hq : P.info? ty with
 | none => simp [hq] at hi
 | some i =>
   have hs : i.size = hs.size := by simpa [hq] using hi
   have hagg : (isAgg ty).run P w = .ok true w := by
     unfold isAgg
     rw [Sem.run_bind,run_underlying hu w]
     cases d <;> simp_all
   simp only [Array.length_toList,Array.toArray_toList] at hl
   simp [loadVar,Sem.run_bind,hagg,sizeOf,typeInfo,hq,hs,hl]
theorem wpList_load_head {P : Program} {ops : Array Oper} {rest : List Oper} {o : Oper} {a : Act} {w : World} {Q : Exit → Act → World → Prop} (hw : Region.wanted o (yielded ops a.tmps) = true) (ty : TypeId) (x : Operand) (ho : o.op = .load ty x)
   (g : Nat) (hx : a.eval x = .pointer (some ⟨g,0,none⟩)) (t : TypeId) (cs hs : Array Value) (fr : Nat × Nat) (d : TypeDesc) (hg : w.heap[g]? = some (.cells cs t fr)) (hc : ∀ j,j < hs.size → cs[j]? = hs[j]?)
   (hu : P.underlying ty = some d) (hd : (match d with | .struct _ | .array _ _ => true | _ => false) = true) (hi : (P.info? ty).map (·.size) = some hs.size)
   (h : wpList P ops Q rest (a.put o.dst (.agg hs)) w) : wpList P ops Q (o :: rest) a w :=
 wpList_wanted hw fun K hK => by
   unfold Oper.wp Oper.upon execOp
   simp only [ho,hx,Instr.loadAt,Instr.sureAddr,Sem.run_bind,Sem.run_pure,Result.andThen_ok,run_loadVar_head w g t ty cs hs fr d hg hc hu hd hi]
   exact hK _ _ h
theorem c_of (p : Int) (h0 : -9223372036854775808 ≤ p) (h1 : p ≤ 9223372036854775807) (w : World) : Calls Tryz.prog 85 #[.int .i64 p] w fun e w' => e = .returned (.int .i64 (ofV p)) ∧ w' = w := by
 by_cases c : p < 0
 · rw [show ofV p = -1 from if_pos c]
   go_enter Tryz.func85,Tryz.ntmps85
   go_wp2_with fail
   go_ret
   exact ⟨rfl,rfl⟩
 · rw [show ofV p = p / 4 from if_neg c]
   have q2 : IntKind.i64.wrap (p.tdiv 4) = p / 4 := by rw [Int.tdiv_eq_ediv_of_nonneg (by omega)]; exact wrap_in (by omega) (by omega)
   have d0 : decide (p < 0) = false := by simp; omega
   go_enter Tryz.func85,Tryz.ntmps85
   go_wp2_with fail
   go_ret
   exact ⟨rfl,rfl⟩
theorem c_word {c : Cfg} (R : c.Ok) (k : Int) (w : World) : Calls Tryz.prog 112 #[.agg (chkArr c k)] w (Gives w (.int .i64 (tblV c.pg c.st k))) := by
 have HC := hQQ (row_new w (chkArr c k) 111)
 have x24 := cell_more HC.out (More.refl _) (chk_last c k)
 have HM : Hid (More w (w.alloc (.cells (chkArr c k) 111))) := (More.refl w).alloc _
 go_enter Tryz.func112,Tryz.ntmps112
 go_wp2_with (refine wpList_load_head rfl 28 _ rfl _ rfl 111 _ c.arr _ _ HC.out (chk_part c k) Tryz.underlying28 rfl (by kernel_rfl) ?_)
 refine (y_table R _ k).mono ?_
 rintro e w1 ⟨rfl,h1⟩
 go_wp2_with fail
 go_ret
 exact ⟨rfl,HM.out.trans h1⟩
theorem tbl_zero {c : Cfg} (R : c.Ok) (k : Int) : (tblV c.pg c.st k == 0) = !isChunk c.pg k := by
 have h1 := R.st1
 cases h : isChunk c.pg k with
 | true =>
   rw [tbl_in h]
   have := isChunk_iff.1 h
   unfold tableV
   simp; omega
 | false => rw [tbl_out h]; rfl
theorem c_none {c : Cfg} (R : c.Ok) (k : Int) (w : World) : Calls Tryz.prog 111 #[.agg (chkArr c k)] w (Gives w (.bool (!isChunk c.pg k))) := by
 have HC := hQQ (row_new w (chkArr c k) 111)
 have HM : Hid (More w (w.alloc (.cells (chkArr c k) 111))) := (More.refl w).alloc _
 have b0 := tbl_zero R k
 go_enter Tryz.func111,Tryz.ntmps111
 go_wp2_with (refine wpList_load_row rfl 111 _ rfl _ rfl 111 _ _ _ HC.out Tryz.underlying111 rfl (by kernel_rfl) ?_)
 refine (c_word R k _).mono ?_
 rintro e w1 ⟨rfl,h1⟩
 go_wp2_with fail
 go_ret
 exact ⟨rfl,HM.out.trans h1⟩
theorem c_pages {c : Cfg} (R : c.Ok) (k : Int) (w : World) : Calls Tryz.prog 115 #[.agg (chkArr c k)] w (Gives w (.tuple #[.int .i64 (firstV c.pg k),.int .i64 (sizeV c.pg k)])) := by
 have HC := hQQ (row_new w (chkArr c k) 111)
 have HM : Hid (More w (w.alloc (.cells (chkArr c k) 111))) := (More.refl w).alloc _
 cases h : isChunk c.pg k with
 | false =>
   rw [show firstV c.pg k = 0 by unfold firstV; rw [h]; rfl,show sizeV c.pg k = 0 by unfold sizeV; rw [h]; rfl]
   go_enter Tryz.func115,Tryz.ntmps115
   go_wp2_with (refine wpList_load_row rfl 111 _ rfl _ rfl 111 _ _ _ HC.out Tryz.underlying111 rfl (by kernel_rfl) ?_)
   refine (c_none R k _).mono ?_
   rw [h]
   rintro e w1 ⟨rfl,h1⟩
   go_wp2_with fail
   go_ret2
   exact ⟨rfl,HM.out.trans h1⟩
 | true =>
   have hfl := field_pages c
   have hb := isChunk_iff.1 h
   have p1 := R.pg1
   have p2 := R.pg2
   have hu : 4 * k < c.pg ∧ k < 64 := by unfold chunksV at hb; omega
   have q0 : IntKind.i64.wrap (k * 4) = 4 * k := by rw [wrap_in (by omega) (by omega)]; omega
   have q1 : IntKind.i64.wrap (c.pg - 4 * k) = c.pg - 4 * k := wrap_in (by omega) (by omega)
   rw [show firstV c.pg k = 4 * k by unfold firstV; rw [h]; rfl,show sizeV c.pg k = min 4 (c.pg - 4 * k) by unfold sizeV; rw [h]; rfl]
   generalize hz : c.pg - 4 * k = z at q1
   have R' := hQQ R
   clear hb hu p1 p2
   have zz := hQQ hz
   clear hz
   go_enter Tryz.func115,Tryz.ntmps115
   go_wp2_with (refine wpList_load_row rfl 111 _ rfl _ rfl 111 _ _ _ HC.out Tryz.underlying111 rfl (by kernel_rfl) ?_)
   refine (c_none R'.out k _).mono ?_
   rw [h]
   rintro e w1 ⟨rfl,h1⟩
   have HC1 := hQQ (h1.block HC.out)
   have HM1 := hQQ (HM.out.trans h1)
   have x24 := cell_more HC1.out (More.refl _) (chk_last c k)
   clear h1
   go_wp2_with (refine wpList_load_head rfl 28 _ rfl _ rfl 111 _ c.arr _ _ HC1.out (chk_part c k) Tryz.underlying28 rfl (by kernel_rfl) ?_)
   refine (y_config R'.out _).mono ?_
   rintro e w2 ⟨rfl,h2⟩
   have HM2 := hQQ (HM1.out.trans h2)
   have q3 := zz.out
   clear h2
   go_wp2_with fail
   go_ret2
   exact ⟨rfl,HM2.out⟩
theorem tbl64 {c : Cfg} (R : c.Ok) {k : Int} (h : isChunk c.pg k = true) : W64 (tblV c.pg c.st k) := by
 rw [tbl_in h]
 have := isChunk_iff.1 h
 have h1 := tableB R; have h2 := chunksB R
 unfold W64; omega
theorem c_isMapped {c : Cfg} (R : c.Ok) (F : Nat → Prop) (p : Nat) (kn : Int → Option Int) (D : List KV) (k : Int) (w : World) (hv : ViewAt w F p kn D) :
   Calls Tryz.prog 103 #[.agg (chkArr c k),.pointer (some ⟨p,0,none⟩)] w (WentV w F p kn (fun b => .bool b) (mappedP c.pg c.st k kn D)) := by
 have HC := hQQ (row_new w (chkArr c k) 111)
 have HM : Hid (More w (w.alloc (.cells (chkArr c k) 111))) := (More.refl w).alloc _
 have HV := hQQ hv
 have HR := hQQ R
 clear hv
 cases h : isChunk c.pg k with
 | false =>
   have FIN : Hid (∀ w',More w w' → WentV w F p kn (fun b => .bool b) (mappedP c.pg c.st k kn D) (.returned (.bool false)) w') := hQQ fun w' m => WentV.same (by unfold mappedP; rw [h]; rfl) HV.out m
   go_enter Tryz.func103,Tryz.ntmps103
   go_wp2_with (refine wpList_load_row rfl 111 _ rfl _ rfl 111 _ _ _ HC.out Tryz.underlying111 rfl (by kernel_rfl) ?_)
   refine (c_none HR.out k _).mono ?_
   rw [h]
   rintro e w1 ⟨rfl,h1⟩
   have HM1 := hQQ (HM.out.trans h1)
   clear h1
   go_wp2_with fail
   go_ret
   exact FIN.out _ HM1.out
 | true =>
   have hR : mappedP c.pg c.st k kn D = bindP (readP (tblV c.pg c.st k)) (fun y => pureP (decide (y = 1))) kn D := by unfold mappedP; rw [h]; rfl
   rw [hR]
   have HW := hQQ (tbl64 R h)
   go_enter Tryz.func103,Tryz.ntmps103
   go_wp2_with (refine wpList_load_row rfl 111 _ rfl _ rfl 111 _ _ _ HC.out Tryz.underlying111 rfl (by kernel_rfl) ?_)
   refine (c_none HR.out k _).mono ?_
   rw [h]
   rintro e w1 ⟨rfl,h1⟩
   have HM1 := hQQ (HM.out.trans h1)
   have HC1 := hQQ (h1.block HC.out)
   clear h1
   go_wp2_with (refine wpList_load_rowG rfl 111 _ rfl _ rfl 111 _ _ _ HC1.out Tryz.underlying111 rfl (by kernel_rfl) ?_)
   refine (c_word HR.out k _).mono ?_
   rintro e w2 ⟨rfl,h2⟩
   have HM2 := hQQ (HM1.out.trans h2)
   clear h2
   have HV2 := hQQ (HV.out.more HM2.out)
   cases hw : wordV kn D (tblV c.pg c.st k) with
   | none =>
     have HN := hQQ hw
     clear hw
     go_wp2_with fail
     refine (read_need F p kn D _ w2 HV2.out HW.out HN.out).mono ?_
     intro e w3 he
     obtain rfl := he.1
     exact ⟨rfl,WentV.after HM2.out (WentV.need (bindP_need (readP_none HN.out)) he)⟩
   | some y =>
     have HN := hQQ hw
     have FIN : Hid (∀ n,WentV w F p kn (fun b => .bool b) (bindP (readP (tblV c.pg c.st k)) (fun y => pureP (decide (y = 1))) kn D) (.returned (.bool (decide (y = 1)))) (w2.drewN n)) := hQQ fun n => WentV.same (by rw [bindP_ok (readP_some HN.out)]; rfl) HV.out (HM2.out.drewN n)
     have b1 : (y == 1) = decide (y = 1) := by by_cases q : y = 1 <;> simp [q]
     clear hw
     go_wp2_with fail
     refine (read_some F p kn D _ y w2 HV2.out HW.out HN.out).mono ?_
     rintro e w3 ⟨rfl,n,rfl⟩
     go_wp2_with fail
     go_ret
     exact FIN.out n
theorem c_turn {c : Cfg} (R : c.Ok) {n : Nat} (H : TblIn c.pg c.st n) (hn : n ≤ 10000) (F : Nat → Prop) (p : Nat) (kn : Int → Option Int) (D : List KV) (k x : Int) (w : World) (hv : ViewAt w F p kn D) (hk : OkK kn) (hD : InvD n D) :
   Calls Tryz.prog 106 #[.agg (chkArr c k),.pointer (some ⟨p,0,none⟩),.int .i64 x] w (WentV w F p kn (fun y => .int .i64 y) (turnP c.pg c.st k x kn D)) := by
 have HC := hQQ (row_new w (chkArr c k) 111)
 have HM : Hid (More w (w.alloc (.cells (chkArr c k) 111))) := (More.refl w).alloc _
 have HV := hQQ hv
 have HR := hQQ R
 have HK := hQQ hk
 have HD := hQQ hD
 have HH := hQQ H
 clear hv hk hD H
 cases h : isChunk c.pg k with
 | false =>
   have FIN : Hid (∀ w',More w w' → WentV w F p kn (fun y => .int .i64 y) (turnP c.pg c.st k x kn D) (.returned (.int .i64 0)) w') := hQQ fun w' m => WentV.same (by unfold turnP; rw [h]; rfl) HV.out m
   go_enter Tryz.func106,Tryz.ntmps106
   go_wp2_with (refine wpList_load_row rfl 111 _ rfl _ rfl 111 _ _ _ HC.out Tryz.underlying111 rfl (by kernel_rfl) ?_)
   refine (c_none HR.out k _).mono ?_
   rw [h]
   rintro e w1 ⟨rfl,h1⟩
   have HM1 := hQQ (HM.out.trans h1)
   clear h1
   go_wp2_with fail
   go_ret
   exact FIN.out _ HM1.out
 | true =>
   have hR : turnP c.pg c.st k x kn D = bindP (mappedP c.pg c.st k) (fun b => if b = decide (x = 1) then pureP 0 else bindP (writeP (tblV c.pg c.st k) x) (fun _ => pureP (sizeV c.pg k))) kn D := by unfold turnP; rw [h]; rfl
   rw [hR]
   have HW := hQQ (tbl64 R h)
   go_enter Tryz.func106,Tryz.ntmps106
   go_wp2_with (refine wpList_load_row rfl 111 _ rfl _ rfl 111 _ _ _ HC.out Tryz.underlying111 rfl (by kernel_rfl) ?_)
   refine (c_none HR.out k _).mono ?_
   rw [h]
   rintro e w1 ⟨rfl,h1⟩
   have HM1 := hQQ (HM.out.trans h1)
   have HC1 := hQQ (h1.block HC.out)
   clear h1
   have HV1 := hQQ (HV.out.more HM1.out)
   have bx : (x == 1) = decide (x = 1) := by by_cases q : x = 1 <;> simp [q]
   go_wp2_with (refine wpList_load_rowG rfl 111 _ rfl _ rfl 111 _ _ _ HC1.out Tryz.underlying111 rfl (by kernel_rfl) ?_)
   refine (c_isMapped HR.out F p kn D k w1 HV1.out).mono ?_
   intro e w2 he
   cases hm : mappedP c.pg c.st k kn D with
   | need a =>
     rw [hm] at he
     obtain rfl := he.1
     have FIN := WentV.after (kn:=kn) HM1.out (WentV.need (val:=fun y : Int => Value.int .i64 y) (bindP_need (f:=fun b : Bool => if b = decide (x = 1) then pureP (0 : Int) else bindP (writeP (tblV c.pg c.st k) x) (fun _ => pureP (sizeV c.pg k))) hm) he)
     exact ⟨rfl,FIN⟩
   | ok b D1 =>
     rw [hm] at he
     have HB := hQQ hm
     have hI1 := ((good_mapped HH.out k).ok HK.out HD.out hm).1
     obtain ⟨rfl,F1,hv2,ht2,hn2⟩ := he
     have lD1 : D1.length < 100000 := by have := hI1.len; omega
     have HV2 := hQQ hv2
     have HT2 : Hid (Turned F w w2) := hQQ (turned_own (Turned.mono HM1.out (fun _ _ q => q.elim)) ht2 (fun k q => .inl q))
     have HN1 := hQQ hn2
     have HN2 : Hid (∀ k,F1 k → F k ∨ w.heap.size ≤ k) := hQQ fun k q => (hn2 k q).imp id (fun r => Nat.le_trans HM1.out.size r)
     have nC : ¬ F w.heap.size := fun q => by have := HV.out.lt _ q; omega
     have HC2 : Hid (w2.heap[w.heap.size]? = _) := hQQ ((Turned.block ht2 _ (lt_of_heap HC1.out) nC).trans HC1.out)
     clear hm hI1 hv2 ht2 hn2
     by_cases hb : b = decide (x = 1)
     · have FIN : Hid (∀ w',More w2 w' → WentV w F p kn (fun y => .int .i64 y) (bindP (mappedP c.pg c.st k) (fun b => if b = decide (x = 1) then pureP 0 else bindP (writeP (tblV c.pg c.st k) x) (fun _ => pureP (sizeV c.pg k))) kn D) (.returned (.int .i64 0)) w') := hQQ fun w' m =>
         WentV.from HT2.out HN2.out (WentV.same (by rw [bindP_ok HB.out,if_pos hb]; rfl) HV2.out m)
       have be : (b == decide (x = 1)) = true := by simp [hb]
       clear hb
       go_wp2_with fail
       go_ret
       exact FIN.out _ (More.refl _)
     · have FIN : Hid (∀ w0 e w',More w2 w0 → DidView w0 F1 p kn (writeV D1 (tblV c.pg c.st k) x) (.tuple #[]) e w' → e = .returned (.tuple #[]) ∧ Turned F1 w0 w' ∧ ∀ w'',More w' w'' → WentV w F p kn (fun y => .int .i64 y) (bindP (mappedP c.pg c.st k) (fun b => if b = decide (x = 1) then pureP 0 else bindP (writeP (tblV c.pg c.st k) x) (fun _ => pureP (sizeV c.pg k))) kn D) (.returned (.int .i64 (sizeV c.pg k))) w'') := hQQ fun w0 e w' m hd => by
         obtain ⟨he,F2,hv3,ht3,hn3⟩ := hd
         refine ⟨he,ht3,fun w'' m2 => ?_⟩
         refine WentV.from HT2.out HN2.out (WentV.did (x:=sizeV c.pg k) (D:=writeV D1 (tblV c.pg c.st k) x) (by rw [bindP_ok HB.out,if_neg hb]; rfl) ⟨rfl,F2,hv3.more m2,?_,fun k q => (hn3 k q).imp id (fun r => Nat.le_trans m.size r)⟩)
         exact turned_own (F' := fun _ => False) (turned_own (Turned.mono m (fun _ _ q => q.elim)) ht3 (fun k q => .inl q)) m2 (fun _ q => q.elim)
       have be : (b == decide (x = 1)) = false := by simp [hb]
       clear hb
       go_wp2_with (refine wpList_load_row rfl 111 _ rfl _ rfl 111 _ _ _ HC2.out Tryz.underlying111 rfl (by kernel_rfl) ?_)
       refine (c_word HR.out k _).mono ?_
       rintro e w3 ⟨rfl,h3⟩
       have HM3 := hQQ h3
       have HV3 := hQQ (HV2.out.more h3)
       have HC3 := hQQ (h3.block HC2.out)
       clear h3
       go_wp2_with fail
       refine (write_ok F1 p kn D1 (tblV c.pg c.st k) x w3 HV3.out lD1).mono ?_
       intro e w4 he
       obtain ⟨rfl,ht4,hf⟩ := FIN.out w3 e w4 HM3.out he
       have HF := hQQ hf
       have nC1 : ¬ F1 w.heap.size := fun q => by
         have h0 : w.heap.size < w1.heap.size := lt_of_heap HC1.out
         rcases HN1.out _ q with r | r
         · exact nC r
         · omega
       have HC4 : Hid (w4.heap[w.heap.size]? = _) := hQQ ((Turned.block ht4 _ (lt_of_heap HC3.out) nC1).trans HC3.out)
       clear hf he ht4
       go_wp2_with (refine wpList_load_row rfl 111 _ rfl _ rfl 111 _ _ _ HC4.out Tryz.underlying111 rfl (by kernel_rfl) ?_)
       refine (c_pages HR.out k _).mono ?_
       rintro e w5 ⟨rfl,h5⟩
       have HM5 := hQQ h5
       clear h5
       go_wp2_with fail
       go_ret
       exact HF.out _ HM5.out
end Go.Proofs.YtmafllcmkhgidaaGreatDoor
namespace Go.Proofs.YtmafllcmkhgidaaGreatDoor
open Go.RowKit
variable {F : Fence} {n : Nat} {P : Program}
def endsRound (P : Program) (l : Nat) (R : Ending → World → Prop) : Exit → Act → World → Prop
 | .panic chain,a,w => a.defers = [] ∧ R (.panicked chain) w
 | e,a,w => roundPost P l R e a w
theorem round_ends {l : Nat} {f : FuncId} {fn : Func} {tmps : Array Value} {assign body : Code} {w : World} {R : Ending → World → Prop} (hF : F.fn f) (hf : P.funcs[f]? = some fn)
   (h : assign.wpIn (F.inRound l) n P (Exit.then (fun a₁ w₁ => ∃ w₂,(Instr.beginRound l).run P w₁ = .ok () w₂ ∧ body.wpIn (F.inRound l) n P (endsRound P l R) a₁ w₂) (fun _ _ _ => False)) { tmps := tmps,defers := [] } w) :
   RoundIn F n P l f tmps assign body w R := by
 refine ⟨hF,fun c cs hr => ?_⟩
 obtain ⟨b,hb⟩ : ∃ b : Frame,b = { (default : Frame) with fn := f,kind := .normal,roundOf := some l } := ⟨_,rfl⟩
 have bf : b.fn = f := by rw [hb]
 have bk : b.kind = .normal := by rw [hb]
 have br : b.roundOf = some l := by rw [hb]
 have start : Frame.round l f tmps assign body .normal = b.atR { tmps := tmps,defers := [] } [.code assign,.beginRound,.code body] := by simp [Frame.round,Frame.atR,bf,bk,br]
 have room : (F.inRound l).room ((c :: cs).length + 1 + n) := hr
 have inn : (F.inRound l).fn b.fn := by rw [bf]; exact hF
 have calm : ∀ {a todo W},(b.atR a todo).about P W = none → (lone (b.atR a todo) (c :: cs) W).fenced P F := fun q => fenced_calm (F:=F) (fr:=b.atR _ _) (by exact inn) room q
 obtain ⟨e,a₁,w₁,hq,way⟩ := h b [.beginRound,.code body] (c :: cs) br inn room
 rw [← start] at way
 cases e with
 | normal =>
   obtain ⟨w₂,hbegin,hbody⟩ := hq
   obtain ⟨e₂,a₂,w₃,hq₂,way₂⟩ := hbody b [] (c :: cs) br inn room
   have here : StepsIn (Machine.fenced P F) P (lone (Frame.round l f tmps assign body .normal) (c :: cs) w) (lone (b.atR a₁ [.code body]) (c :: cs) w₂) := StepsIn.trans way (.one (calm rfl) (stepR_beginRound br hbegin))
   have some' : b.roundOf.isSome = true := by rw [br]; rfl
   cases e₂ with
   | normal => obtain ⟨v,w₄,h1,h2⟩ := hq₂; exact ⟨.returned v,w₄,h2,StepsIn.trans here (StepsIn.trans way₂ (.one (calm rfl) (stepR_round_end br bk h1)))⟩
   | ret => obtain ⟨v,w₄,h1,h2⟩ := hq₂; obtain ⟨k₁,s⟩ := way₂.2 some'; exact ⟨.returned v,w₄,h2,StepsIn.trans here (StepsIn.trans s (.one (calm rfl) (stepR_round_ret br bk h1)))⟩
   | exit id => obtain ⟨v,w₄,h1,h2⟩ := hq₂; obtain ⟨k₁,hk,s⟩ := way₂.2 some' rfl; exact ⟨.returned v,w₄,h2,StepsIn.trans here (StepsIn.trans s (.one (calm rfl) (stepR_round_exit br bk hk h1)))⟩
   | goto t => obtain ⟨v,w₄,h1,h2⟩ := hq₂; obtain ⟨k₁,hk,s⟩ := way₂.2 some' rfl; exact ⟨.returned v,w₄,h2,StepsIn.trans here (StepsIn.trans s (.one (calm rfl) (stepR_round_goto br bk hk h1)))⟩
   | panic chain =>
     obtain ⟨hd,h2⟩ := hq₂
     obtain ⟨todo,s⟩ := way₂
     have lv : Frame.leaving P { b.atR a₂ todo with mode := .panicking chain } w₃ (.panicked chain) := ⟨rfl,hd,fn,by show P.funcs[b.fn]? = _; rw [bf]; exact hf⟩
     exact ⟨.panicked chain,w₃,h2,StepsIn.trans here (StepsIn.trans s (.one (fenced_leaving (F:=F) (by exact inn) room lv) (step_leave_panicked lv)))⟩
   | outgrown => exact hq₂.elim
 | exit id => exact hq.elim
 | goto t => exact hq.elim
 | ret => exact hq.elim
 | panic chain => exact hq.elim
 | outgrown => exact hq.elim
def wpOf (f0 : FuncId) (F : Fence) (n : Nat) (P : Program) (c : Code) (Q : Exit → Act → World → Prop) (a : Act) (w : World) : Prop :=
 ∀ (b : Frame) (k : List Item) (cs : List Frame),b.roundOf = F.round → b.fn = f0 → F.fn b.fn → F.room (cs.length + 1 + n) →
   ∃ e a' w',Q e a' w' ∧ ArrivesIn (Machine.fenced P F) P (lone (b.atR a (.code c :: k)) cs w) b k cs e a' w'
theorem wpOf_of {f0 : FuncId} {c : Code} {Q : Exit → Act → World → Prop} {a : Act} {w : World} (h : c.wpIn F n P Q a w) : wpOf f0 F n P c Q a w :=
 fun b k cs hro _ hb hr => h b k cs hro hb hr
theorem wpOf_seq {f0 : FuncId} {x y : Code} {Q : Exit → Act → World → Prop} {a : Act} {w : World} (h : wpOf f0 F n P x (Exit.then (wpOf f0 F n P y Q) Q) a w) : wpOf f0 F n P (.seq x y) Q a w := by
 intro b k cs hro hf hb hr
 have first : StepsIn (Machine.fenced P F) P (lone (b.atR a (.code (.seq x y) :: k)) cs w) (lone (b.atR a (.code x :: .code y :: k)) cs w) := .one (fenced_calm hb hr rfl) stepR_seq
 obtain ⟨e,a₁,w₁,hq,way⟩ := h b (.code y :: k) cs hro hf hb hr
 by_cases he : e = .normal
 · subst he
   obtain ⟨e₂,a₂,w₂,hq₂,way₂⟩ := hq b k cs hro hf hb hr
   exact ⟨e₂,a₂,w₂,hq₂,.of_steps (StepsIn.trans first way) way₂⟩
 · refine ⟨e,a₁,w₁,?_,.of_steps first (.pass (x:=.code y) rfl (fun _ _ => .inl he) way)⟩
   cases e <;> first | exact hq | exact (he rfl).elim
theorem wpOf_first {f0 : FuncId} {x y : Code} {Q : Exit → Act → World → Prop} {a : Act} {w : World} (h : x.wpIn F n P (Exit.then (wpOf f0 F n P y Q) Q) a w) : wpOf f0 F n P (.seq x y) Q a w :=
 wpOf_seq (wpOf_of h)
theorem wpOf_block {f0 : FuncId} {id : Nat} {x : Code} {Q : Exit → Act → World → Prop} {a : Act} {w : World} (h : wpOf f0 F n P x (Exit.inBlock id Q) a w) : wpOf f0 F n P (.block id x) Q a w := by
 intro b k cs hro hf hb hr
 have first : StepsIn (Machine.fenced P F) P (lone (b.atR a (.code (.block id x) :: k)) cs w) (lone (b.atR a (.code x :: .inBlock id :: k)) cs w) := .one (fenced_calm hb hr rfl) stepR_block
 obtain ⟨e,a₁,w₁,hq,way⟩ := h b (.inBlock id :: k) cs hro hf hb hr
 have gone : ∀ l,gotoIn l (.inBlock id :: k) = gotoIn l k := fun l => by simp [gotoIn]
 cases e with
 | normal => exact ⟨.normal,a₁,w₁,hq,StepsIn.trans first (StepsIn.trans way (.one (fenced_calm hb hr rfl) stepR_inBlock))⟩
 | goto l => exact ⟨.goto l,a₁,w₁,hq,fun k' hk => StepsIn.trans first (way.1 k' (by rw [gone]; exact hk)),fun q hk => let ⟨k₁,h1,h2⟩ := way.2 q (by rw [gone]; exact hk); ⟨k₁,h1,StepsIn.trans first h2⟩⟩
 | exit i =>
   by_cases hi : i = id
   · subst hi
     simp only [Exit.inBlock,if_true] at hq
     exact ⟨.normal,a₁,w₁,hq,StepsIn.trans first (way.1 k (by simp [exitTo]))⟩
   · simp only [Exit.inBlock,hi,if_false] at hq
     have out : exitTo i (.inBlock id :: k) = exitTo i k := by simp [exitTo,show (id == i) = false by simp; exact fun q => hi q.symm]
     exact ⟨.exit i,a₁,w₁,hq,fun k' hk => StepsIn.trans first (way.1 k' (by rw [out]; exact hk)),fun q hk => let ⟨k₁,h1,h2⟩ := way.2 q (by rw [out]; exact hk); ⟨k₁,h1,StepsIn.trans first h2⟩⟩
 | ret => exact ⟨_,a₁,w₁,hq,.of_steps first way⟩
 | panic ch => exact ⟨_,a₁,w₁,hq,.of_steps first way⟩
 | outgrown => exact ⟨_,a₁,w₁,hq,.of_steps first way⟩
theorem callsIn_of_wpOf {f : FuncId} {fn : Func} {c : Code} {args : Array Value} {w : World} {R : Ending → World → Prop} (hf : P.funcs[f]? = some fn) (hb : fn.body = some c) (hF : F.fn f)
   (h : wpOf f F n P c (bodyPostM F n P fn R) { tmps := args ++ Array.replicate (fn.ntmps - args.size) undef,defers := [] } w) (hro : F.round = none) : CallsIn F n P f args w R := by
 refine ⟨hF,fun cs hr => ?_⟩
 obtain ⟨b,hb0⟩ : ∃ b : Frame,b = { (default : Frame) with fn := f,kind := .normal,roundOf := none } := ⟨_,rfl⟩
 have bf : b.fn = f := by rw [hb0]
 have bk : b.kind = .normal := by rw [hb0]
 have br : b.roundOf = none := by rw [hb0]
 have inn : F.fn b.fn := by rw [bf]; exact hF
 have hfb : P.funcs[b.fn]? = some fn := by rw [bf]; exact hf
 have start : Frame.enter P f args .normal = b.atR { tmps := args ++ Array.replicate (fn.ntmps - args.size) undef,defers := [] } [.code c] := by simp [Frame.enter,Frame.atR,hf,hb,bf,bk,br]
 obtain ⟨e,a',w',hq,way⟩ := h b [] cs (by rw [br,hro]) bf inn hr
 rw [← start] at way
 have leave : ∀ (u : FrameMode) (todo : List Item),LeavesInM F n P fn a'.tmps R a'.defers u w' → StepsIn (Machine.fenced P F) P (lone (Frame.enter P f args .normal) cs w) (lone { b.atR a' todo with mode := u } cs w') →
     ∃ e w' fr,R e w' ∧ ComesIn (Machine.fenced P F) P (lone (Frame.enter P f args .normal) cs w) (lone fr cs w') e ∧ fr.fn = f ∧ fr.leaving P w' e := fun u todo hl s => by
   obtain ⟨e',w'',fr',h1,h2,h3,h4⟩ := leaves_stepsInM (F:=F) (n:=n) a'.defers u w' { b.atR a' todo with mode := u } cs rfl rfl rfl hfb bk inn hr hl
   exact ⟨e',w'',fr',h1,ComesIn.of_steps s h2,h3.trans bf,h4⟩
 cases e with
 | normal => exact leave .returning [] hq (StepsIn.trans way (.one (fenced_calm (fr:=b.atR a' []) inn hr rfl) (stepR_end br)))
 | ret => obtain ⟨todo,s⟩ := way.1 br; exact leave .returning todo hq s
 | panic chain => obtain ⟨todo,s⟩ := way; exact leave (.panicking chain) todo hq s
 | exit id => exact hq.elim
 | goto l => exact hq.elim
 | outgrown => exact ⟨.outgrown,w',b,hq,way.resolve_left (by rw [bk]; simp),bf,trivial⟩
def SameOn (S : Nat → Prop) (W W' : World) : Prop := ∀ k,S k → W'.heap[k]? = W.heap[k]?
theorem SameOn.trans {S : Nat → Prop} {A B C : World} (h : SameOn S A B) (k : SameOn S B C) : SameOn S A C := fun i hi => (k i hi).trans (h i hi)
theorem SameOn.put {S : Nat → Prop} (W : World) (l : Nat) (o : Obj) (hl : ¬ S l) : SameOn S W (W.putObj l o) := fun i hi => World.putObj_heap_other (fun e => hl (e ▸ hi))
theorem SameOn.turned {S T : Nat → Prop} {W W' : World} (h : Turned T W W') (hl : ∀ k,S k → k < W.heap.size) (ht : ∀ k,S k → ¬ T k) : SameOn S W W' := fun i hi => Turned.block h i (hl i hi) (ht i hi)
structure Books (B : Nat) (I : World → Prop) : Prop where
 more : ∀ {A A' : World},I A → More A A' → I A'
 put : ∀ {A : World} {r : Loop} (r' : Loop),I A → A.heap[B + 1]? = some (.loop r) → I (A.putObj (B + 1) (.loop r'))
def bookAt (B k : Nat) : Prop := k = B ∨ k = B + 1
def SeqEnds (F : Fence) (n : Nat) (P : Program) (gf : Nat) (lb : Array Value) (enc : Nat → Array Value) (N : Nat) (S : Nat → Prop) (w0 : World) : Prop :=
 ∀ (l : Nat) (J : Nat → World → Prop) (Jx : Ending → Nat → World → Prop) (W : World),More w0 W → (∀ k A B,J k A → More A B → J k B) → (∀ e k A B,Jx e k A → More A B → Jx e k B) →
   (∀ k W1,k < N → J k W1 → YieldAt F (n - 1) P l (enc k) W1 fun e W' => (e = .returned (.bool true) ∧ J (k + 1) W' ∧ SameOn S W1 W') ∨ ((e = .returned (.bool false) ∨ ∃ c,e = .panicked c) ∧ Jx e k W')) → J 0 W →
   CallsIn F n P gf (#[.func (.yield l) #[] #[]] ++ lb) W fun e W' => ((∃ v,e = .returned v) ∧ (J N W' ∨ ∃ k,k < N ∧ Jx (.returned (.bool false)) k W')) ∨ (∃ c k,e = .panicked c ∧ k < N ∧ Jx e k W')
def jumpOf : Exit → Option Code
 | .ret => some .ret
 | .exit id => some (.exit id)
 | .goto t => some (.goto t)
 | _ => none
def bodyEnds (B : Nat) (S : Nat → Prop) (I : Nat → World → Prop) (Ix : Exit → Nat → World → Prop) (k : Nat) (W : World) : Exit → Act → World → Prop
 | .normal,_,W' => SameOn (bookAt B) W W' ∧ SameOn S W W' ∧ I (k + 1) W'
 | .panic c,a,W' => SameOn (bookAt B) W W' ∧ a.defers = [] ∧ Ix (.panic c) k W'
 | .outgrown,_,_ => False
 | e,_,W' => SameOn (bookAt B) W W' ∧ Ix e k W'
theorem range_of {f0 : FuncId} {fn0 : Func} (hf0 : P.funcs[f0]? = some fn0) {g : Operand} {ps : Array Tmp} {assign body : Code} {Q : Exit → Act → World → Prop} {a : Act} {w : World}
   (hro : F.round = none) (h1 : 1 ≤ n) {gf : Nat} {lb : Array Value} (hg : a.eval g = .func (.func gf) #[] lb) (hFg : F.fn gf) (eg : ∀ args w,(callFunc gf args).run P w = .ok (.enter gf args) w)
   {enc : Nat → Array Value} {N : Nat} {S : Nat → Prop} {w0 : World} (hseq : SeqEnds F (n - 1) P gf lb enc N S w0) (hw0 : More w0 w) (hS : ∀ k,S k → k < w.heap.size) (hps : ∀ k,(enc k).size = ps.size)
   (I : Nat → World → Prop) (Ix : Exit → Nat → World → Prop) (hI : ∀ i,Books w.heap.size (I i)) (hIx : ∀ e i,Books w.heap.size (Ix e i)) (h0 : I 0 w) (Ax : Nat → Act → World → Prop) (hAx : ∀ k a',Books w.heap.size (Ax k a'))
   (hassign : ∀ (l k : Nat) (W : World) (K : Act → World → Prop),k < N → w.heap.size + 2 ≤ W.heap.size → I k W → (∀ a' W',SameOn (bookAt w.heap.size) W W' → SameOn S W W' → Ax k a' W' → K a' W') →
     assign.wpIn (F.inRound l) (n - 1 - 1) P (Exit.then K (fun _ _ _ => False)) { tmps := (ps.zip (enc k)).foldl (fun t (p,v) => t.setIfInBounds p v) a.tmps,defers := [] } W)
   (hbody : ∀ (l k : Nat) (a' : Act) (W : World),w.heap.size + 2 ≤ W.heap.size → k < N → Ax k a' W → body.wpIn (F.inRound l) (n - 1 - 1) P (bodyEnds w.heap.size S I Ix k W) a' W)
   (hdone : ∀ W : World,I N W → W.heap[w.heap.size]? = some (.deferred (some [])) → Q .normal { a with defers := { target := .collected w.heap.size,args := #[] } :: a.defers } W)
   (hstop : ∀ (k : Nat) (e : Exit) (c : Code) (W : World),jumpOf e = some c → k < N → Ix e k W → W.heap[w.heap.size]? = some (.deferred (some [])) → c.wpIn F n P Q { a with defers := { target := .collected w.heap.size,args := #[] } :: a.defers } W)
   (hpanic : ∀ (k : Nat) (ch : List PanicEntry) (W : World),k < N → Ix (.panic ch) k W → W.heap[w.heap.size]? = some (.deferred (some [])) → Q (.panic ch) { a with defers := { target := .collected w.heap.size,args := #[] } :: a.defers } W) :
   wpOf f0 F n P (Code.rangeFunc g ps assign body) Q a w := by
 intro b k cs hrb hf hb hr
 have hfb : P.funcs[b.fn]? = some fn0 := by rw [hf]; exact hf0
 -- the record,at its states
 obtain ⟨rec,hrec⟩ : ∃ rec : LoopState → Option Code → Loop,rec = fun st pe => { state := st,pending := pe,fn := b.fn,tmps := a.tmps,params := ps,assign,body,defers := w.heap.size } := ⟨_,rfl⟩
 obtain ⟨W1,hW1⟩ : ∃ W1,(w.alloc (.deferred (some []))).alloc (.loop (rec .ready none)) = W1 := ⟨_,rfl⟩
 have m1 : More w W1 := by rw [← hW1]; exact ((More.refl w).alloc _).alloc _
 have L1 : W1.heap[w.heap.size + 1]? = some (.loop (rec .ready none)) := by
   rw [← hW1]; have := heap_new (w.alloc (.deferred (some []))) (.loop (rec .ready none)); rwa [World.size_alloc] at this
 have D1 : W1.heap[w.heap.size]? = some (.deferred (some [])) := by
   rw [← hW1]; exact ((More.refl _).alloc _).block (heap_new w _)
 -- what is said between two rounds,and where a round has left
 obtain ⟨J,hJ⟩ : ∃ J : Nat → World → Prop,J = fun i W => I i W ∧ W.heap[w.heap.size + 1]? = some (.loop (rec .ready none)) ∧ W.heap[w.heap.size]? = some (.deferred (some [])) := ⟨_,rfl⟩
 obtain ⟨Jx,hJx⟩ : ∃ Jx : Ending → Nat → World → Prop,Jx = fun e i W => (match e with
     | .panicked ch => Ix (.panic ch) i W
     | _ => ∃ x c,jumpOf x = some c ∧ Ix x i W ∧ W.heap[w.heap.size + 1]? = some (.loop (rec .done (some c)))) ∧ W.heap[w.heap.size]? = some (.deferred (some [])) := ⟨_,rfl⟩
 have enter : (Instr.enterLoop b.fn a.tmps ps assign body b.roundOf).run P w = .ok (w.heap.size + 1,[{ target := .collected w.heap.size,args := #[] }]) W1 := by
   rw [hrb,hro,← hW1,hrec]; exact run_enterLoop_outer _ _ _ _ _
 have resol : (resolve a.eval (rangeCall g (w.heap.size + 1)) 0).run P W1 = .ok { target := .fn (.func gf) lb,args := #[.func (.yield (w.heap.size + 1)) #[] #[]] } W1 := by
   simp only [resolve,hg]; simp [go_sem]
 have invok : (invoke (.fn (.func gf) lb) #[.func (.yield (w.heap.size + 1)) #[] #[]]).run P W1 = .ok (.enter gf (#[.func (.yield (w.heap.size + 1)) #[] #[]] ++ lb)) W1 := by
   simp [invoke,go_sem,eg]
 have lead : ∀ f',Target.leads P W1 (.fn (.func gf) lb) #[.func (.yield (w.heap.size + 1)) #[] #[]] = some f' → F.fn f' := fun f' hf' => by
   simp [Target.leads] at hf'; subst hf'; exact hFg
 have h00 : (lone (b.atR a (.code (.rangeFunc g ps assign body) :: k)) cs w).fenced P F := by
   refine fenced_lone (.inl hb) (fun f' hf' => lead f' ?_) (Fence.room_le hr (by omega))
   have hev := Frame.eval_atR b a (.code (.rangeFunc g ps assign body) :: k)
   simp only [Frame.atR] at hev
   simp only [Frame.about,Frame.atR,enter,hev,resol] at hf'
   exact hf'
 have step0 := stepR_rangeFunc (P:=P) (b:=b) (a:=a) (k:=k) (cs:=cs) (w:=w) enter resol invok
 have room1 : F.room ((b.atR { a with defers := [{ target := .collected w.heap.size,args := #[] }] ++ a.defers } (.inRangeFunc (w.heap.size + 1) :: k) :: cs).length + 1 + (n - 1)) := Fence.room_enter hr (fun _ => h1)
 have call := hseq (w.heap.size + 1) J Jx W1 (hw0.trans m1)
   (fun i A B hs m => by rw [hJ] at hs ⊢; exact ⟨(hI i).more hs.1 m,m.block hs.2.1,m.block hs.2.2⟩)
   (fun e i A B hs m => by
     rw [hJx] at hs ⊢
     refine ⟨?_,m.block hs.2⟩
     cases e with
     | panicked ch => exact (hIx _ i).more hs.1 m
     | returned v => obtain ⟨x,c,q1,q2,q3⟩ := hs.1; exact ⟨x,c,q1,(hIx _ i).more q2 m,m.block q3⟩
     | outgrown => obtain ⟨x,c,q1,q2,q3⟩ := hs.1; exact ⟨x,c,q1,(hIx _ i).more q2 m,m.block q3⟩)
   ?round (by rw [hJ]; exact ⟨(hI 0).more h0 m1,L1,D1⟩)
 case round =>
   intro i W hi hs
   rw [hJ] at hs
   obtain ⟨hin,hl,hd⟩ := hs
   have hy := run_yield (P:=P) (args:=enc i) hl (by rw [hrec]; exact hps i)
   rw [hrec] at hy
   refine ⟨b.fn,_,assign,body,hy,round_ends hb hfb (hassign _ i W _ hi (lt_of_heap hl) hin ?_)⟩
   clear hy
   intro a' Wa ka sa xa
   have la := (ka _ (.inr rfl)).trans hl
   have da := (ka _ (.inl rfl)).trans hd
   have lta : w.heap.size + 1 < Wa.heap.size := lt_of_heap la
   refine ⟨_,run_beginRound la (by rw [hrec]),?_⟩
   have nS : ¬ S (w.heap.size + 1) := fun q => by have := hS _ q; omega
   obtain ⟨Wb,hWb⟩ : ∃ Wb,Wa.putObj (w.heap.size + 1) (.loop { rec .ready none with state := .busy }) = Wb := ⟨_,rfl⟩
   have lb2 : Wb.heap[w.heap.size + 1]? = some (.loop { rec .ready none with state := .busy }) := by rw [← hWb]; exact World.putObj_heap_same lta
   have db : Wb.heap[w.heap.size]? = some (.deferred (some [])) := by rw [← hWb]; exact (World.putObj_heap_other (by omega)).trans da
   have sb : SameOn S W Wb := sa.trans (by rw [← hWb]; exact SameOn.put _ _ _ nS)
   rw [hWb]
   refine wpIn_mono (hbody _ i a' Wb (lt_of_heap lb2) hi (by rw [← hWb]; exact (hAx i a').put _ xa la)) ?_
   -- the record behind the body,and the round's end
   have fin : ∀ (jump : Option Code) (W3 : World),SameOn (bookAt w.heap.size) Wb W3 →
       (Instr.endRound (w.heap.size + 1) jump).run P W3 = .ok (.bool jump.isNone) (W3.putObj (w.heap.size + 1) (.loop (rec (if jump.isNone then .ready else .done) jump))) ∧
       W3.heap[w.heap.size + 1]? = some (.loop { rec .ready none with state := .busy }) ∧
       (W3.putObj (w.heap.size + 1) (.loop (rec (if jump.isNone then .ready else .done) jump))).heap[w.heap.size + 1]? = some (.loop (rec (if jump.isNone then .ready else .done) jump)) ∧
       (W3.putObj (w.heap.size + 1) (.loop (rec (if jump.isNone then .ready else .done) jump))).heap[w.heap.size]? = some (.deferred (some [])) := fun jump W3 k3 => by
     have l3 := (k3 _ (.inr rfl)).trans lb2
     have e3 := run_endRound (P:=P) jump l3
     rw [hrec] at e3 ⊢
     exact ⟨e3,by rw [hrec] at l3; exact l3,World.putObj_heap_same (lt_of_heap l3),(World.putObj_heap_other (by omega)).trans ((k3 _ (.inl rfl)).trans db)⟩
   have left' : ∀ (x : Exit) (c : Code) (W3 : World),jumpOf x = some c → SameOn (bookAt w.heap.size) Wb W3 → Ix x i W3 → ∃ v w',(Instr.endRound (w.heap.size + 1) (some c)).run P W3 = .ok v w' ∧
       ((Ending.returned v = .returned (.bool true) ∧ J (i + 1) w' ∧ SameOn S W w') ∨ ((Ending.returned v = .returned (.bool false) ∨ ∃ c,Ending.returned v = .panicked c) ∧ Jx (.returned v) i w')) := fun x c W3 hx k3 hix => by
     obtain ⟨r1,r2,r3,r4⟩ := fin (some c) W3 k3
     refine ⟨_,_,r1,.inr ⟨.inl rfl,?_⟩⟩
     rw [hJx]
     exact ⟨⟨x,c,hx,(hIx x i).put _ hix r2,r3⟩,r4⟩
   rintro e a3 W3 hp
   cases e with
   | normal =>
     obtain ⟨k3,s3,i3⟩ := hp
     obtain ⟨r1,r2,r3,r4⟩ := fin none W3 k3
     refine ⟨_,_,r1,.inl ⟨rfl,?_,(sb.trans s3).trans (SameOn.put _ _ _ nS)⟩⟩
     rw [hJ]
     exact ⟨(hI (i + 1)).put _ i3 r2,r3,r4⟩
   | ret => exact left' .ret _ W3 rfl hp.1 hp.2
   | exit id => exact left' (.exit id) _ W3 rfl hp.1 hp.2
   | goto t => exact left' (.goto t) _ W3 rfl hp.1 hp.2
   | panic ch =>
     obtain ⟨k3,d3,i3⟩ := hp
     refine ⟨d3,.inr ⟨.inr ⟨ch,rfl⟩,?_⟩⟩
     rw [hJx]
     exact ⟨i3,(k3 _ (.inl rfl)).trans db⟩
   | outgrown => exact hp.elim
 obtain ⟨_,callee⟩ := call
 obtain ⟨e,w₃,fr,hR,hsteps,hfn,hleave⟩ := callee (b.atR { a with defers := [{ target := .collected w.heap.size,args := #[] }] ++ a.defers } (.inRangeFunc (w.heap.size + 1) :: k) :: cs) room1
 rcases hR with ⟨⟨v,rfl⟩,hR⟩ | ⟨ch,i,rfl,hi,hR⟩
 · have lv : (lone fr (b.atR { a with defers := [{ target := .collected w.heap.size,args := #[] }] ++ a.defers } (.inRangeFunc (w.heap.size + 1) :: k) :: cs) w₃).fenced P F := fenced_leaving (hfn ▸ hFg) room1 hleave
   have back : ∀ (jump : Option Code) (w₄ : World),(Instr.endLoop (w.heap.size + 1)).run P w₃ = .ok jump w₄ →
       StepsIn (Machine.fenced P F) P (lone (b.atR a (.code (.rangeFunc g ps assign body) :: k)) cs w) (lone (b.atR { a with defers := { target := .collected w.heap.size,args := #[] } :: a.defers } ((jump.map Item.code).toList ++ k)) cs w₄) := fun jump w₄ hend => by
     refine .head h00 step0 (StepsIn.trans hsteps (.head lv ?_ (.one (fenced_calm (fr:=b.atR { a with defers := { target := .collected w.heap.size,args := #[] } :: a.defers } (.endRangeFunc (w.heap.size + 1) :: k)) hb hr rfl) (stepR_endRangeFunc hend))))
     exact (step_leave_returned hleave).trans (by rw [finish_atR_inRangeFunc]; rfl)
   rcases hR with hR | ⟨i,hi,hR⟩
   · rw [hJ] at hR
     obtain ⟨i3,l3,d3⟩ := hR
     have e3 := run_endLoop (P:=P) l3 (by rw [hrec]; simp)
     have e4 : (Instr.endLoop (w.heap.size + 1)).run P w₃ = .ok none (w₃.putObj (w.heap.size + 1) (.loop { rec .ready none with state := .exhausted })) := by rw [hrec] at e3 ⊢; exact e3
     exact ⟨.normal,_,_,hdone _ ((hI N).put _ i3 l3) ((World.putObj_heap_other (o:=.loop { rec .ready none with state := .exhausted }) (by omega)).trans d3),back none _ e4⟩
   · rw [hJx] at hR
     obtain ⟨⟨x,c,q1,q2,l3⟩,d3⟩ := hR
     have e3 := run_endLoop (P:=P) l3 (by rw [hrec]; simp)
     obtain ⟨e',a'',w₅,hq,way⟩ := hstop i x c _ q1 hi ((hIx x i).put _ q2 l3) ((World.putObj_heap_other (o:=.loop { rec .done (some c) with state := .exhausted }) (by omega)).trans d3) b k cs hrb hb hr
     have e4 : (Instr.endLoop (w.heap.size + 1)).run P w₃ = .ok (some c) (w₃.putObj (w.heap.size + 1) (.loop { rec .done (some c) with state := .exhausted })) := by rw [hrec] at e3 ⊢; exact e3
     exact ⟨e',a'',w₅,hq,.of_steps (back (some c) _ e4) way⟩
 · have lv : (lone fr (b.atR { a with defers := [{ target := .collected w.heap.size,args := #[] }] ++ a.defers } (.inRangeFunc (w.heap.size + 1) :: k) :: cs) w₃).fenced P F := fenced_leaving (hfn ▸ hFg) room1 hleave
   rw [hJx] at hR
   refine ⟨.panic ch,_,w₃,hpanic i ch w₃ hi hR.1 hR.2,.inRangeFunc (w.heap.size + 1) :: k,.head h00 step0 (StepsIn.trans hsteps (.one lv ?_))⟩
   exact (step_leave_panicked hleave).trans (by rw [← Frame.raise_atR]; rfl)
end Go.Proofs.YtmafllcmkhgidaaGreatDoor
namespace Go.Proofs.YtmafllcmkhgidaaGreatDoor
open Go.RowKit Go.Sort Go.Maps Go.Shelf
attribute [local go_sem] Oper.semAt_some
section
variable {F : Fence} {n : Nat} {P : Program} {ops : Array Oper} {rest : List Oper} {o : Oper} {a : Act} {w : World} {Q : Exit → Act → World → Prop}
theorem wpListIn_load_run (hw : Region.wanted o (yielded ops a.tmps) = true) (ty : TypeId) (x : Operand) (ho : o.op = .load ty x) (g : Nat) (hx : a.eval x = .pointer (some ⟨g,0,none⟩)) (v : Value)
   (hr : (loadVar ty ⟨g,0,none⟩).run P w = .ok v w) (h : wpListIn F n P ops Q rest (a.put o.dst v) w) : wpListIn F n P ops Q (o :: rest) a w :=
 BigFrame.wpListIn_want hw fun K hK => by
   refine ⟨by simp [Oper.about,ho],?_⟩
   rw [Oper.semAt_plain F _ _ (by rw [ho]; intro c hc; cases hc)]
   simp [execOp,ho,hx,Instr.loadAt,Instr.sureAddr,Sem.run_bind,hr,Result.andThen]
   exact hK _ _ h
theorem wpListIn_load_row (hw : Region.wanted o (yielded ops a.tmps) = true) (ty : TypeId) (x : Operand) (ho : o.op = .load ty x)
   (g : Nat) (hx : a.eval x = .pointer (some ⟨g,0,none⟩)) (t : TypeId) (cs : Array Value) (fr : Nat × Nat) (d : TypeDesc) (hg : w.heap[g]? = some (.cells cs t fr))
   (hu : P.underlying ty = some d) (hd : (match d with | .struct _ | .array _ _ => true | _ => false) = true) (hi : (P.info? ty).map (·.size) = some cs.size)
   (h : wpListIn F n P ops Q rest (a.put o.dst (.agg cs)) w) : wpListIn F n P ops Q (o :: rest) a w :=
 wpListIn_load_run hw ty x ho g hx _ (run_loadVar_row w g t ty cs fr d hg hu hd hi) h
theorem wpListIn_store_row (hw : Region.wanted o (yielded ops a.tmps) = true) (ty : TypeId) (x y : Operand) (ho : o.op = .store ty x y)
   (g : Nat) (hx : a.eval x = .pointer (some ⟨g,0,none⟩)) (cells : Array Value) (hy : a.eval y = .agg cells) (t : TypeId) (old : Array Value) (hg : w.heap[g]? = some (.cells old t (0,0)))
   (hi : (P.info? ty).map (·.size) = some cells.size) (hsz : old.size = cells.size) (hone : cells.all (·.oneCell') = true)
   (h : wpListIn F n P ops Q rest (a.put o.dst (.tuple #[])) (w.setRow g cells)) : wpListIn F n P ops Q (o :: rest) a w :=
 BigFrame.wpListIn_want hw fun K hK => by
   refine ⟨by simp [Oper.about,ho],?_⟩
   rw [Oper.semAt_plain F _ _ (by rw [ho]; intro c hc; cases hc)]
   have hs := run_storeVar_row (P:=P) w g t ty old cells hg hi hsz hone
   simp [execOp,ho,hx,hy,Instr.storeAt,Instr.sureAddr,Sem.run_bind,hs,Result.andThen]
   exact hK _ _ h
end
theorem wpListIn_chunk {F : Fence} {n : Nat} {ops : Array Oper} {rest : List Oper} {o : Oper} {a : Act} {w : World} {Q : Exit → Act → World → Prop} (hw : Region.wanted o (yielded ops a.tmps) = true) (x y : Operand) (ho : o.op = .build 111 #[(0,x),(1,y)]) (c : Cfg) (k : Int)
   (hx : a.eval x = .agg c.arr) (hy : a.eval y = .int .i64 k) (h : wpListIn F n Tryz.prog ops Q rest (a.put o.dst (.agg (chkArr c k))) w) : wpListIn F n Tryz.prog ops Q (o :: rest) a w :=
 BigFrame.wpListIn_want hw fun K hK => by
   refine ⟨by simp [Oper.about,ho],?_⟩
   rw [Oper.semAt_plain F _ _ (by rw [ho]; intro c hc; cases hc)]
   have hb := build_chunk c k w
   simp only [execOp,ho,List.map_toArray,List.map_cons,List.map_nil,hx,hy,Sem.run_bind,hb,Result.andThen_ok]
   exact hK _ _ h
theorem wpList_chunk {ops : Array Oper} {rest : List Oper} {o : Oper} {a : Act} {w : World} {Q : Exit → Act → World → Prop} (hw : Region.wanted o (yielded ops a.tmps) = true) (x y : Operand) (ho : o.op = .build 111 #[(0,x),(1,y)]) (c : Cfg) (k : Int)
   (hx : a.eval x = .agg c.arr) (hy : a.eval y = .int .i64 k) (h : wpList Tryz.prog ops Q rest (a.put o.dst (.agg (chkArr c k))) w) : wpList Tryz.prog ops Q (o :: rest) a w :=
 wpList_wanted hw fun K hK => by
   have hb := build_chunk c k w
   unfold Oper.wp execOp
   simp only [ho,List.map_toArray,List.map_cons,List.map_nil,hx,hy,Sem.run_bind,hb,Result.andThen_ok]
   exact hK _ _ h
theorem c_there {c : Cfg} (R : c.Ok) (p n : Int) (hp : W64 p) (w : World) : Calls Tryz.prog 114 #[.agg c.arr,.int .i64 p,.int .i64 n] w (Gives w (.bool (thereB c.pg p n))) := by
 have HC := hQQ (row_new w c.arr 28)
 have HM : Hid (More w (w.alloc (.cells c.arr 28))) := (More.refl w).alloc _
 have hfl := field_pages c
 have p1 := R.pg1
 have p2 := R.pg2
 by_cases c0 : 0 ≤ p
 · by_cases c1 : 1 ≤ n
   · have q1 : IntKind.i64.wrap (c.pg - p) = c.pg - p := by unfold W64 at hp; exact wrap_in (by omega) (by omega)
     rw [show thereB c.pg p n = decide (n ≤ c.pg - p) by unfold thereB; simp [c0,c1]]
     clear p1 p2 hp
     go_enter Tryz.func114,Tryz.ntmps114
     go_wp2_with (refine wpList_load_rowG rfl 28 _ rfl _ rfl 28 _ _ _ HC.out Tryz.underlying28 rfl (by kernel_rfl) ?_)
     refine (y_config R _).mono ?_
     rintro e w2 ⟨rfl,h2⟩
     have HM2 := hQQ (HM.out.trans h2)
     clear h2
     go_wp2_with fail
     go_ret
     exact ⟨rfl,HM2.out⟩
   · rw [show thereB c.pg p n = false by unfold thereB; simp [c1]]
     have d1 : decide (1 ≤ n) = false := by simp; omega
     go_enter Tryz.func114,Tryz.ntmps114
     go_wp2_with fail
     go_ret
     exact ⟨rfl,HM.out⟩
 · rw [show thereB c.pg p n = false by unfold thereB; simp [c0]]
   have d0 : decide (0 ≤ p) = false := by simp; omega
   go_enter Tryz.func114,Tryz.ntmps114
   go_wp2_with fail
   go_ret
   exact ⟨rfl,HM.out⟩
def roundsV (pg p n : Int) : Nat := if thereB pg p n then spanV p n else 0
def IntBox (w : World) (b : Nat) (x : Int) : Prop := w.heap[b]? = some (.cells #[.int .i64 x] 3 (0,0))
theorem over_in (n : Nat) {c : Cfg} (p q : Int) (w : World) :
   CallsIn Fence.wide n Tryz.prog 105 #[.agg c.arr,.int .i64 p,.int .i64 q] w fun e w' =>
     e = .returned (.func (.func 113) #[] #[.pointer (some ⟨w.heap.size,0,none⟩),.pointer (some ⟨w.heap.size + 1,0,none⟩),.pointer (some ⟨w.heap.size + 2,0,none⟩)]) ∧
     w' = ((w.alloc (.cells c.arr 28)).alloc (.cells #[.int .i64 p] 3)).alloc (.cells #[.int .i64 q] 3) := by
 refine callsIn_of_wp Tryz.func105 rfl trivial ?_ rfl
 simp only [Tryz.ntmps105,List.size_toArray,List.length_cons,List.length_nil,Nat.reduceAdd,Nat.reduceSub,Array.replicate_succ,Array.replicate_zero,List.push_toArray,List.append_toArray,List.nil_append,List.cons_append]
 gi_wp2
 go_ret
 exact ⟨rfl,rfl⟩
theorem over_made (c : Cfg) (p q : Int) (w : World) :
   (((w.alloc (.cells c.arr 28)).alloc (.cells #[.int .i64 p] 3)).alloc (.cells #[.int .i64 q] 3)).heap[w.heap.size]? = some (.cells c.arr 28 (0,0)) ∧
   IntBox (((w.alloc (.cells c.arr 28)).alloc (.cells #[.int .i64 p] 3)).alloc (.cells #[.int .i64 q] 3)) (w.heap.size + 1) p ∧
   IntBox (((w.alloc (.cells c.arr 28)).alloc (.cells #[.int .i64 p] 3)).alloc (.cells #[.int .i64 q] 3)) (w.heap.size + 2) q := by
 have h0 := heap_new w (.cells c.arr 28)
 have s0 : (w.alloc (.cells c.arr 28)).heap.size = w.heap.size + 1 := by simp
 generalize w.alloc (.cells c.arr 28) = w1 at h0 s0 ⊢
 have h1 := heap_new w1 (.cells #[.int .i64 p] 3)
 rw [s0] at h1
 have s1 : (w1.alloc (.cells #[.int .i64 p] 3)).heap.size = w.heap.size + 2 := by simp [s0]
 have m1 : More w1 (w1.alloc (.cells #[.int .i64 p] 3)) := (More.refl _).alloc _
 generalize w1.alloc (.cells #[.int .i64 p] 3) = w2 at h1 s1 m1 ⊢
 have h2 := heap_new w2 (.cells #[.int .i64 q] 3)
 rw [s1] at h2
 have m2 : More w2 (w2.alloc (.cells #[.int .i64 q] 3)) := (More.refl _).alloc _
 exact ⟨m2.block (m1.block h0),m2.block h1,h2⟩
theorem over_ends (n : Nat) (hn : 1 ≤ n) {c : Cfg} (R : c.Ok) (p q : Int) (hp : W64 p) (bl bp bq : Nat) (w0 : World) (hl : w0.heap[bl]? = some (.cells c.arr 28 (0,0))) (hbp : IntBox w0 bp p) (hbq : IntBox w0 bq q) :
   SeqEnds Fence.wide n Tryz.prog 113 #[.pointer (some ⟨bl,0,none⟩),.pointer (some ⟨bp,0,none⟩),.pointer (some ⟨bq,0,none⟩)] (fun i => #[.agg (chkArr c (p / 4 + (i : Int)))]) (roundsV c.pg p q) (fun k => k = bl ∨ k = bp ∨ k = bq) w0 := by
 intro l J Jx W hW hJ hJx hY h0
 have HL := hQQ (hW.block hl)
 have HP := hQQ (hW.block hbp)
 have HQ := hQQ (hW.block hbq)
 have HR := hQQ R
 have cp := (box_cells HP.out).1
 have cq := (box_cells HQ.out).1
 have TH := hQQ (fun w => c_there (c:=c) R p q hp w)
 have HJ := hQQ hJ
 have HJx := hQQ hJx
 have HY := hQQ hY
 clear hl hbp hbq hW hJ hJx hY
 refine callsIn_of_wp Tryz.func113 rfl trivial ?_ rfl
 simp only [Tryz.ntmps113,List.size_toArray,List.length_cons,List.length_nil,Nat.reduceAdd,Nat.reduceSub,Array.replicate_succ,Array.replicate_zero,List.push_toArray,List.append_toArray,List.nil_append,List.cons_append]
 cases hth : thereB c.pg p q with
 | false =>
   have hN : roundsV c.pg p q = 0 := by unfold roundsV; rw [hth]; rfl
   rw [hN] at HY ⊢
   gi_wp2_with (first
     | (refine wpListIn_load_row rfl 28 _ rfl _ rfl 28 _ _ _ HL.out Tryz.underlying28 rfl (by kernel_rfl) ?_)
     | ((with_reducible refine And.intro ?_ ?_); exact trivial; gi_at_call 114; refine (callsIn_wide.2 (TH.out _)).mono ?_; rw [hth]; rintro e w' ⟨rfl,h1⟩; have M1 := hQQ h1; clear h1))
   refine bodyPost_ret (results_none rfl _ _ _) rfl ?_
   exact .inl ⟨⟨_,rfl⟩,.inl (HJ.out _ _ _ h0 M1.out)⟩
 | true =>
   have hN : roundsV c.pg p q = spanV p q := by unfold roundsV; rw [hth]; rfl
   rw [hN] at HY ⊢
   obtain ⟨r0,r1,r2⟩ := there_iff.1 hth
   have pg2 := R.pg2
   have q1 : IntKind.i64.wrap (p + q) = p + q := wrap_in (by omega) (by omega)
   have q2 : IntKind.i64.wrap (p + q - 1) = p + q - 1 := wrap_in (by omega) (by omega)
   have o1 : ofV p = p / 4 := if_neg (by omega)
   have o2 : ofV (p + q - 1) = (p + q - 1) / 4 := if_neg (by omega)
   obtain ⟨sp,_⟩ := span_b hth pg2
   have OP := hQQ (fun w => c_of p (by omega) (by omega) w)
   have OQ := hQQ (fun w => c_of (p + q - 1) (by omega) (by omega) w)
   rw [o1] at OP
   rw [o2] at OQ
   clear o1 o2 r1 R hp
   gi_wp2_with (first
     | (refine wpListIn_load_row rfl 28 _ rfl _ rfl 28 _ _ _ HL.out Tryz.underlying28 rfl (by kernel_rfl) ?_)
     | ((with_reducible refine And.intro ?_ ?_); exact trivial; gi_at_call 114; refine (callsIn_wide.2 (TH.out _)).mono ?_; rw [hth]; rintro e w' ⟨rfl,h1⟩; have M1 := hQQ h1; have cp1 := h1.cell cp; clear h1)
     | ((with_reducible refine And.intro ?_ ?_); exact trivial; gi_at_call 85; refine (callsIn_wide.2 (OP.out _)).mono ?_; rintro e w' ⟨rfl,rfl⟩))
   have J0 := hQQ (HJ.out _ _ _ h0 M1.out)
   have HL1 := hQQ (M1.out.block HL.out)
   have HP1 := hQQ (M1.out.block HP.out)
   have HQ1 := hQQ (M1.out.block HQ.out)
   clear cp cq cp1 h0
   gi_loopw [5] (fun u wr => ∃ i : Nat,i ≤ spanV p q ∧ u = .int .i64 (p / 4 + (i : Int)) ∧ J i wr ∧ wr.heap[bl]? = some (.cells c.arr 28 (0,0)) ∧ IntBox wr bp p ∧ IntBox wr bq q) (fun u _ => ((p + q - 1) / 4 + 1 - intOf u).toNat)
   case atStart => exact ⟨0,Nat.zero_le _,by simp,J0.out,HL1.out,HP1.out,HQ1.out⟩
   case round =>
     obtain ⟨i,hi,rfl,hJi,hli,hpi,hqi⟩ := hrel
     have cpi := (box_cells hpi).1
     have cqi := (box_cells hqi).1
     have HLi := hQQ hli
     have HPi := hQQ hpi
     have HQi := hQQ hqi
     have HJi := hQQ hJi
     clear hli hpi hqi hJi
     by_cases hlt : i < spanV p q
     · obtain ⟨fn,tmps,assign,body,hy,hR⟩ := HY.out i wr hlt HJi.out
       have hld : (loadVar 28 ⟨bl,0,none⟩).run Tryz.prog wr = .ok (.agg c.arr) wr := run_loadVar_row wr bl _ _ _ _ _ HLi.out Tryz.underlying28 rfl (by kernel_rfl)
       have d1 : decide (p / 4 + (i : Int) ≤ (p + q - 1) / 4) = true := by simp; omega
       have q3 : IntKind.i64.wrap (p / 4 + (i : Int) + 1) = p / 4 + (i : Int) + 1 := wrap_in (by omega) (by omega)
       gi_wp2_with (first
         | ((with_reducible refine wpListIn_load_run ?_ 28 (.tmp 1) ?_ bl ?_ (.agg c.arr) ?_ ?_); rfl; rfl; rfl; exact hld)
         | ((with_reducible refine wpListIn_chunk ?_ (.tmp 23) (.tmp 24) ?_ c (p / 4 + (i : Int)) ?_ ?_ ?_); rfl; rfl; rfl; rfl)
         | ((with_reducible refine And.intro ?_ ?_); exact trivial; gi_at_call 85; refine (callsIn_wide.2 (OQ.out _)).mono ?_; rintro e w' ⟨rfl,rfl⟩))
       refine hR.mono ?_
       rintro e W3 (⟨rfl,hJ3,hs3⟩ | ⟨he,hJx3⟩)
       · have HL3 := hQQ ((hs3 bl (.inl rfl)).trans HLi.out)
         have HP3 := hQQ ((hs3 bp (.inr (.inl rfl))).trans HPi.out)
         have HQ3 := hQQ ((hs3 bq (.inr (.inr rfl))).trans HQi.out)
         clear hs3
         gi_wp2
         go_roundw
         case rel => exact ⟨i + 1,by omega,by go_num,hJ3,HL3.out,HP3.out,HQ3.out⟩
         case measure => simp [intOf]; omega
       · rcases he with rfl | ⟨ch,rfl⟩
         · gi_wp2
           refine bodyPost_ret (results_none rfl _ _ _) rfl ?_
           exact .inl ⟨⟨_,rfl⟩,.inr ⟨i,hlt,hJx3⟩⟩
         · exact ⟨rfl,.inr ⟨ch,i,rfl,hlt,hJx3⟩⟩
     · obtain rfl : i = spanV p q := by omega
       have d1 : decide (p / 4 + ((spanV p q : Nat) : Int) ≤ (p + q - 1) / 4) = false := by simp; omega
       gi_wp2_with (first
         | ((with_reducible refine And.intro ?_ ?_); exact trivial; gi_at_call 85; refine (callsIn_wide.2 (OQ.out _)).mono ?_; rintro e w' ⟨rfl,rfl⟩))
       go_end0
       exact .inl ⟨⟨_,rfl⟩,.inl HJi.out⟩
theorem went_cases {α : Type} {w w' : World} {F : Nat → Prop} {p : Nat} {kn : Int → Option Int} {val : α → Value} {R : Res α} {e : Ending} (h : WentV w F p kn val R e w') : (∃ a,R = .need a ∧ e = .panicked (endOf p)) ∨ ∃ x D,R = .ok x D ∧ e = .returned (val x) := by
 cases R with
 | need a => exact .inl ⟨a,rfl,h.1⟩
 | ok x D => exact .inr ⟨x,D,rfl,h.1⟩
theorem c_Mapped {c : Cfg} (R : c.Ok) (F : Nat → Prop) (p : Nat) (kn : Int → Option Int) (D : List KV) (k : Int) (w : World) (hv : ViewAt w F p kn D) :
   Calls Tryz.prog 84 #[.pointer (some ⟨p,0,none⟩),.agg c.arr,.int .i64 k] w (WentV w F p kn (fun b => .bool b) (mappedP c.pg c.st k kn D)) := by
 have HC := hQQ (row_new w c.arr 28)
 have HM : Hid (More w (w.alloc (.cells c.arr 28))) := (More.refl w).alloc _
 have HV := hQQ (hv.more HM.out)
 clear hv
 go_enter Tryz.func84,Tryz.ntmps84
 go_wp2_with (first | refine wpList_load_row rfl 28 _ rfl _ rfl 28 _ _ _ HC.out Tryz.underlying28 rfl (by kernel_rfl) ?_ | ((with_reducible refine wpList_chunk ?_ (.tmp 7) (.tmp 8) ?_ c k ?_ ?_ ?_); rfl; rfl; rfl; rfl))
 refine (c_isMapped R F p kn D k _ HV.out).mono ?_
 intro e w1 he
 have FIN := hQQ (he.after HM.out)
 rcases went_cases he with ⟨a,_,rfl⟩ | ⟨x,D',_,rfl⟩
 · exact ⟨rfl,FIN.out⟩
 · clear he
   go_wp2_with fail
   go_ret
   exact FIN.out
end Go.Proofs.YtmafllcmkhgidaaGreatDoor
