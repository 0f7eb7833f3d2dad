/-
  What a function that is handed a view comes to; on the way through a program that is handed a view: between two calls.
-/
import Derived.Test.YtflihdcliknggaaGreatDoorPbAf
import Derived.Test.YtflihdcliknggaaGreatDoorPbAa
import Derived.Test.YtflihdcliknggaaGreatDoorPbAb
set_option maxRecDepth 100000
set_option maxHeartbeats 8000000
set_option linter.unusedVariables false
set_option linter.unusedSimpArgs false
set_option linter.unusedSectionVars false
namespace Go.Proofs.YtflihdcliknggaaGreatDoor
open Go.RowKit Go.Sort Go.Maps Go.Shelf
theorem ViewAt.keepS {w w' : World} {F S : Nat → Prop} {p : Nat} {kn : Int → Option Int} {D : List KV} (h : ViewAt w F p kn D) (ht : Turned S w w') (hs : ∀ k,F k → ¬ S k) (hM : ∀ k es cl,S k → w.heap[k]? ≠ some (.map es cl)) : ViewAt w' F p kn D := by
 obtain ⟨M,q,n,F0,hp,hk,hm,fp,f0,fM⟩ := h.ex
 have nM : ¬ S M := by
   obtain ⟨D',⟨es,clock,hb,_⟩,_⟩ := hk
   intro q
   exact hM M _ _ q hb
 exact ⟨⟨M,q,n,F0,by rw [Turned.block ht p (lt_of_heap hp) (hs p fp)]; exact hp,hk.keep ht nM,hm.keep ht (fun k q => hs k (f0 k q).1),fp,f0,fM⟩,fun k hk => Nat.lt_of_lt_of_le (h.lt k hk) ht.size⟩
section
variable {P : Program} {w : World}
theorem run_loadVar_cell {ty : TypeId} {g i : Nat} {v : Value} {d : TypeDesc} (hu : P.underlying ty = some d) (hd : (match d with | .struct _ | .array _ _ => true | _ => false) = false) (hc : w.cell? ⟨g,i,none⟩ = some v) : (loadVar ty ⟨g,i,none⟩).run P w = .ok v w := by
 have hagg : (isAgg ty).run P w = .ok false w := by
   unfold isAgg
   rw [Sem.run_bind,run_underlying hu w]
   cases d <;> simp_all
 simp [loadVar,Sem.run_bind,hagg,hc,Result.andThen,go_sem]
end
theorem setCell_one {W : World} {g : Nat} {v : Value} {t : TypeId} (h : W.heap[g]? = some (.cells #[v] t (0,0))) (z : Value) : (W.setCell ⟨g,0,none⟩ z).heap[g]? = some (.cells #[z] t (0,0)) := by
 have := heap_setCell (o:=0) z h
 simpa using this
def WentV {α : Type} (w : World) (F : Nat → Prop) (p : Nat) (kn : Int → Option Int) (val : α → Value) (R : Res α) (e : Ending) (w' : World) : Prop :=
 match R with
 | .need a => Ended w F p a e w'
 | .ok x D => DidView w F p kn D (val x) e w'
theorem WentV.from {α : Type} {w w2 w' : World} {F F' : Nat → Prop} {p : Nat} {kn : Int → Option Int} {val : α → Value} {R : Res α} {e : Ending} (t : Turned F w w2) (n : ∀ k,F' k → F k ∨ w.heap.size ≤ k) (h : WentV w2 F' p kn val R e w') : WentV w F p kn val R e w' := by
 cases R with
 | need a => exact ⟨h.1,h.2.1,turned_own t h.2.2 n⟩
 | ok x D =>
   obtain ⟨he,F1,hv,ht,hn⟩ := h
   refine ⟨he,F1,hv,turned_own t ht n,fun k hk => ?_⟩
   rcases hn k hk with q | q
   · exact n k q
   · exact .inr (Nat.le_trans t.size q)
theorem WentV.after {α : Type} {w w2 w' : World} {F : Nat → Prop} {p : Nat} {kn : Int → Option Int} {val : α → Value} {R : Res α} {e : Ending} (t : More w w2) (h : WentV w2 F p kn val R e w') : WentV w F p kn val R e w' :=
 h.from (Turned.mono t (fun _ _ q => q.elim)) (fun k q => .inl q)
theorem WentV.need {α : Type} {w w' : World} {F : Nat → Prop} {p : Nat} {kn : Int → Option Int} {val : α → Value} {R : Res α} {e : Ending} {a : Int} (hR : R = .need a) (h : Ended w F p a e w') : WentV w F p kn val R e w' := by subst hR; exact h
theorem WentV.did {α : Type} {w w' : World} {F : Nat → Prop} {p : Nat} {kn : Int → Option Int} {val : α → Value} {R : Res α} {e : Ending} {x : α} {D : List KV} (hR : R = .ok x D) (h : DidView w F p kn D (val x) e w') : WentV w F p kn val R e w' := by subst hR; exact h
theorem WentV.same {α : Type} {w w' : World} {F : Nat → Prop} {p : Nat} {kn : Int → Option Int} {D : List KV} {val : α → Value} {R : Res α} {x : α} (hR : R = .ok x D) (hv : ViewAt w F p kn D) (t : More w w') : WentV w F p kn val R (.returned (val x)) w' := by
 subst hR; exact DidView.same hv t
def mapR {α β : Type} (f : α → β) : Res α → Res β
 | .need a => .need a
 | .ok x D => .ok (f x) D
theorem WentV.map {α β : Type} {w w' : World} {F : Nat → Prop} {p : Nat} {kn : Int → Option Int} {val : α → Value} {val' : β → Value} (f : α → β) {R : Res α} {x : α} {D : List KV} {v : Value} (hR : R = .ok x D) (h : WentV w F p kn val R (.returned v) w') : WentV w F p kn val' (mapR f R) (.returned (val' (f x))) w' := by
 subst hR
 obtain ⟨_,F',hv,ht,hn⟩ := h
 exact ⟨rfl,F',hv,ht,hn⟩
theorem WentV.mapN {α β : Type} {w w' : World} {F : Nat → Prop} {p : Nat} {kn : Int → Option Int} {val : α → Value} {val' : β → Value} (f : α → β) {R : Res α} {a : Int} {e : Ending} (hR : R = .need a) (h : WentV w F p kn val R e w') : WentV w F p kn val' (mapR f R) e w' := by
 subst hR
 exact h
structure MidV (W wr : World) (F S : Nat → Prop) (p : Nat) (kn : Int → Option Int) (n : Nat) (D : List KV) (F' : Nat → Prop) : Prop where
 view : ViewAt wr F' p kn D
 from' : ∀ k,F' k → F k ∨ W.heap.size ≤ k
 turn : Turned (fun b => F b ∨ S b) W wr
 inv : InvD n D
namespace MidV
variable {W wr w1 w2 : World} {F S F' : Nat → Prop} {p n : Nat} {kn : Int → Option Int} {D : List KV}
theorem begin (hv : ViewAt W F p kn D) (hD : InvD n D) : MidV W W F S p kn n D F := ⟨hv,fun k q => .inl q,Turned.refl _ _,hD⟩
theorem more (h : MidV W wr F S p kn n D F') (m : More wr w1) : MidV W w1 F S p kn n D F' :=
 ⟨h.view.more m,h.from',turned_own (F' := fun _ => False) h.turn m (fun _ q => q.elim),h.inv⟩
theorem size (h : MidV W wr F S p kn n D F') : W.heap.size ≤ wr.heap.size := h.turn.size
theorem off (h : MidV W wr F S p kn n D F') {b : Nat} (hb : b < W.heap.size) (nF : ¬ F b) : ¬ F' b := fun q => by
 rcases h.from' b q with r | r
 · exact nF r
 · omega
theorem box (h : MidV W wr F S p kn n D F') {b : Nat} (hS : b < W.heap.size → S b) (nF : ¬ F' b) (v : Value) {cs : Array Value} {t : TypeId} {fr : Nat × Nat} (hb : wr.heap[b]? = some (.cells cs t fr)) : MidV W (wr.setCell ⟨b,0,none⟩ v) F S p kn n D F' :=
 ⟨h.view.keepS (S:=fun k => k = b) (Turned.setCell (S:=fun k => k = b) (Turned.refl _ wr) ⟨b,0,none⟩ v (fun _ => rfl)) (fun k q e => nF (e ▸ q)) (fun k es cl e q => by subst e; rw [hb] at q; cases q),
   h.from',turned_own h.turn (Turned.setCell (S:=fun k => k = b) (Turned.refl _ wr) ⟨b,0,none⟩ v (fun _ => rfl)) (fun k q => by
     subst q
     rcases Nat.lt_or_ge k W.heap.size with r | r
     · exact .inl (.inr (hS r))
     · exact .inr r),h.inv⟩
theorem step {α : Type} {val : α → Value} {Q : α → Prop} {pr : Prg α} {e : Ending} (h : MidV W wr F S p kn n D F') (m : More wr w1) (hk : OkK kn) (G : Good n Q pr) (he : WentV w1 F' p kn val (pr kn D) e w2) :
   (∃ a,pr kn D = .need a ∧ e = .panicked (endOf p) ∧ DeadAt w2 p a ∧ Turned (fun b => F b ∨ S b) W w2 ∧ ∀ b o,¬ F' b → wr.heap[b]? = some o → w2.heap[b]? = some o) ∨
   (∃ x D1 F1,pr kn D = .ok x D1 ∧ e = .returned (val x) ∧ MidV W w2 F S p kn n D1 F1 ∧ Q x ∧ (∀ b o,¬ F' b → wr.heap[b]? = some o → w2.heap[b]? = some o) ∧ ∀ b,F1 b → F' b ∨ wr.heap.size ≤ b) := by
 have hm := h.more m
 have hs := m.size
 have hK : ∀ t,Turned F' w1 t → ∀ b o,¬ F' b → wr.heap[b]? = some o → t.heap[b]? = some o := fun t ht b o nb hb => (ht.block b (lt_of_heap (m.block hb)) nb).trans (m.block hb)
 cases hE : pr kn D with
 | need a =>
   rw [hE] at he
   obtain ⟨h1,h2,h3⟩ := he
   exact .inl ⟨a,rfl,h1,h2,turned_own hm.turn h3 (fun k q => (h.from' k q).imp .inl id),hK _ h3⟩
 | ok x D1 =>
   rw [hE] at he
   obtain ⟨h1,F1,hv,ht,hn⟩ := he
   obtain ⟨i1,q1⟩ := G.ok hk h.inv hE
   refine .inr ⟨x,D1,F1,rfl,h1,⟨hv,fun k q => ?_,turned_own hm.turn ht (fun k q => (h.from' k q).imp .inl id),i1⟩,q1,hK _ ht,fun b q => (hn b q).imp id (fun r => by omega)⟩
   rcases hn k q with r | r
   · exact h.from' k r
   · have := hm.size; exact .inr (by omega)
end MidV
theorem wy_need {W w2 : World} {F S : Nat → Prop} {Y X : World → Prop} {p : Nat} {kn : Int → Option Int} {R : Ran} {a : Int} (hR : R = .need a) (hd : DeadAt w2 p a) (ht : Turned (fun b => F b ∨ S b) W w2) (hy : Y w2) : WentY W F S Y X p kn R (.panicked (endOf p)) w2 := by
 subst hR; exact ⟨rfl,hd,ht,hy⟩
theorem wy_done {W wr : World} {F S F' : Nat → Prop} {Y X : World → Prop} {p n : Nat} {kn : Int → Option Int} {D : List KV} {R : Ran} (h : MidV W wr F S p kn n D F') (hR : R = .done D) (hy : Y wr) (hx : X wr) : WentY W F S Y X p kn R (.returned (.tuple #[])) wr := by
 subst hR; exact ⟨rfl,⟨F',h.view⟩,h.turn,hy,hx⟩
theorem bindP_assoc {α β γ : Type} (p : Prg α) (f : α → Prg β) (g : β → Prg γ) : bindP (bindP p f) g = bindP p (fun x => bindP (f x) g) := by
 funext kn D; unfold bindP; cases p kn D <;> rfl
theorem mapR_eq {α β : Type} (f : α → β) (p : Prg α) (kn : Int → Option Int) (D : List KV) : mapR f (p kn D) = bindP p (fun x => pureP (f x)) kn D := by
 unfold bindP; cases p kn D <;> rfl
def BoxB (g : Nat) (w : World) (b : Bool) : Prop := w.heap[g]? = some (.cells #[.bool b] 4 (0,0))
theorem ranOf_need {α : Type} {R : Res α} {a : Int} (h : R = .need a) : ranOf R = .need a := by rw [h]; rfl
theorem ranOf_ok {α : Type} {R : Res α} {x : α} {D : List KV} (h : R = .ok x D) : ranOf R = .done D := by rw [h]; rfl
theorem entry1 (w : World) (o0 : Obj) : ∃ w1,w.alloc o0 = w1 ∧ w1.heap[w.heap.size]? = some o0 ∧ More w w1 ∧ w1.heap.size = w.heap.size + 1 := ⟨_,rfl,heap_new w o0,(More.refl _).alloc _,by simp⟩
theorem entry2 (w : World) (o0 o1 : Obj) : ∃ w2,(w.alloc o0).alloc o1 = w2 ∧ w2.heap[w.heap.size]? = some o0 ∧ w2.heap[w.heap.size + 1]? = some o1 ∧ More w w2 ∧ w2.heap.size = w.heap.size + 2 := by
 obtain ⟨w1,e1,h0,m0,s0⟩ := entry1 w o0
 rw [e1]
 obtain ⟨w2,e2,h1,m1,s1⟩ := entry1 w1 o1
 rw [s0] at h1
 exact ⟨w2,e2,m1.block h0,h1,m0.trans m1,by omega⟩
theorem entry3 (w : World) (o0 o1 o2 : Obj) : ∃ w3,((w.alloc o0).alloc o1).alloc o2 = w3 ∧ w3.heap[w.heap.size]? = some o0 ∧ w3.heap[w.heap.size + 1]? = some o1 ∧ w3.heap[w.heap.size + 2]? = some o2 ∧ More w w3 ∧ w3.heap.size = w.heap.size + 3 := by
 have h0 := heap_new w o0
 have s0 : (w.alloc o0).heap.size = w.heap.size + 1 := by simp
 have m0 : More w (w.alloc o0) := (More.refl _).alloc _
 generalize w.alloc o0 = w1 at h0 s0 m0 ⊢
 have h1 := heap_new w1 o1
 rw [s0] at h1
 have s1 : (w1.alloc o1).heap.size = w.heap.size + 2 := by simp [s0]
 have m1 : More w1 (w1.alloc o1) := (More.refl _).alloc _
 generalize w1.alloc o1 = w2 at h1 s1 m1 ⊢
 have h2 := heap_new w2 o2
 rw [s1] at h2
 have m2 : More w2 (w2.alloc o2) := (More.refl _).alloc _
 exact ⟨_,rfl,m2.block (m1.block h0),m2.block h1,h2,(m0.trans m1).trans m2,by simp [s1]⟩
theorem mid_need {α : Type} {w w1 w2 : World} {F S : Nat → Prop} {p : Nat} {kn : Int → Option Int} {val : α → Value} {R : Res α} {a : Int} (m : More w w1) (hS : ∀ b,S b → w.heap.size ≤ b) (hR : R = .need a) (hd : DeadAt w2 p a) (ht : Turned (fun b => F b ∨ S b) w1 w2) : WentV w F p kn val R (.panicked (endOf p)) w2 :=
 WentV.need hR ⟨rfl,hd,turned_own (Turned.mono m (fun _ _ q => q.elim)) ht (fun k q => q.imp id (hS k))⟩
theorem mid_done {α : Type} {w w1 w2 : World} {F S F' : Nat → Prop} {p n : Nat} {kn : Int → Option Int} {val : α → Value} {R : Res α} {x : α} {D : List KV} (m : More w w1) (hS : ∀ b,S b → w.heap.size ≤ b) (h : MidV w1 w2 F S p kn n D F') (hR : R = .ok x D) : WentV w F p kn val R (.returned (val x)) w2 :=
 WentV.did hR ⟨rfl,F',h.view,turned_own (Turned.mono m (fun _ _ q => q.elim)) h.turn (fun k q => q.imp id (hS k)),fun k q => (h.from' k q).imp id (fun r => Nat.le_trans m.size r)⟩
theorem mid_own {w1 w2 : World} {F S F' : Nat → Prop} {p n : Nat} {kn : Int → Option Int} {D : List KV} (h : MidV w1 w2 F S p kn n D F') {b : Nat} {o : Obj} (hb : w1.heap[b]? = some o) (nF : ¬ F b) (nS : ¬ S b) : w2.heap[b]? = some o :=
 (h.turn.block b (lt_of_heap hb) (by rintro (q | q); exact nF q; exact nS q)).trans hb
theorem read_any (F : Nat → Prop) (p : Nat) (kn : Int → Option Int) (D : List KV) (a : Int) (w : World) (h : ViewAt w F p kn D) (hw : W64 a) :
   Calls Tryz.prog 97 #[.pointer (some ⟨p,0,none⟩),.int .i64 a] w (WentV w F p kn (fun x => .int .i64 x) (readP a kn D)) := by
 cases e : wordV kn D a with
 | none => exact (read_need F p kn D a w h hw e).mono (fun _ _ he => WentV.need (readP_none e) he)
 | some y =>
   refine (read_some F p kn D a y w h hw e).mono ?_
   rintro _ _ ⟨rfl,n,rfl⟩
   exact WentV.same (readP_some e) h ((More.refl w).drewN n)
theorem write_any (F : Nat → Prop) (p : Nat) (kn : Int → Option Int) (D : List KV) (a x : Int) (w : World) (h : ViewAt w F p kn D) (hs : D.length < 100000) :
   Calls Tryz.prog 103 #[.pointer (some ⟨p,0,none⟩),.int .i64 a,.int .i64 x] w (WentV w F p kn (fun _ : Unit => .tuple #[]) (writeP a x kn D)) :=
 (write_ok F p kn D a x w h hs).mono (fun _ _ he => WentV.did rfl he)
end Go.Proofs.YtflihdcliknggaaGreatDoor
namespace Go.Proofs.YtflihdcliknggaaGreatDoor
def isChunk (pg k : Int) : Bool := decide (0 ≤ k) && decide (k < chunksV pg)
theorem isChunk_iff {pg k : Int} : isChunk pg k = true ↔ 0 ≤ k ∧ k < chunksV pg := by simp [isChunk]
theorem isChunk_not {pg k : Int} : isChunk pg k = false ↔ ¬ (0 ≤ k ∧ k < chunksV pg) := by
 cases h : isChunk pg k with
 | true => simp [isChunk_iff.1 h]
 | false => simp only [true_iff]; intro q; rw [isChunk_iff.2 q] at h; cases h
theorem tbl_in {pg st k : Int} (h : isChunk pg k = true) : tblV pg st k = tableV st + k := if_pos (isChunk_iff.1 h)
theorem tbl_out {pg st k : Int} (h : isChunk pg k = false) : tblV pg st k = 0 := if_neg (isChunk_not.1 h)
def ofV (p : Int) : Int := if p < 0 then -1 else p / 4
def firstV (pg k : Int) : Int := if isChunk pg k then 4 * k else 0
def sizeV (pg k : Int) : Int := if isChunk pg k then min 4 (pg - 4 * k) else 0
def thereB (pg p n : Int) : Bool := decide (0 ≤ p) && (decide (1 ≤ n) && decide (n ≤ pg - p))
theorem there_iff {pg p n : Int} : thereB pg p n = true ↔ 0 ≤ p ∧ 1 ≤ n ∧ n ≤ pg - p := by simp [thereB]
def mappedP (pg st k : Int) : Prg Bool := if isChunk pg k then bindP (readP (tblV pg st k)) (fun y => pureP (decide (y = 1))) else pureP false
def turnP (pg st k x : Int) : Prg Int := if isChunk pg k then bindP (mappedP pg st k) (fun b => if b = decide (x = 1) then pureP 0 else bindP (writeP (tblV pg st k) x) (fun _ => pureP (sizeV pg k))) else pureP 0
def ensureN (pg st : Int) : Nat → Int → Int → Prg Int
 | 0,_,s => pureP s
 | m + 1,k,s => bindP (turnP pg st k 1) (fun x => ensureN pg st m (k + 1) (s + x))
def countN (pg st : Int) : Nat → Int → Int → Prg Int
 | 0,_,s => pureP s
 | m + 1,k,s => bindP (mappedP pg st k) (fun b => countN pg st m (k + 1) (s + if b then sizeV pg k else 0))
def spanV (p n : Int) : Nat := ((p + n - 1) / 4 - p / 4 + 1).toNat
def ensureP (pg st p n : Int) : Prg Int := if thereB pg p n then ensureN pg st (spanV p n) (p / 4) 0 else pureP 0
def countP (pg st : Int) : Prg Int := countN pg st (chunksV pg).toNat 0 0
structure TblIn (pg st : Int) (n : Nat) : Prop where
 st1 : 1 ≤ st
 st2 : st ≤ 64
 pg1 : 1 ≤ pg
 pg2 : pg ≤ 256
 top : tableV st + chunksV pg ≤ n
section
variable {pg st : Int} {n : Nat} (H : TblIn pg st n)
include H
theorem tbl_b {k : Int} (h : isChunk pg k = true) : 4 ≤ tblV pg st k ∧ tblV pg st k < n ∧ W64 (tblV pg st k) := by
 rw [tbl_in h]
 have := isChunk_iff.1 h
 have h1 := H.st1; have h2 := H.st2; have h3 := H.top; have h4 := H.pg1; have h5 := H.pg2
 unfold chunksV at *
 unfold tableV W64 at *
 omega
theorem size_b (k : Int) : 0 ≤ sizeV pg k ∧ sizeV pg k ≤ 4 := by
 unfold sizeV
 split
 · rename_i h
   have := isChunk_iff.1 h
   have := H.pg1
   unfold chunksV at *
   omega
 · omega
theorem good_mapped (k : Int) : Good n (fun _ => True) (mappedP pg st k) := by
 unfold mappedP
 split
 · rename_i h
   exact good_bind (good_read n (tbl_b H h).2.1) (fun y _ => good_pure n trivial)
 · exact good_pure n trivial
theorem good_turn (k x : Int) (hx : W64 x) : Good n (fun y => 0 ≤ y ∧ y ≤ 4) (turnP pg st k x) := by
 unfold turnP
 split
 · rename_i h
   obtain ⟨h0,h1,h2⟩ := tbl_b H h
   refine good_bind (good_mapped H k) (fun b _ => ?_)
   split
   · exact good_pure n (by omega)
   · exact good_bind (good_write n h2 h1 hx) (fun _ _ => good_pure n (size_b H k))
 · exact good_pure n (by omega)
theorem good_ensureN (m : Nat) : ∀ k s : Int,0 ≤ s → Good n (fun y : Int => 0 ≤ y ∧ y ≤ s + 4 * m) (ensureN pg st m k s) := by
 induction m with
 | zero => intro k s h; exact good_pure n (by omega)
 | succ m ih =>
   intro k s h
   exact good_bind (good_turn H k 1 (by unfold W64; omega)) (fun x hx => good_imp (ih _ _ (by omega)) (fun y hy => by omega))
end
theorem sound_mapped (pg st k : Int) : Sound (mappedP pg st k) := by
 unfold mappedP
 exact sound_ite (sound_bind (sound_read _) (fun _ => sound_pure _)) (sound_pure _)
theorem sound_turn (pg st k x : Int) : Sound (turnP pg st k x) := by
 unfold turnP
 exact sound_ite (sound_bind (sound_mapped _ _ _) (fun _ => sound_ite (sound_pure _) (sound_bind (sound_write _ _) (fun _ => sound_pure _)))) (sound_pure _)
theorem sound_ensureN (pg st : Int) (m : Nat) : ∀ k s,Sound (ensureN pg st m k s) := by
 induction m with
 | zero => intro k s; exact sound_pure _
 | succ m ih => intro k s; exact sound_bind (sound_turn _ _ _ _) (fun x => ih _ _)
theorem sound_ensure (pg st p n : Int) : Sound (ensureP pg st p n) := sound_ite (sound_ensureN _ _ _ _ _) (sound_pure _)
theorem span_b {pg p n : Int} (h : thereB pg p n = true) (h2 : pg ≤ 256) : (spanV p n : Int) = (p + n - 1) / 4 - p / 4 + 1 ∧ spanV p n ≤ 64 := by
 obtain ⟨h0,h1,h3⟩ := there_iff.1 h
 unfold spanV; omega
theorem span_in {pg p n : Int} (h : thereB pg p n = true) (i : Nat) (hi : i < spanV p n) : isChunk pg (p / 4 + i) = true := by
 obtain ⟨h0,h1,h3⟩ := there_iff.1 h
 rw [isChunk_iff]
 unfold spanV at hi
 unfold chunksV
 omega
def mappedV (pg st : Int) (ws : List Int) (k : Int) : Bool := isChunk pg k && decide (wAt ws (tblV pg st k) = 1)
def turnV (pg st : Int) (k x : Int) (ws : List Int) : Int × List Int :=
 if isChunk pg k then (if mappedV pg st ws k = decide (x = 1) then (0,ws) else (sizeV pg k,ws.set (tblV pg st k).toNat x)) else (0,ws)
def ensureV (pg st : Int) : Nat → Int → Int → List Int → Int × List Int
 | 0,_,s,ws => (s,ws)
 | m + 1,k,s,ws => ensureV pg st m (k + 1) (s + (turnV pg st k 1 ws).1) (turnV pg st k 1 ws).2
def countV (pg st : Int) : Nat → Int → Int → List Int → Int
 | 0,_,s,_ => s
 | m + 1,k,s,ws => countV pg st m (k + 1) (s + if mappedV pg st ws k then sizeV pg k else 0) ws
section
variable {pg st : Int} {n : Nat} (H : TblIn pg st n)
include H
theorem flat_mapped (k : Int) : Flat n (mappedP pg st k) (fun ws => (mappedV pg st ws k,ws)) := by
 unfold mappedP mappedV
 split
 · rename_i h
   obtain ⟨h0,h1,h2⟩ := tbl_b H h
   exact flat_eq (flat_bind (flat_read (by omega) h1) (fun y => flat_pure n (decide (y = 1)))) (fun ws _ => by simp [h])
 · rename_i h
   exact flat_eq (flat_pure n false) (fun ws _ => by simp [h])
theorem flat_turn (k x : Int) (hx : W64 x) : Flat n (turnP pg st k x) (turnV pg st k x) := by
 unfold turnP
 split
 · rename_i h
   obtain ⟨h0,h1,h2⟩ := tbl_b H h
   have hb : ∀ b : Bool,Flat n (if b = decide (x = 1) then pureP 0 else bindP (writeP (tblV pg st k) x) (fun _ => pureP (sizeV pg k))) (fun ws => if b = decide (x = 1) then (0,ws) else (sizeV pg k,ws.set (tblV pg st k).toNat x)) := fun b => by
     by_cases e : b = decide (x = 1)
     · rw [if_pos e]; exact flat_eq (flat_pure n 0) (fun ws _ => by rw [if_pos e])
     · rw [if_neg e]; exact flat_eq (flat_bind (flat_write (by omega) h1 h2 hx) (fun _ => flat_pure n (sizeV pg k))) (fun ws _ => by rw [if_neg e])
   exact flat_eq (flat_bind (flat_mapped H k) hb) (fun ws _ => by unfold turnV; rw [if_pos h])
 · rename_i h
   exact flat_eq (flat_pure n 0) (fun ws _ => by unfold turnV; rw [if_neg h])
theorem flat_ensureN (m : Nat) : ∀ k s,Flat n (ensureN pg st m k s) (ensureV pg st m k s) := by
 induction m with
 | zero => intro k s; exact flat_pure n s
 | succ m ih => intro k s; exact flat_bind (flat_turn H k 1 (by unfold W64; omega)) (fun x => ih (k + 1) (s + x))
end
theorem turn_len (pg st k x : Int) (ws : List Int) : (turnV pg st k x ws).2.length = ws.length := by
 unfold turnV; split
 · split <;> simp
 · rfl
end Go.Proofs.YtflihdcliknggaaGreatDoor
namespace Go.Proofs.YtflihdcliknggaaGreatDoor
open Go.RowKit Go.Sort Go.Maps Go.Shelf
structure Cfg where
 wk : Int
 cp : Int
 pg : Int
 st : Int
 tr : Int
 wt : Int
 ck : Int
 pr : Int
 ca : Int
 bi : Int
 ba : Int
def Cfg.Ok (c : Cfg) : Prop := CfgOk c.wk c.cp c.pg c.st c.tr c.wt c.ck c.pr c.ca c.bi c.ba
def Cfg.starts (c : Cfg) : Nat → Int := startsV c.cp c.pg c.st c.ca c.bi
def Cfg.arr (c : Cfg) : Array Value := layArr c.wk c.cp c.pg c.st c.tr c.wt c.ck c.pr c.ca c.bi c.ba c.starts
def Cfg.cells (c : Cfg) : Array Value := #[.int .i64 c.wk,.int .i64 c.cp,.int .i64 c.pg,.int .i64 c.st,.int .i64 c.tr,.int .i64 c.wt,.int .i64 c.ck,.int .i64 c.pr,.int .i64 c.ca,.int .i64 c.bi,.int .i64 c.ba]
def Cfg.words (c : Cfg) : Int := wordsV c.cp c.pg c.st c.ca c.bi
def chkArr (c : Cfg) (k : Int) : Array Value := c.arr.push (.int .i64 k)
theorem y_table {c : Cfg} (R : c.Ok) (w : World) (k : Int) : Calls Tryz.prog 177 #[.agg c.arr,.int .i64 k] w (Gives w (.int .i64 (tblV c.pg c.st k))) := xtable R w k
theorem y_config {c : Cfg} (R : c.Ok) (w : World) : Calls Tryz.prog 17 #[.agg c.arr] w (Gives w (.agg #[.int .i64 c.wk,.int .i64 c.cp,.int .i64 c.pg,.int .i64 c.st,.int .i64 c.tr,.int .i64 c.wt,.int .i64 c.ck,.int .i64 c.pr,.int .i64 c.ca,.int .i64 c.bi,.int .i64 c.ba])) := xconfig R w
theorem y_words {c : Cfg} (R : c.Ok) (w : World) : Calls Tryz.prog 34 #[.agg c.arr] w (Gives w (.int .i64 c.words)) := xwords R w
theorem field_pages (c : Cfg) (W : World) : (Instr.field 23 (.agg #[.int .i64 c.wk,.int .i64 c.cp,.int .i64 c.pg,.int .i64 c.st,.int .i64 c.tr,.int .i64 c.wt,.int .i64 c.ck,.int .i64 c.pr,.int .i64 c.ca,.int .i64 c.bi,.int .i64 c.ba]) 2).run Tryz.prog W = .ok (.int .i64 c.pg) W := by kernel_rfl
theorem build_chunk (c : Cfg) (k : Int) (W : World) : (Instr.build 132 #[(0,.agg c.arr),(1,.int .i64 k)]).run Tryz.prog W = .ok (.agg (chkArr c k)) W := run_build W _ _ _ (by kernel_rfl)
theorem chk_last (c : Cfg) (k : Int) : (chkArr c k)[24]? = some (.int .i64 k) := by rfl
theorem chk_part (c : Cfg) (k : Int) : ∀ j,j < 24 → (chkArr c k)[j]? = c.arr[j]? := fun j hj => by
 unfold chkArr
 rw [Array.getElem?_push,if_neg (by show j ≠ 24; omega)]
theorem run_loadVar_head {P : Program} (w : World) (g : Nat) (t ty : TypeId) (cs hs : Array Value) (fr : Nat × Nat) (d : TypeDesc) (hg : w.heap[g]? = some (.cells cs t fr)) (hc : ∀ j,j < hs.size → cs[j]? = hs[j]?)
   (hu : P.underlying ty = some d) (hd : (match d with | .struct _ | .array _ _ => true | _ => false) = true) (hi : (P.info? ty).map (·.size) = some hs.size) :
   (loadVar ty ⟨g,0,none⟩).run P w = .ok (.agg hs) w := by
 have hl : (loadCells ⟨g,0,none⟩ hs.toList.length).run P w = .ok hs.toList.toArray w :=
   run_loadCells_list (P:=P) w ⟨g,0,none⟩ hs.toList (fun j v hv => by
     have hj : j < hs.size := by have := (List.getElem?_eq_some_iff.1 hv).1; simpa using this
     rw [addr_add,Nat.zero_add,cell_of_row w g j cs t fr hg,hc j hj]
     simpa using hv)
 cases hq : P.info? ty with
 | none => simp [hq] at hi
 | some i =>
   have hs : i.size = hs.size := by simpa [hq] using hi
   have hagg : (isAgg ty).run P w = .ok true w := by
     unfold isAgg
     rw [Sem.run_bind,run_underlying hu w]
     cases d <;> simp_all
   simp only [Array.length_toList,Array.toArray_toList] at hl
   simp [loadVar,Sem.run_bind,hagg,sizeOf,typeInfo,hq,hs,hl]
theorem wpList_load_head {P : Program} {ops : Array Oper} {rest : List Oper} {o : Oper} {a : Act} {w : World} {Q : Exit → Act → World → Prop} (hw : Region.wanted o (yielded ops a.tmps) = true) (ty : TypeId) (x : Operand) (ho : o.op = .load ty x)
   (g : Nat) (hx : a.eval x = .pointer (some ⟨g,0,none⟩)) (t : TypeId) (cs hs : Array Value) (fr : Nat × Nat) (d : TypeDesc) (hg : w.heap[g]? = some (.cells cs t fr)) (hc : ∀ j,j < hs.size → cs[j]? = hs[j]?)
   (hu : P.underlying ty = some d) (hd : (match d with | .struct _ | .array _ _ => true | _ => false) = true) (hi : (P.info? ty).map (·.size) = some hs.size)
   (h : wpList P ops Q rest (a.put o.dst (.agg hs)) w) : wpList P ops Q (o :: rest) a w :=
 wpList_wanted hw fun K hK => by
   unfold Oper.wp Oper.upon execOp
   simp only [ho,hx,Instr.loadAt,Instr.sureAddr,Sem.run_bind,Sem.run_pure,Result.andThen_ok,run_loadVar_head w g t ty cs hs fr d hg hc hu hd hi]
   exact hK _ _ h
theorem c_of (p : Int) (h0 : -9223372036854775808 ≤ p) (h1 : p ≤ 9223372036854775807) (w : World) : Calls Tryz.prog 132 #[.int .i64 p] w fun e w' => e = .returned (.int .i64 (ofV p)) ∧ w' = w := by
 by_cases c : p < 0
 · rw [show ofV p = -1 from if_pos c]
   go_enter Tryz.func132,Tryz.ntmps132
   go_wp2_with fail
   go_ret
   exact ⟨rfl,rfl⟩
 · rw [show ofV p = p / 4 from if_neg c]
   have q2 : IntKind.i64.wrap (p.tdiv 4) = p / 4 := by rw [Int.tdiv_eq_ediv_of_nonneg (by omega)]; exact wrap_in (by omega) (by omega)
   have d0 : decide (p < 0) = false := by simp; omega
   go_enter Tryz.func132,Tryz.ntmps132
   go_wp2_with fail
   go_ret
   exact ⟨rfl,rfl⟩
theorem c_word {c : Cfg} (R : c.Ok) (k : Int) (w : World) : Calls Tryz.prog 169 #[.agg (chkArr c k)] w (Gives w (.int .i64 (tblV c.pg c.st k))) := by
 have HC := hQQ (row_new w (chkArr c k) 132)
 have x24 := cell_more HC.out (More.refl _) (chk_last c k)
 have HM : Hid (More w (w.alloc (.cells (chkArr c k) 132))) := (More.refl w).alloc _
 go_enter Tryz.func169,Tryz.ntmps169
 go_wp2_with (refine wpList_load_head rfl 28 _ rfl _ rfl 132 _ c.arr _ _ HC.out (chk_part c k) Tryz.underlying28 rfl (by kernel_rfl) ?_)
 refine (y_table R _ k).mono ?_
 rintro e w1 ⟨rfl,h1⟩
 go_wp2_with fail
 go_ret
 exact ⟨rfl,HM.out.trans h1⟩
theorem tbl_zero {c : Cfg} (R : c.Ok) (k : Int) : (tblV c.pg c.st k == 0) = !isChunk c.pg k := by
 have h1 := R.st1
 cases h : isChunk c.pg k with
 | true =>
   rw [tbl_in h]
   have := isChunk_iff.1 h
   unfold tableV
   simp; omega
 | false => rw [tbl_out h]; rfl
theorem c_none {c : Cfg} (R : c.Ok) (k : Int) (w : World) : Calls Tryz.prog 168 #[.agg (chkArr c k)] w (Gives w (.bool (!isChunk c.pg k))) := by
 have HC := hQQ (row_new w (chkArr c k) 132)
 have HM : Hid (More w (w.alloc (.cells (chkArr c k) 132))) := (More.refl w).alloc _
 have b0 := tbl_zero R k
 go_enter Tryz.func168,Tryz.ntmps168
 go_wp2_with (refine wpList_load_row rfl 132 _ rfl _ rfl 132 _ _ _ HC.out Tryz.underlying132 rfl (by kernel_rfl) ?_)
 refine (c_word R k _).mono ?_
 rintro e w1 ⟨rfl,h1⟩
 go_wp2_with fail
 go_ret
 exact ⟨rfl,HM.out.trans h1⟩
theorem c_pages {c : Cfg} (R : c.Ok) (k : Int) (w : World) : Calls Tryz.prog 172 #[.agg (chkArr c k)] w (Gives w (.tuple #[.int .i64 (firstV c.pg k),.int .i64 (sizeV c.pg k)])) := by
 have HC := hQQ (row_new w (chkArr c k) 132)
 have HM : Hid (More w (w.alloc (.cells (chkArr c k) 132))) := (More.refl w).alloc _
 cases h : isChunk c.pg k with
 | false =>
   rw [show firstV c.pg k = 0 by unfold firstV; rw [h]; rfl,show sizeV c.pg k = 0 by unfold sizeV; rw [h]; rfl]
   go_enter Tryz.func172,Tryz.ntmps172
   go_wp2_with (refine wpList_load_row rfl 132 _ rfl _ rfl 132 _ _ _ HC.out Tryz.underlying132 rfl (by kernel_rfl) ?_)
   refine (c_none R k _).mono ?_
   rw [h]
   rintro e w1 ⟨rfl,h1⟩
   go_wp2_with fail
   go_ret2
   exact ⟨rfl,HM.out.trans h1⟩
 | true =>
   have hfl := field_pages c
   have hb := isChunk_iff.1 h
   have p1 := R.pg1
   have p2 := R.pg2
   have hu : 4 * k < c.pg ∧ k < 64 := by unfold chunksV at hb; omega
   have q0 : IntKind.i64.wrap (k * 4) = 4 * k := by rw [wrap_in (by omega) (by omega)]; omega
   have q1 : IntKind.i64.wrap (c.pg - 4 * k) = c.pg - 4 * k := wrap_in (by omega) (by omega)
   rw [show firstV c.pg k = 4 * k by unfold firstV; rw [h]; rfl,show sizeV c.pg k = min 4 (c.pg - 4 * k) by unfold sizeV; rw [h]; rfl]
   generalize hz : c.pg - 4 * k = z at q1
   have R' := hQQ R
   clear hb hu p1 p2
   have zz := hQQ hz
   clear hz
   go_enter Tryz.func172,Tryz.ntmps172
   go_wp2_with (refine wpList_load_row rfl 132 _ rfl _ rfl 132 _ _ _ HC.out Tryz.underlying132 rfl (by kernel_rfl) ?_)
   refine (c_none R'.out k _).mono ?_
   rw [h]
   rintro e w1 ⟨rfl,h1⟩
   have HC1 := hQQ (h1.block HC.out)
   have HM1 := hQQ (HM.out.trans h1)
   have x24 := cell_more HC1.out (More.refl _) (chk_last c k)
   clear h1
   go_wp2_with (refine wpList_load_head rfl 28 _ rfl _ rfl 132 _ c.arr _ _ HC1.out (chk_part c k) Tryz.underlying28 rfl (by kernel_rfl) ?_)
   refine (y_config R'.out _).mono ?_
   rintro e w2 ⟨rfl,h2⟩
   have HM2 := hQQ (HM1.out.trans h2)
   have q3 := zz.out
   clear h2
   go_wp2_with fail
   go_ret2
   exact ⟨rfl,HM2.out⟩
theorem tbl64 {c : Cfg} (R : c.Ok) {k : Int} (h : isChunk c.pg k = true) : W64 (tblV c.pg c.st k) := by
 rw [tbl_in h]
 have := isChunk_iff.1 h
 have h1 := tableB R; have h2 := chunksB R
 unfold W64; omega
theorem c_isMapped {c : Cfg} (R : c.Ok) (F : Nat → Prop) (p : Nat) (kn : Int → Option Int) (D : List KV) (k : Int) (w : World) (hv : ViewAt w F p kn D) :
   Calls Tryz.prog 158 #[.agg (chkArr c k),.pointer (some ⟨p,0,none⟩)] w (WentV w F p kn (fun b => .bool b) (mappedP c.pg c.st k kn D)) := by
 have HC := hQQ (row_new w (chkArr c k) 132)
 have HM : Hid (More w (w.alloc (.cells (chkArr c k) 132))) := (More.refl w).alloc _
 have HV := hQQ hv
 have HR := hQQ R
 clear hv
 cases h : isChunk c.pg k with
 | false =>
   have FIN : Hid (∀ w',More w w' → WentV w F p kn (fun b => .bool b) (mappedP c.pg c.st k kn D) (.returned (.bool false)) w') := hQQ fun w' m => WentV.same (by unfold mappedP; rw [h]; rfl) HV.out m
   go_enter Tryz.func158,Tryz.ntmps158
   go_wp2_with (refine wpList_load_row rfl 132 _ rfl _ rfl 132 _ _ _ HC.out Tryz.underlying132 rfl (by kernel_rfl) ?_)
   refine (c_none HR.out k _).mono ?_
   rw [h]
   rintro e w1 ⟨rfl,h1⟩
   have HM1 := hQQ (HM.out.trans h1)
   clear h1
   go_wp2_with fail
   go_ret
   exact FIN.out _ HM1.out
 | true =>
   have hR : mappedP c.pg c.st k kn D = bindP (readP (tblV c.pg c.st k)) (fun y => pureP (decide (y = 1))) kn D := by unfold mappedP; rw [h]; rfl
   rw [hR]
   have HW := hQQ (tbl64 R h)
   go_enter Tryz.func158,Tryz.ntmps158
   go_wp2_with (refine wpList_load_row rfl 132 _ rfl _ rfl 132 _ _ _ HC.out Tryz.underlying132 rfl (by kernel_rfl) ?_)
   refine (c_none HR.out k _).mono ?_
   rw [h]
   rintro e w1 ⟨rfl,h1⟩
   have HM1 := hQQ (HM.out.trans h1)
   have HC1 := hQQ (h1.block HC.out)
   clear h1
   go_wp2_with (refine wpList_load_rowG rfl 132 _ rfl _ rfl 132 _ _ _ HC1.out Tryz.underlying132 rfl (by kernel_rfl) ?_)
   refine (c_word HR.out k _).mono ?_
   rintro e w2 ⟨rfl,h2⟩
   have HM2 := hQQ (HM1.out.trans h2)
   clear h2
   have HV2 := hQQ (HV.out.more HM2.out)
   cases hw : wordV kn D (tblV c.pg c.st k) with
   | none =>
     have HN := hQQ hw
     clear hw
     go_wp2_with fail
     refine (read_need F p kn D _ w2 HV2.out HW.out HN.out).mono ?_
     intro e w3 he
     obtain rfl := he.1
     exact ⟨rfl,WentV.after HM2.out (WentV.need (bindP_need (readP_none HN.out)) he)⟩
   | some y =>
     have HN := hQQ hw
     have FIN : Hid (∀ n,WentV w F p kn (fun b => .bool b) (bindP (readP (tblV c.pg c.st k)) (fun y => pureP (decide (y = 1))) kn D) (.returned (.bool (decide (y = 1)))) (w2.drewN n)) := hQQ fun n => WentV.same (by rw [bindP_ok (readP_some HN.out)]; rfl) HV.out (HM2.out.drewN n)
     have b1 : (y == 1) = decide (y = 1) := by by_cases q : y = 1 <;> simp [q]
     clear hw
     go_wp2_with fail
     refine (read_some F p kn D _ y w2 HV2.out HW.out HN.out).mono ?_
     rintro e w3 ⟨rfl,n,rfl⟩
     go_wp2_with fail
     go_ret
     exact FIN.out n
theorem c_turn {c : Cfg} (R : c.Ok) {n : Nat} (H : TblIn c.pg c.st n) (hn : n ≤ 10000) (F : Nat → Prop) (p : Nat) (kn : Int → Option Int) (D : List KV) (k x : Int) (w : World) (hv : ViewAt w F p kn D) (hk : OkK kn) (hD : InvD n D) :
   Calls Tryz.prog 161 #[.agg (chkArr c k),.pointer (some ⟨p,0,none⟩),.int .i64 x] w (WentV w F p kn (fun y => .int .i64 y) (turnP c.pg c.st k x kn D)) := by
 have HC := hQQ (row_new w (chkArr c k) 132)
 have HM : Hid (More w (w.alloc (.cells (chkArr c k) 132))) := (More.refl w).alloc _
 have HV := hQQ hv
 have HR := hQQ R
 have HK := hQQ hk
 have HD := hQQ hD
 have HH := hQQ H
 clear hv hk hD H
 cases h : isChunk c.pg k with
 | false =>
   have FIN : Hid (∀ w',More w w' → WentV w F p kn (fun y => .int .i64 y) (turnP c.pg c.st k x kn D) (.returned (.int .i64 0)) w') := hQQ fun w' m => WentV.same (by unfold turnP; rw [h]; rfl) HV.out m
   go_enter Tryz.func161,Tryz.ntmps161
   go_wp2_with (refine wpList_load_row rfl 132 _ rfl _ rfl 132 _ _ _ HC.out Tryz.underlying132 rfl (by kernel_rfl) ?_)
   refine (c_none HR.out k _).mono ?_
   rw [h]
   rintro e w1 ⟨rfl,h1⟩
   have HM1 := hQQ (HM.out.trans h1)
   clear h1
   go_wp2_with fail
   go_ret
   exact FIN.out _ HM1.out
 | true =>
   have hR : turnP c.pg c.st k x kn D = bindP (mappedP c.pg c.st k) (fun b => if b = decide (x = 1) then pureP 0 else bindP (writeP (tblV c.pg c.st k) x) (fun _ => pureP (sizeV c.pg k))) kn D := by unfold turnP; rw [h]; rfl
   rw [hR]
   have HW := hQQ (tbl64 R h)
   go_enter Tryz.func161,Tryz.ntmps161
   go_wp2_with (refine wpList_load_row rfl 132 _ rfl _ rfl 132 _ _ _ HC.out Tryz.underlying132 rfl (by kernel_rfl) ?_)
   refine (c_none HR.out k _).mono ?_
   rw [h]
   rintro e w1 ⟨rfl,h1⟩
   have HM1 := hQQ (HM.out.trans h1)
   have HC1 := hQQ (h1.block HC.out)
   clear h1
   have HV1 := hQQ (HV.out.more HM1.out)
   have bx : (x == 1) = decide (x = 1) := by by_cases q : x = 1 <;> simp [q]
   go_wp2_with (refine wpList_load_rowG rfl 132 _ rfl _ rfl 132 _ _ _ HC1.out Tryz.underlying132 rfl (by kernel_rfl) ?_)
   refine (c_isMapped HR.out F p kn D k w1 HV1.out).mono ?_
   intro e w2 he
   cases hm : mappedP c.pg c.st k kn D with
   | need a =>
     rw [hm] at he
     obtain rfl := he.1
     have FIN := WentV.after (kn:=kn) HM1.out (WentV.need (val:=fun y : Int => Value.int .i64 y) (bindP_need (f:=fun b : Bool => if b = decide (x = 1) then pureP (0 : Int) else bindP (writeP (tblV c.pg c.st k) x) (fun _ => pureP (sizeV c.pg k))) hm) he)
     exact ⟨rfl,FIN⟩
   | ok b D1 =>
     rw [hm] at he
     have HB := hQQ hm
     have hI1 := ((good_mapped HH.out k).ok HK.out HD.out hm).1
     obtain ⟨rfl,F1,hv2,ht2,hn2⟩ := he
     have lD1 : D1.length < 100000 := by have := hI1.len; omega
     have HV2 := hQQ hv2
     have HT2 : Hid (Turned F w w2) := hQQ (turned_own (Turned.mono HM1.out (fun _ _ q => q.elim)) ht2 (fun k q => .inl q))
     have HN1 := hQQ hn2
     have HN2 : Hid (∀ k,F1 k → F k ∨ w.heap.size ≤ k) := hQQ fun k q => (hn2 k q).imp id (fun r => Nat.le_trans HM1.out.size r)
     have nC : ¬ F w.heap.size := fun q => by have := HV.out.lt _ q; omega
     have HC2 : Hid (w2.heap[w.heap.size]? = _) := hQQ ((Turned.block ht2 _ (lt_of_heap HC1.out) nC).trans HC1.out)
     clear hm hI1 hv2 ht2 hn2
     by_cases hb : b = decide (x = 1)
     · have FIN : Hid (∀ w',More w2 w' → WentV w F p kn (fun y => .int .i64 y) (bindP (mappedP c.pg c.st k) (fun b => if b = decide (x = 1) then pureP 0 else bindP (writeP (tblV c.pg c.st k) x) (fun _ => pureP (sizeV c.pg k))) kn D) (.returned (.int .i64 0)) w') := hQQ fun w' m =>
         WentV.from HT2.out HN2.out (WentV.same (by rw [bindP_ok HB.out,if_pos hb]; rfl) HV2.out m)
       have be : (b == decide (x = 1)) = true := by simp [hb]
       clear hb
       go_wp2_with fail
       go_ret
       exact FIN.out _ (More.refl _)
     · have FIN : Hid (∀ w0 e w',More w2 w0 → DidView w0 F1 p kn (writeV D1 (tblV c.pg c.st k) x) (.tuple #[]) e w' → e = .returned (.tuple #[]) ∧ Turned F1 w0 w' ∧ ∀ w'',More w' w'' → WentV w F p kn (fun y => .int .i64 y) (bindP (mappedP c.pg c.st k) (fun b => if b = decide (x = 1) then pureP 0 else bindP (writeP (tblV c.pg c.st k) x) (fun _ => pureP (sizeV c.pg k))) kn D) (.returned (.int .i64 (sizeV c.pg k))) w'') := hQQ fun w0 e w' m hd => by
         obtain ⟨he,F2,hv3,ht3,hn3⟩ := hd
         refine ⟨he,ht3,fun w'' m2 => ?_⟩
         refine WentV.from HT2.out HN2.out (WentV.did (x:=sizeV c.pg k) (D:=writeV D1 (tblV c.pg c.st k) x) (by rw [bindP_ok HB.out,if_neg hb]; rfl) ⟨rfl,F2,hv3.more m2,?_,fun k q => (hn3 k q).imp id (fun r => Nat.le_trans m.size r)⟩)
         exact turned_own (F' := fun _ => False) (turned_own (Turned.mono m (fun _ _ q => q.elim)) ht3 (fun k q => .inl q)) m2 (fun _ q => q.elim)
       have be : (b == decide (x = 1)) = false := by simp [hb]
       clear hb
       go_wp2_with (refine wpList_load_row rfl 132 _ rfl _ rfl 132 _ _ _ HC2.out Tryz.underlying132 rfl (by kernel_rfl) ?_)
       refine (c_word HR.out k _).mono ?_
       rintro e w3 ⟨rfl,h3⟩
       have HM3 := hQQ h3
       have HV3 := hQQ (HV2.out.more h3)
       have HC3 := hQQ (h3.block HC2.out)
       clear h3
       go_wp2_with fail
       refine (write_ok F1 p kn D1 (tblV c.pg c.st k) x w3 HV3.out lD1).mono ?_
       intro e w4 he
       obtain ⟨rfl,ht4,hf⟩ := FIN.out w3 e w4 HM3.out he
       have HF := hQQ hf
       have nC1 : ¬ F1 w.heap.size := fun q => by
         have h0 : w.heap.size < w1.heap.size := lt_of_heap HC1.out
         rcases HN1.out _ q with r | r
         · exact nC r
         · omega
       have HC4 : Hid (w4.heap[w.heap.size]? = _) := hQQ ((Turned.block ht4 _ (lt_of_heap HC3.out) nC1).trans HC3.out)
       clear hf he ht4
       go_wp2_with (refine wpList_load_row rfl 132 _ rfl _ rfl 132 _ _ _ HC4.out Tryz.underlying132 rfl (by kernel_rfl) ?_)
       refine (c_pages HR.out k _).mono ?_
       rintro e w5 ⟨rfl,h5⟩
       have HM5 := hQQ h5
       clear h5
       go_wp2_with fail
       go_ret
       exact HF.out _ HM5.out
end Go.Proofs.YtflihdcliknggaaGreatDoor
