/-
  What a function that is handed a view comes to; on the way through a program that is handed a view: between two calls.
-/
import Derived.Test.YtflihdcliknggaaViewDoY
import Derived.Test.YtflihdcliknggaaPrgD
import Derived.Test.YtflihdcliknggaaInts
namespace Go.Proofs.Ytflihdcliknggaa
open Go.RowKit Go.Sort Go.Maps Go.Shelf
set_option linter.unusedVariables false
set_option linter.unusedSimpArgs false

/-- A view stands where no block of its own turns, nor a map. -/
theorem ViewAt.keepS {w w' : World} {F S : Nat → Prop} {p : Nat} {kn : Int → Option Int} {D : List KV} (h : ViewAt w F p kn D) (ht : Turned S w w') (hs : ∀ k, F k → ¬ S k) (hM : ∀ k es cl, S k → w.heap[k]? ≠ some (.map es cl)) : ViewAt w' F p kn D := by
  obtain ⟨M, q, n, F0, hp, hk, hm, fp, f0, fM⟩ := h.ex
  have nM : ¬ S M := by
    obtain ⟨D', ⟨es, clock, hb, _⟩, _⟩ := hk
    intro q
    exact hM M _ _ q hb
  exact ⟨⟨M, q, n, F0, by rw [Turned.block ht p (lt_of_heap hp) (hs p fp)]; exact hp, hk.keep ht nM, hm.keep ht (fun k q => hs k (f0 k q).1), fp, f0, fM⟩, fun k hk => Nat.lt_of_lt_of_le (h.lt k hk) ht.size⟩
section
variable {P : Program} {w : World}
theorem run_loadVar_cell {ty : TypeId} {g i : Nat} {v : Value} {d : TypeDesc} (hu : P.underlying ty = some d) (hd : (match d with | .struct _ | .array _ _ => true | _ => false) = false) (hc : w.cell? ⟨g, i, none⟩ = some v) : (loadVar ty ⟨g, i, none⟩).run P w = .ok v w := by
  have hagg : (isAgg ty).run P w = .ok false w := by
    unfold isAgg
    rw [Sem.run_bind, run_underlying hu w]
    cases d <;> simp_all
  simp [loadVar, Sem.run_bind, hagg, hc, Result.andThen, go_sem]
end
def BoxI (g : Nat) (w : World) : Prop := ∃ z : Int, w.heap[g]? = some (.cells #[.int .i64 z] 3 (0, 0))
theorem setCell_one {W : World} {g : Nat} {v : Value} {t : TypeId} (h : W.heap[g]? = some (.cells #[v] t (0, 0))) (z : Value) : (W.setCell ⟨g, 0, none⟩ z).heap[g]? = some (.cells #[z] t (0, 0)) := by
  have := heap_setCell (o := 0) z h
  simpa using this

/-- What a function that is handed the view at p comes to. -/
def WentV {α : Type} (w : World) (F : Nat → Prop) (p : Nat) (kn : Int → Option Int) (val : α → Value) (R : Res α) (e : Ending) (w' : World) : Prop :=
  match R with
  | .need a => Ended w F p a e w'
  | .ok x D => DidView w F p kn D (val x) e w'
theorem WentV.from {α : Type} {w w2 w' : World} {F F' : Nat → Prop} {p : Nat} {kn : Int → Option Int} {val : α → Value} {R : Res α} {e : Ending} (t : Turned F w w2) (n : ∀ k, F' k → F k ∨ w.heap.size ≤ k) (h : WentV w2 F' p kn val R e w') : WentV w F p kn val R e w' := by
  cases R with
  | need a => exact ⟨h.1, h.2.1, turned_own t h.2.2 n⟩
  | ok x D =>
    obtain ⟨he, F1, hv, ht, hn⟩ := h
    refine ⟨he, F1, hv, turned_own t ht n, fun k hk => ?_⟩
    rcases hn k hk with q | q
    · exact n k q
    · exact .inr (Nat.le_trans t.size q)
theorem WentV.after {α : Type} {w w2 w' : World} {F : Nat → Prop} {p : Nat} {kn : Int → Option Int} {val : α → Value} {R : Res α} {e : Ending} (t : More w w2) (h : WentV w2 F p kn val R e w') : WentV w F p kn val R e w' :=
  h.from (Turned.mono t (fun _ _ q => q.elim)) (fun k q => .inl q)
theorem WentV.need {α : Type} {w w' : World} {F : Nat → Prop} {p : Nat} {kn : Int → Option Int} {val : α → Value} {R : Res α} {e : Ending} {a : Int} (hR : R = .need a) (h : Ended w F p a e w') : WentV w F p kn val R e w' := by subst hR; exact h
theorem WentV.did {α : Type} {w w' : World} {F : Nat → Prop} {p : Nat} {kn : Int → Option Int} {val : α → Value} {R : Res α} {e : Ending} {x : α} {D : List KV} (hR : R = .ok x D) (h : DidView w F p kn D (val x) e w') : WentV w F p kn val R e w' := by subst hR; exact h
/-- The view stands as it stood. -/
theorem WentV.same {α : Type} {w w' : World} {F : Nat → Prop} {p : Nat} {kn : Int → Option Int} {D : List KV} {val : α → Value} {R : Res α} {x : α} (hR : R = .ok x D) (hv : ViewAt w F p kn D) (t : More w w') : WentV w F p kn val R (.returned (val x)) w' := by
  subst hR; exact DidView.same hv t
/-- Another answer of the same end. -/
def mapR {α β : Type} (f : α → β) : Res α → Res β
  | .need a => .need a
  | .ok x D => .ok (f x) D
theorem WentV.map {α β : Type} {w w' : World} {F : Nat → Prop} {p : Nat} {kn : Int → Option Int} {val : α → Value} {val' : β → Value} (f : α → β) {R : Res α} {x : α} {D : List KV} {v : Value} (hR : R = .ok x D) (h : WentV w F p kn val R (.returned v) w') : WentV w F p kn val' (mapR f R) (.returned (val' (f x))) w' := by
  subst hR
  obtain ⟨_, F', hv, ht, hn⟩ := h
  exact ⟨rfl, F', hv, ht, hn⟩
theorem WentV.mapN {α β : Type} {w w' : World} {F : Nat → Prop} {p : Nat} {kn : Int → Option Int} {val : α → Value} {val' : β → Value} (f : α → β) {R : Res α} {a : Int} {e : Ending} (hR : R = .need a) (h : WentV w F p kn val R e w') : WentV w F p kn val' (mapR f R) e w' := by
  subst hR
  exact h


/-- The program began in W, at a view at p whose blocks were F; S: boxes of its own that it turns. -/
structure MidV (W wr : World) (F S : Nat → Prop) (p : Nat) (kn : Int → Option Int) (n : Nat) (D : List KV) (F' : Nat → Prop) : Prop where
  view : ViewAt wr F' p kn D
  from' : ∀ k, F' k → F k ∨ W.heap.size ≤ k
  turn : Turned (fun b => F b ∨ S b) W wr
  inv : InvD n D
namespace MidV
variable {W wr w1 w2 : World} {F S F' : Nat → Prop} {p n : Nat} {kn : Int → Option Int} {D : List KV}
theorem begin (hv : ViewAt W F p kn D) (hD : InvD n D) : MidV W W F S p kn n D F := ⟨hv, fun k q => .inl q, Turned.refl _ _, hD⟩
theorem more (h : MidV W wr F S p kn n D F') (m : More wr w1) : MidV W w1 F S p kn n D F' :=
  ⟨h.view.more m, h.from', turned_own (F' := fun _ => False) h.turn m (fun _ q => q.elim), h.inv⟩
theorem size (h : MidV W wr F S p kn n D F') : W.heap.size ≤ wr.heap.size := h.turn.size
theorem off (h : MidV W wr F S p kn n D F') {b : Nat} (hb : b < W.heap.size) (nF : ¬ F b) : ¬ F' b := fun q => by
  rcases h.from' b q with r | r
  · exact nF r
  · omega
/-- A box of the program's own is written. -/
theorem box (h : MidV W wr F S p kn n D F') {b : Nat} (hS : b < W.heap.size → S b) (nF : ¬ F' b) (v : Value) {cs : Array Value} {t : TypeId} {fr : Nat × Nat} (hb : wr.heap[b]? = some (.cells cs t fr)) : MidV W (wr.setCell ⟨b, 0, none⟩ v) F S p kn n D F' :=
  ⟨h.view.keepS (S := fun k => k = b) (Turned.setCell (S := fun k => k = b) (Turned.refl _ wr) ⟨b, 0, none⟩ v (fun _ => rfl)) (fun k q e => nF (e ▸ q)) (fun k es cl e q => by subst e; rw [hb] at q; cases q),
    h.from', turned_own h.turn (Turned.setCell (S := fun k => k = b) (Turned.refl _ wr) ⟨b, 0, none⟩ v (fun _ => rfl)) (fun k q => by
      subst q
      rcases Nat.lt_or_ge k W.heap.size with r | r
      · exact .inl (.inr (hS r))
      · exact .inr r), h.inv⟩
/-- What a call that is handed the view comes to. -/
theorem step {α : Type} {val : α → Value} {Q : α → Prop} {pr : Prg α} {e : Ending} (h : MidV W wr F S p kn n D F') (m : More wr w1) (hk : OkK kn) (G : Good n Q pr) (he : WentV w1 F' p kn val (pr kn D) e w2) :
    (∃ a, pr kn D = .need a ∧ e = .panicked (endOf p) ∧ DeadAt w2 p a ∧ Turned (fun b => F b ∨ S b) W w2 ∧ ∀ b o, ¬ F' b → wr.heap[b]? = some o → w2.heap[b]? = some o) ∨
    (∃ x D1 F1, pr kn D = .ok x D1 ∧ e = .returned (val x) ∧ MidV W w2 F S p kn n D1 F1 ∧ Q x ∧ (∀ b o, ¬ F' b → wr.heap[b]? = some o → w2.heap[b]? = some o) ∧ ∀ b, F1 b → F' b ∨ wr.heap.size ≤ b) := by
  have hm := h.more m
  have hs := m.size
  have hK : ∀ t, Turned F' w1 t → ∀ b o, ¬ F' b → wr.heap[b]? = some o → t.heap[b]? = some o := fun t ht b o nb hb => (ht.block b (lt_of_heap (m.block hb)) nb).trans (m.block hb)
  cases hE : pr kn D with
  | need a =>
    rw [hE] at he
    obtain ⟨h1, h2, h3⟩ := he
    exact .inl ⟨a, rfl, h1, h2, turned_own hm.turn h3 (fun k q => (h.from' k q).imp .inl id), hK _ h3⟩
  | ok x D1 =>
    rw [hE] at he
    obtain ⟨h1, F1, hv, ht, hn⟩ := he
    obtain ⟨i1, q1⟩ := G.ok hk h.inv hE
    refine .inr ⟨x, D1, F1, rfl, h1, ⟨hv, fun k q => ?_, turned_own hm.turn ht (fun k q => (h.from' k q).imp .inl id), i1⟩, q1, hK _ ht, fun b q => (hn b q).imp id (fun r => by omega)⟩
    rcases hn k q with r | r
    · exact h.from' k r
    · have := hm.size; exact .inr (by omega)
end MidV
theorem wy_need {W w2 : World} {F S : Nat → Prop} {Y X : World → Prop} {p : Nat} {kn : Int → Option Int} {R : Ran} {a : Int} (hR : R = .need a) (hd : DeadAt w2 p a) (ht : Turned (fun b => F b ∨ S b) W w2) (hy : Y w2) : WentY W F S Y X p kn R (.panicked (endOf p)) w2 := by
  subst hR; exact ⟨rfl, hd, ht, hy⟩
theorem wy_done {W wr : World} {F S F' : Nat → Prop} {Y X : World → Prop} {p n : Nat} {kn : Int → Option Int} {D : List KV} {R : Ran} (h : MidV W wr F S p kn n D F') (hR : R = .done D) (hy : Y wr) (hx : X wr) : WentY W F S Y X p kn R (.returned (.tuple #[])) wr := by
  subst hR; exact ⟨rfl, ⟨F', h.view⟩, h.turn, hy, hx⟩
theorem bindP_assoc {α β γ : Type} (p : Prg α) (f : α → Prg β) (g : β → Prg γ) : bindP (bindP p f) g = bindP p (fun x => bindP (f x) g) := by
  funext kn D; unfold bindP; cases p kn D <;> rfl
theorem bindP_pure {α β : Type} (x : α) (f : α → Prg β) : bindP (pureP x) f = f x := rfl
theorem mapR_eq {α β : Type} (f : α → β) (p : Prg α) (kn : Int → Option Int) (D : List KV) : mapR f (p kn D) = bindP p (fun x => pureP (f x)) kn D := by
  unfold bindP; cases p kn D <;> rfl
/-- A box of a Boolean. -/
def BoxB (g : Nat) (w : World) (b : Bool) : Prop := w.heap[g]? = some (.cells #[.bool b] 4 (0, 0))
theorem boxB_set {g : Nat} {w : World} {b : Bool} (h : BoxB g w b) (x : Bool) : BoxB g (w.setCell ⟨g, 0, none⟩ (.bool x)) x := setCell_one h _
theorem ranOf_need {α : Type} {R : Res α} {a : Int} (h : R = .need a) : ranOf R = .need a := by rw [h]; rfl
theorem ranOf_ok {α : Type} {R : Res α} {x : α} {D : List KV} (h : R = .ok x D) : ranOf R = .done D := by rw [h]; rfl
theorem entry1 (w : World) (o0 : Obj) : ∃ w1, w.alloc o0 = w1 ∧ w1.heap[w.heap.size]? = some o0 ∧ More w w1 ∧ w1.heap.size = w.heap.size + 1 := ⟨_, rfl, heap_new w o0, (More.refl _).alloc _, by simp⟩
theorem entry2 (w : World) (o0 o1 : Obj) : ∃ w2, (w.alloc o0).alloc o1 = w2 ∧ w2.heap[w.heap.size]? = some o0 ∧ w2.heap[w.heap.size + 1]? = some o1 ∧ More w w2 ∧ w2.heap.size = w.heap.size + 2 := by
  obtain ⟨w1, e1, h0, m0, s0⟩ := entry1 w o0
  rw [e1]
  obtain ⟨w2, e2, h1, m1, s1⟩ := entry1 w1 o1
  rw [s0] at h1
  exact ⟨w2, e2, m1.block h0, h1, m0.trans m1, by omega⟩
theorem entry3 (w : World) (o0 o1 o2 : Obj) : ∃ w3, ((w.alloc o0).alloc o1).alloc o2 = w3 ∧ w3.heap[w.heap.size]? = some o0 ∧ w3.heap[w.heap.size + 1]? = some o1 ∧ w3.heap[w.heap.size + 2]? = some o2 ∧ More w w3 ∧ w3.heap.size = w.heap.size + 3 := by
  have h0 := heap_new w o0
  have s0 : (w.alloc o0).heap.size = w.heap.size + 1 := by simp
  have m0 : More w (w.alloc o0) := (More.refl _).alloc _
  generalize w.alloc o0 = w1 at h0 s0 m0 ⊢
  have h1 := heap_new w1 o1
  rw [s0] at h1
  have s1 : (w1.alloc o1).heap.size = w.heap.size + 2 := by simp [s0]
  have m1 : More w1 (w1.alloc o1) := (More.refl _).alloc _
  generalize w1.alloc o1 = w2 at h1 s1 m1 ⊢
  have h2 := heap_new w2 o2
  rw [s1] at h2
  have m2 : More w2 (w2.alloc o2) := (More.refl _).alloc _
  exact ⟨_, rfl, m2.block (m1.block h0), m2.block h1, h2, (m0.trans m1).trans m2, by simp [s1]⟩
theorem entry4 (w : World) (o0 o1 o2 o3 : Obj) : ∃ w4, (((w.alloc o0).alloc o1).alloc o2).alloc o3 = w4 ∧ w4.heap[w.heap.size]? = some o0 ∧ w4.heap[w.heap.size + 1]? = some o1 ∧ w4.heap[w.heap.size + 2]? = some o2 ∧ w4.heap[w.heap.size + 3]? = some o3 ∧ More w w4 ∧ w4.heap.size = w.heap.size + 4 := by
  obtain ⟨w3, e3, h0, h1, h2, m3, s3⟩ := entry3 w o0 o1 o2
  rw [e3]
  obtain ⟨w4, e4, h3, m4, s4⟩ := entry1 w3 o3
  rw [s3] at h3
  exact ⟨w4, e4, m4.block h0, m4.block h1, m4.block h2, h3, m3.trans m4, by omega⟩
theorem entry5 (w : World) (o0 o1 o2 o3 o4 : Obj) : ∃ w5, ((((w.alloc o0).alloc o1).alloc o2).alloc o3).alloc o4 = w5 ∧ w5.heap[w.heap.size]? = some o0 ∧ w5.heap[w.heap.size + 1]? = some o1 ∧ w5.heap[w.heap.size + 2]? = some o2 ∧ w5.heap[w.heap.size + 3]? = some o3 ∧ w5.heap[w.heap.size + 4]? = some o4 ∧ More w w5 ∧ w5.heap.size = w.heap.size + 5 := by
  obtain ⟨w4, e4, h0, h1, h2, h3, m4, s4⟩ := entry4 w o0 o1 o2 o3
  rw [e4]
  obtain ⟨w5, e5, h4, m5, s5⟩ := entry1 w4 o4
  rw [s4] at h4
  exact ⟨w5, e5, m5.block h0, m5.block h1, m5.block h2, m5.block h3, h4, m4.trans m5, by omega⟩
/-! A function that is handed the view, with blocks of its own. -/
theorem mid_need {α : Type} {w w1 w2 : World} {F S : Nat → Prop} {p : Nat} {kn : Int → Option Int} {val : α → Value} {R : Res α} {a : Int} (m : More w w1) (hS : ∀ b, S b → w.heap.size ≤ b) (hR : R = .need a) (hd : DeadAt w2 p a) (ht : Turned (fun b => F b ∨ S b) w1 w2) : WentV w F p kn val R (.panicked (endOf p)) w2 :=
  WentV.need hR ⟨rfl, hd, turned_own (Turned.mono m (fun _ _ q => q.elim)) ht (fun k q => q.imp id (hS k))⟩
theorem mid_done {α : Type} {w w1 w2 : World} {F S F' : Nat → Prop} {p n : Nat} {kn : Int → Option Int} {val : α → Value} {R : Res α} {x : α} {D : List KV} (m : More w w1) (hS : ∀ b, S b → w.heap.size ≤ b) (h : MidV w1 w2 F S p kn n D F') (hR : R = .ok x D) : WentV w F p kn val R (.returned (val x)) w2 :=
  WentV.did hR ⟨rfl, F', h.view, turned_own (Turned.mono m (fun _ _ q => q.elim)) h.turn (fun k q => q.imp id (hS k)), fun k q => (h.from' k q).imp id (fun r => Nat.le_trans m.size r)⟩
/-- A block of the function's own. -/
theorem mid_own {w1 w2 : World} {F S F' : Nat → Prop} {p n : Nat} {kn : Int → Option Int} {D : List KV} (h : MidV w1 w2 F S p kn n D F') {b : Nat} {o : Obj} (hb : w1.heap[b]? = some o) (nF : ¬ F b) (nS : ¬ S b) : w2.heap[b]? = some o :=
  (h.turn.block b (lt_of_heap hb) (by rintro (q | q); exact nF q; exact nS q)).trans hb
theorem read_any (F : Nat → Prop) (p : Nat) (kn : Int → Option Int) (D : List KV) (a : Int) (w : World) (h : ViewAt w F p kn D) (hw : W64 a) :
    Calls Try.prog 25 #[.pointer (some ⟨p, 0, none⟩), .int .i64 a] w (WentV w F p kn (fun x => .int .i64 x) (readP a kn D)) := by
  cases e : wordV kn D a with
  | none => exact (read_need F p kn D a w h hw e).mono (fun _ _ he => WentV.need (readP_none e) he)
  | some y =>
    refine (read_some F p kn D a y w h hw e).mono ?_
    rintro _ _ ⟨rfl, n, rfl⟩
    exact WentV.same (readP_some e) h ((More.refl w).drewN n)
theorem write_any (F : Nat → Prop) (p : Nat) (kn : Int → Option Int) (D : List KV) (a x : Int) (w : World) (h : ViewAt w F p kn D) (hs : D.length < 100000) :
    Calls Try.prog 23 #[.pointer (some ⟨p, 0, none⟩), .int .i64 a, .int .i64 x] w (WentV w F p kn (fun _ : Unit => .tuple #[]) (writeP a x kn D)) :=
  (write_ok F p kn D a x w h hs).mono (fun _ _ he => WentV.did rfl he)
end Go.Proofs.Ytflihdcliknggaa

namespace Go.Proofs.Ytflihdcliknggaa
open Go.RowKit Go.Sort Go.Maps Go.Shelf
set_option linter.unusedVariables false
set_option linter.unusedSimpArgs false

/-- n zeros. -/
def zeros (n : Nat) : List Int := List.replicate n 0
theorem zeros_len (n : Nat) : (zeros n).length = n := by simp [zeros]
theorem zeros_made (n : Nat) : (madeCells (Value.int .i64 0).cells (n * 1)).toList = (zeros n).map (Value.int .i64) := by
  apply List.ext_getElem
  · simp [madeCells, zeros, Value.cells]
  · intro i h1 h2
    simp [madeCells, zeros, Value.cells, Nat.mod_one]

theorem okW_zeros (n : Nat) : OkW (zeros n) := fun x hx => by
  have := List.eq_of_mem_replicate hx
  subst this; unfold W64; omega
/-- At block g lie the words zs, with room for cap. -/
def Ws (w : World) (g cap : Nat) (zs : List Int) : Prop := ∃ cur : Array Value, w.heap[g]? = some (.cells cur 3 (0, 0)) ∧ zs.length ≤ cap ∧ cap ≤ maxLen ∧ cur.size = cap ∧ ∀ i, i < zs.length → cur[i]? = some (.int .i64 (zs.getD i 0))
theorem Ws.of_rw {w : World} {base g cap : Nat} {zs : List Int} (h : Rw base w (.slice (some ⟨g, 0, none⟩) zs.length cap) zs) : Ws w g cap zs := by
  rcases h.2 with ⟨q, _⟩ | ⟨g', cap', cur, q, hb, hg, h1, h2, h3, h4⟩
  · cases q
  · cases q
    refine ⟨cur, hg, h1, h2, by simpa using h3, fun i hi => ?_⟩
    have h5 : (cur.toList.take (zs.length * 1))[i]? = some (.int .i64 (zs.getD i 0)) := by
      rw [h4, List.getElem?_map, List.getElem?_eq_getElem hi]; simp [List.getD, hi]
    rw [List.getElem?_take, if_pos (by omega)] at h5
    simpa using h5
theorem Ws.rw' {w : World} {base g cap : Nat} {zs : List Int} (h : Ws w g cap zs) (hb : base ≤ g) : Rw base w (.slice (some ⟨g, 0, none⟩) zs.length cap) zs := by
  obtain ⟨cur, hg, h1, h2, h3, h4⟩ := h
  refine ⟨by simp, .inr ⟨g, cap, cur, rfl, hb, hg, h1, h2, by simpa using h3, ?_⟩⟩
  apply List.ext_getElem?
  intro i
  rw [List.getElem?_take]
  by_cases hi : i < zs.length
  · rw [if_pos (by omega), List.getElem?_map, List.getElem?_eq_getElem hi]
    have := h4 i hi
    simpa [List.getD, hi] using this
  · rw [if_neg (by omega)]
    simp [hi]
theorem Ws.cell {w : World} {g cap : Nat} {zs : List Int} (h : Ws w g cap zs) {i : Nat} (hi : i < zs.length) : w.cell? ⟨g, i, none⟩ = some (.int .i64 (zs.getD i 0)) := by
  obtain ⟨cur, hg, _, _, _, h4⟩ := h
  rw [cell_of_row w g i _ _ _ hg, h4 i hi]
theorem Ws.froz {w : World} {g cap : Nat} {zs : List Int} (h : Ws w g cap zs) (i : Nat) : w.frozen? ⟨g, i, none⟩ = false := by
  obtain ⟨cur, hg, _⟩ := h
  exact frozen_of_row w g i _ _ hg
theorem Ws.lt {w : World} {g cap : Nat} {zs : List Int} (h : Ws w g cap zs) : g < w.heap.size := by
  obtain ⟨cur, hg, _⟩ := h
  exact lt_of_heap hg
theorem Ws.keep {S : Nat → Prop} {w w' : World} {g cap : Nat} {zs : List Int} (h : Ws w g cap zs) (t : Turned S w w') (hs : ¬ S g) : Ws w' g cap zs := by
  obtain ⟨cur, hg, q⟩ := h
  exact ⟨cur, (t.block g (lt_of_heap hg) hs).trans hg, q⟩
theorem Ws.more {w w' : World} {g cap : Nat} {zs : List Int} (h : Ws w g cap zs) (t : More w w') : Ws w' g cap zs := by
  obtain ⟨cur, hg, q⟩ := h
  exact ⟨cur, t.block hg, q⟩
theorem Ws.set {w : World} {g cap : Nat} {zs : List Int} (h : Ws w g cap zs) {i : Nat} (hi : i < zs.length) (x : Int) : Ws (w.setCell ⟨g, i, none⟩ (.int .i64 x)) g cap (zs.set i x) := by
  obtain ⟨cur, hg, h1, h2, h3, h4⟩ := h
  refine ⟨_, heap_setCell _ hg, by simpa using h1, h2, by simpa using h3, fun j hj => ?_⟩
  have hj' : j < zs.length := by simpa using hj
  rw [Array.getElem?_setIfInBounds]
  by_cases e : i = j
  · subst e
    rw [if_pos rfl, if_pos (by omega)]
    simp [List.getD, hj']
  · rw [if_neg e, h4 j hj']
    simp [List.getD, List.getElem?_set_ne e]
theorem Ws.words {w : World} {g cap : Nat} {zs : List Int} (h : Ws w g cap zs) : IsWords w (some ⟨g, 0, none⟩) zs :=
  .inr ⟨g, 0, rfl, h.lt, fun i hi => by rw [Nat.zero_add]; exact h.cell hi⟩

theorem ws_zeros (w : World) (k : Nat) (hk : k ≤ 1000000) {g : Nat} (h : w.heap[g]? = some (.cells (rowOf (zeros k)) 3 (0, 0))) : Ws w g k (zeros k) := by
  have hz := zeros_len k
  refine ⟨_, h, by rw [hz]; exact Nat.le_refl _, by unfold maxLen; omega, by simp [rowOf, hz], fun i hi => ?_⟩
  simp [rowOf, List.getD, hi]
end Go.Proofs.Ytflihdcliknggaa

