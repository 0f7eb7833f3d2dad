/-
  On the way through a program that is handed a view: between two calls.
-/
import Derived.Test.YtogfikemodaepaaGreatChunkLives
namespace Go.Proofs.YtogfikemodaepaaGreat
set_option linter.unusedVariables false
set_option linter.unusedSimpArgs false

/-- The program began in W, at a view at p whose blocks were F; S: boxes of its own that it turns. -/
structure MidV (W wr : World) (F S : Nat → Prop) (p : Nat) (kn : Int → Option Int) (n : Nat) (D : List KV) (F' : Nat → Prop) : Prop where
  view : ViewAt wr F' p kn D
  from' : ∀ k, F' k → F k ∨ W.heap.size ≤ k
  turn : Turned (fun b => F b ∨ S b) W wr
  inv : InvD n D
namespace MidV
variable {W wr w1 w2 : World} {F S F' : Nat → Prop} {p n : Nat} {kn : Int → Option Int} {D : List KV}
theorem begin (hv : ViewAt W F p kn D) (hD : InvD n D) : MidV W W F S p kn n D F := ⟨hv, fun k q => .inl q, Turned.refl _ _, hD⟩
theorem more (h : MidV W wr F S p kn n D F') (m : More wr w1) : MidV W w1 F S p kn n D F' :=
  ⟨h.view.more m, h.from', turned_own (F' := fun _ => False) h.turn m (fun _ q => q.elim), h.inv⟩
theorem size (h : MidV W wr F S p kn n D F') : W.heap.size ≤ wr.heap.size := h.turn.size
theorem off (h : MidV W wr F S p kn n D F') {b : Nat} (hb : b < W.heap.size) (nF : ¬ F b) : ¬ F' b := fun q => by
  rcases h.from' b q with r | r
  · exact nF r
  · omega
/-- A box of the program's own is written. -/
theorem box (h : MidV W wr F S p kn n D F') {b : Nat} (hS : b < W.heap.size → S b) (nF : ¬ F' b) (v : Value) {cs : Array Value} {t : TypeId} {fr : Nat × Nat} (hb : wr.heap[b]? = some (.cells cs t fr)) : MidV W (wr.setCell ⟨b, 0, none⟩ v) F S p kn n D F' :=
  ⟨h.view.keepS (S := fun k => k = b) (Turned.setCell (S := fun k => k = b) (Turned.refl _ wr) ⟨b, 0, none⟩ v (fun _ => rfl)) (fun k q e => nF (e ▸ q)) (fun k es cl e q => by subst e; rw [hb] at q; cases q),
    h.from', turned_own h.turn (Turned.setCell (S := fun k => k = b) (Turned.refl _ wr) ⟨b, 0, none⟩ v (fun _ => rfl)) (fun k q => by
      subst q
      rcases Nat.lt_or_ge k W.heap.size with r | r
      · exact .inl (.inr (hS r))
      · exact .inr r), h.inv⟩
/-- What a call that is handed the view comes to. -/
theorem step {α : Type} {val : α → Value} {Q : α → Prop} {pr : Prg α} {e : Ending} (h : MidV W wr F S p kn n D F') (m : More wr w1) (hk : OkK kn) (G : Good n Q pr) (he : WentV w1 F' p kn val (pr kn D) e w2) :
    (∃ a, pr kn D = .need a ∧ e = .panicked (endOf p) ∧ DeadAt w2 p a ∧ Turned (fun b => F b ∨ S b) W w2 ∧ ∀ b o, ¬ F' b → wr.heap[b]? = some o → w2.heap[b]? = some o) ∨
    (∃ x D1 F1, pr kn D = .ok x D1 ∧ e = .returned (val x) ∧ MidV W w2 F S p kn n D1 F1 ∧ Q x ∧ (∀ b o, ¬ F' b → wr.heap[b]? = some o → w2.heap[b]? = some o) ∧ ∀ b, F1 b → F' b ∨ wr.heap.size ≤ b) := by
  have hm := h.more m
  have hs := m.size
  have hK : ∀ t, Turned F' w1 t → ∀ b o, ¬ F' b → wr.heap[b]? = some o → t.heap[b]? = some o := fun t ht b o nb hb => (ht.block b (lt_of_heap (m.block hb)) nb).trans (m.block hb)
  cases hE : pr kn D with
  | need a =>
    rw [hE] at he
    obtain ⟨h1, h2, h3⟩ := he
    exact .inl ⟨a, rfl, h1, h2, turned_own hm.turn h3 (fun k q => (h.from' k q).imp .inl id), hK _ h3⟩
  | ok x D1 =>
    rw [hE] at he
    obtain ⟨h1, F1, hv, ht, hn⟩ := he
    obtain ⟨i1, q1⟩ := G.ok hk h.inv hE
    refine .inr ⟨x, D1, F1, rfl, h1, ⟨hv, fun k q => ?_, turned_own hm.turn ht (fun k q => (h.from' k q).imp .inl id), i1⟩, q1, hK _ ht, fun b q => (hn b q).imp id (fun r => by omega)⟩
    rcases hn k q with r | r
    · exact h.from' k r
    · have := hm.size; exact .inr (by omega)
end MidV
theorem wy_need {W w2 : World} {F S : Nat → Prop} {Y X : World → Prop} {p : Nat} {kn : Int → Option Int} {R : Ran} {a : Int} (hR : R = .need a) (hd : DeadAt w2 p a) (ht : Turned (fun b => F b ∨ S b) W w2) (hy : Y w2) : WentY W F S Y X p kn R (.panicked (endOf p)) w2 := by
  subst hR; exact ⟨rfl, hd, ht, hy⟩
theorem wy_done {W wr : World} {F S F' : Nat → Prop} {Y X : World → Prop} {p n : Nat} {kn : Int → Option Int} {D : List KV} {R : Ran} (h : MidV W wr F S p kn n D F') (hR : R = .done D) (hy : Y wr) (hx : X wr) : WentY W F S Y X p kn R (.returned (.tuple #[])) wr := by
  subst hR; exact ⟨rfl, ⟨F', h.view⟩, h.turn, hy, hx⟩
theorem bindP_assoc {α β γ : Type} (p : Prg α) (f : α → Prg β) (g : β → Prg γ) : bindP (bindP p f) g = bindP p (fun x => bindP (f x) g) := by
  funext kn D; unfold bindP; cases p kn D <;> rfl
theorem bindP_pure {α β : Type} (x : α) (f : α → Prg β) : bindP (pureP x) f = f x := rfl
theorem mapR_eq {α β : Type} (f : α → β) (p : Prg α) (kn : Int → Option Int) (D : List KV) : mapR f (p kn D) = bindP p (fun x => pureP (f x)) kn D := by
  unfold bindP; cases p kn D <;> rfl
/-- A box of a Boolean. -/
def BoxB (g : Nat) (w : World) (b : Bool) : Prop := w.heap[g]? = some (.cells #[.bool b] 4 (0, 0))
theorem boxB_set {g : Nat} {w : World} {b : Bool} (h : BoxB g w b) (x : Bool) : BoxB g (w.setCell ⟨g, 0, none⟩ (.bool x)) x := setCell_one h _
theorem ranOf_need {α : Type} {R : Res α} {a : Int} (h : R = .need a) : ranOf R = .need a := by rw [h]; rfl
theorem ranOf_ok {α : Type} {R : Res α} {x : α} {D : List KV} (h : R = .ok x D) : ranOf R = .done D := by rw [h]; rfl
theorem entry1 (w : World) (o0 : Obj) : ∃ w1, w.alloc o0 = w1 ∧ w1.heap[w.heap.size]? = some o0 ∧ More w w1 ∧ w1.heap.size = w.heap.size + 1 := ⟨_, rfl, heap_new w o0, (More.refl _).alloc _, by simp⟩
theorem entry2 (w : World) (o0 o1 : Obj) : ∃ w2, (w.alloc o0).alloc o1 = w2 ∧ w2.heap[w.heap.size]? = some o0 ∧ w2.heap[w.heap.size + 1]? = some o1 ∧ More w w2 ∧ w2.heap.size = w.heap.size + 2 := by
  obtain ⟨w1, e1, h0, m0, s0⟩ := entry1 w o0
  rw [e1]
  obtain ⟨w2, e2, h1, m1, s1⟩ := entry1 w1 o1
  rw [s0] at h1
  exact ⟨w2, e2, m1.block h0, h1, m0.trans m1, by omega⟩
theorem entry4 (w : World) (o0 o1 o2 o3 : Obj) : ∃ w4, (((w.alloc o0).alloc o1).alloc o2).alloc o3 = w4 ∧ w4.heap[w.heap.size]? = some o0 ∧ w4.heap[w.heap.size + 1]? = some o1 ∧ w4.heap[w.heap.size + 2]? = some o2 ∧ w4.heap[w.heap.size + 3]? = some o3 ∧ More w w4 ∧ w4.heap.size = w.heap.size + 4 := by
  obtain ⟨w3, e3, h0, h1, h2, m3, s3⟩ := entry3 w o0 o1 o2
  rw [e3]
  obtain ⟨w4, e4, h3, m4, s4⟩ := entry1 w3 o3
  rw [s3] at h3
  exact ⟨w4, e4, m4.block h0, m4.block h1, m4.block h2, h3, m3.trans m4, by omega⟩
theorem entry5 (w : World) (o0 o1 o2 o3 o4 : Obj) : ∃ w5, ((((w.alloc o0).alloc o1).alloc o2).alloc o3).alloc o4 = w5 ∧ w5.heap[w.heap.size]? = some o0 ∧ w5.heap[w.heap.size + 1]? = some o1 ∧ w5.heap[w.heap.size + 2]? = some o2 ∧ w5.heap[w.heap.size + 3]? = some o3 ∧ w5.heap[w.heap.size + 4]? = some o4 ∧ More w w5 ∧ w5.heap.size = w.heap.size + 5 := by
  obtain ⟨w4, e4, h0, h1, h2, h3, m4, s4⟩ := entry4 w o0 o1 o2 o3
  rw [e4]
  obtain ⟨w5, e5, h4, m5, s5⟩ := entry1 w4 o4
  rw [s4] at h4
  exact ⟨w5, e5, m5.block h0, m5.block h1, m5.block h2, m5.block h3, h4, m4.trans m5, by omega⟩
/-! A function that is handed the view, with blocks of its own. -/
theorem mid_need {α : Type} {w w1 w2 : World} {F S : Nat → Prop} {p : Nat} {kn : Int → Option Int} {val : α → Value} {R : Res α} {a : Int} (m : More w w1) (hS : ∀ b, S b → w.heap.size ≤ b) (hR : R = .need a) (hd : DeadAt w2 p a) (ht : Turned (fun b => F b ∨ S b) w1 w2) : WentV w F p kn val R (.panicked (endOf p)) w2 :=
  WentV.need hR ⟨rfl, hd, turned_own (Turned.mono m (fun _ _ q => q.elim)) ht (fun k q => q.imp id (hS k))⟩
theorem mid_done {α : Type} {w w1 w2 : World} {F S F' : Nat → Prop} {p n : Nat} {kn : Int → Option Int} {val : α → Value} {R : Res α} {x : α} {D : List KV} (m : More w w1) (hS : ∀ b, S b → w.heap.size ≤ b) (h : MidV w1 w2 F S p kn n D F') (hR : R = .ok x D) : WentV w F p kn val R (.returned (val x)) w2 :=
  WentV.did hR ⟨rfl, F', h.view, turned_own (Turned.mono m (fun _ _ q => q.elim)) h.turn (fun k q => q.imp id (hS k)), fun k q => (h.from' k q).imp id (fun r => Nat.le_trans m.size r)⟩
/-- A block of the function's own. -/
theorem mid_own {w1 w2 : World} {F S F' : Nat → Prop} {p n : Nat} {kn : Int → Option Int} {D : List KV} (h : MidV w1 w2 F S p kn n D F') {b : Nat} {o : Obj} (hb : w1.heap[b]? = some o) (nF : ¬ F b) (nS : ¬ S b) : w2.heap[b]? = some o :=
  (h.turn.block b (lt_of_heap hb) (by rintro (q | q); exact nF q; exact nS q)).trans hb
theorem read_any (F : Nat → Prop) (p : Nat) (kn : Int → Option Int) (D : List KV) (a : Int) (w : World) (h : ViewAt w F p kn D) (hw : W64 a) :
    Calls Tryz.prog 57 #[.pointer (some ⟨p, 0, none⟩), .int .i64 a] w (WentV w F p kn (fun x => .int .i64 x) (readP a kn D)) := by
  cases e : wordV kn D a with
  | none => exact (read_need F p kn D a w h hw e).mono (fun _ _ he => WentV.need (readP_none e) he)
  | some y =>
    refine (read_some F p kn D a y w h hw e).mono ?_
    rintro _ _ ⟨rfl, n, rfl⟩
    exact WentV.same (readP_some e) h ((More.refl w).drewN n)
theorem write_any (F : Nat → Prop) (p : Nat) (kn : Int → Option Int) (D : List KV) (a x : Int) (w : World) (h : ViewAt w F p kn D) (hs : D.length < 100000) :
    Calls Tryz.prog 75 #[.pointer (some ⟨p, 0, none⟩), .int .i64 a, .int .i64 x] w (WentV w F p kn (fun _ : Unit => .tuple #[]) (writeP a x kn D)) :=
  (write_ok F p kn D a x w h hs).mono (fun _ _ he => WentV.did rfl he)
end Go.Proofs.YtogfikemodaepaaGreat
