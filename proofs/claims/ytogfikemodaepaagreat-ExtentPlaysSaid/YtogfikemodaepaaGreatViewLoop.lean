/-
  A view within a range over a function: what is said of it between two rounds, and where a round has ended the run.
-/
import Derived.Test.YtogfikemodaepaaGreatChunk
import Derived.Test.YtogfikemodaepaaGreatRange
namespace Go.Proofs.YtogfikemodaepaaGreat
open Go.RowKit Go.Sort Go.Maps Go.Shelf
set_option linter.unusedVariables false
set_option linter.unusedSimpArgs false

theorem turned_put {S : Nat → Prop} {w w' : World} (h : Turned S w w') (l : Nat) (o : Obj) (hl : l < w.heap.size → S l) : Turned S w (w'.putObj l o) :=
  ⟨h.os, h.tape, h.output, by simpa using h.size, fun k hk hs => by
    rw [World.putObj_heap_other (by rintro rfl; exact hs (hl hk))]; exact Turned.block h k hk hs⟩
/-- A view stands where no block of its own turns, nor a map. -/
theorem ViewAt.keepS {w w' : World} {F S : Nat → Prop} {p : Nat} {kn : Int → Option Int} {D : List KV} (h : ViewAt w F p kn D) (ht : Turned S w w') (hs : ∀ k, F k → ¬ S k) (hM : ∀ k es cl, S k → w.heap[k]? ≠ some (.map es cl)) : ViewAt w' F p kn D := by
  obtain ⟨M, q, n, F0, hp, hk, hm, fp, f0, fM⟩ := h.ex
  have nM : ¬ S M := by
    obtain ⟨D', ⟨es, clock, hb, _⟩, _⟩ := hk
    intro q
    exact hM M _ _ q hb
  exact ⟨⟨M, q, n, F0, by rw [Turned.block ht p (lt_of_heap hp) (hs p fp)]; exact hp, hk.keep ht nM, hm.keep ht (fun k q => hs k (f0 k q).1), fp, f0, fM⟩, fun k hk => Nat.lt_of_lt_of_le (h.lt k hk) ht.size⟩

/-- The loop begins in w6, at a view at p whose blocks were F: now, in W, they are F', and D was written; T: boxes that the loop turns besides. -/
structure OnV (w6 W : World) (F T : Nat → Prop) (p : Nat) (kn : Int → Option Int) (n : Nat) (D : List KV) (F' : Nat → Prop) : Prop where
  view : ViewAt W F' p kn D
  from' : ∀ k, F' k → F k ∨ w6.heap.size + 2 ≤ k
  turn : Turned (fun k => F k ∨ T k) w6 W
  inv : InvD n D
namespace OnV
variable {w6 W W' : World} {F T F' : Nat → Prop} {p n : Nat} {kn : Int → Option Int} {D : List KV}
theorem begin (hv : ViewAt w6 F p kn D) (hD : InvD n D) : OnV w6 w6 F T p kn n D F := ⟨hv, fun k q => .inl q, Turned.refl _ _, hD⟩
theorem more (h : OnV w6 W F T p kn n D F') (m : More W W') : OnV w6 W' F T p kn n D F' :=
  ⟨h.view.more m, h.from', turned_own (F' := fun _ => False) h.turn m (fun _ q => q.elim), h.inv⟩
theorem put (h : OnV w6 W F T p kn n D F') (hF : ∀ k, F k → k < w6.heap.size) {r : Loop} (r' : Loop) (hl : W.heap[w6.heap.size + 1]? = some (.loop r)) : OnV w6 (W.putObj (w6.heap.size + 1) (.loop r')) F T p kn n D F' :=
  ⟨h.view.keepS (S := fun k => k = w6.heap.size + 1) (turned_put (Turned.refl _ W) _ _ (fun _ => rfl))
      (fun k q e => by subst e; rcases h.from' _ q with r | r; have := hF _ r; omega; omega)
      (fun k es cl e q => by subst e; rw [hl] at q; cases q),
    h.from', turned_put h.turn _ _ (fun q => by omega), h.inv⟩
/-- A box that the loop turns. -/
theorem box (h : OnV w6 W F T p kn n D F') {b : Nat} (hT : T b) (hF : ∀ k, F k → k < b) (hb : b < w6.heap.size) (v : Value) {o : Obj} (ho : W.heap[b]? = some o) (hm : ∀ es cl, o ≠ .map es cl) : OnV w6 (W.setCell ⟨b, 0, none⟩ v) F T p kn n D F' :=
  ⟨h.view.keepS (S := fun k => k = b) (Turned.setCell (S := fun k => k = b) (Turned.refl _ W) ⟨b, 0, none⟩ v (fun _ => rfl))
      (fun k q e => by subst e; rcases h.from' _ q with r | r; have := hF _ r; omega; omega)
      (fun k es cl e q => by subst e; rw [ho] at q; cases q; exact hm _ _ rfl),
    h.from', h.turn.setCell ⟨b, 0, none⟩ v (fun _ => .inr hT), h.inv⟩
/-- What a call that is handed the view has done. -/
theorem step (h : OnV w6 W F T p kn n D F') (hs : w6.heap.size + 2 ≤ W.heap.size) {D1 : List KV} {v : Value} {e : Ending} (m : More W W') {W2 : World} (hd : DidView W' F' p kn D1 v e W2) (hI : InvD n D1) :
    e = .returned v ∧ ∃ F1, OnV w6 W2 F T p kn n D1 F1 ∧ Turned F' W W2 := by
  obtain ⟨he, F1, hv, ht, hn⟩ := hd
  refine ⟨he, F1, ⟨hv, fun k q => ?_, turned_own (turned_own (F' := fun _ => False) h.turn m (fun _ q => q.elim)) ht (fun k q => (h.from' k q).imp .inl (fun r => by omega)), hI⟩, turned_own (Turned.mono m (fun _ _ q => q.elim)) ht (fun k q => .inl q)⟩
  rcases hn k q with r | r
  · exact h.from' k r
  · have := m.size; exact .inr (by omega)
/-- Blocks that were there ahead of the loop, and are not the view's, lie as they lay; and the loop's books do. -/
theorem same (h : OnV w6 W F T p kn n D F') (hF : ∀ k, F k → k < w6.heap.size) (hs : w6.heap.size + 2 ≤ W.heap.size) {W2 : World} (t : Turned F' W W2) : SameOn (bookAt w6.heap.size) W W2 :=
  SameOn.turned t (fun k q => by rcases q with q | q <;> omega) (fun k q r => by
    rcases h.from' k r with s | s
    · have := hF k s; rcases q with q | q <;> omega
    · rcases q with q | q <;> omega)
theorem sameS (h : OnV w6 W F T p kn n D F') {S : Nat → Prop} (hS : ∀ k, S k → k < w6.heap.size ∧ ¬ F k) {W2 : World} (t : Turned F' W W2) : SameOn S W W2 :=
  SameOn.turned t (fun k q => Nat.lt_of_lt_of_le (hS k q).1 h.turn.size) (fun k q r => by
    rcases h.from' k r with s | s
    · exact (hS k q).2 s
    · have := (hS k q).1; omega)
end OnV

/-- A run's end within the loop. -/
def EndV (w6 W : World) (F T : Nat → Prop) (p : Nat) (a : Int) : Prop := DeadAt W p a ∧ Turned (fun k => F k ∨ T k) w6 W
theorem EndV.of {w6 W W' W2 : World} {F T F' : Nat → Prop} {p n : Nat} {kn : Int → Option Int} {D : List KV} (h : OnV w6 W F T p kn n D F') (hs : w6.heap.size ≤ W.heap.size) (m : More W W') {a : Int} {e : Ending} (he : Ended W' F' p a e W2) : e = .panicked (endOf p) ∧ EndV w6 W2 F T p a ∧ Turned F' W W2 :=
  ⟨he.1, ⟨he.2.1, turned_own (turned_own (F' := fun _ => False) h.turn m (fun _ q => q.elim)) he.2.2 (fun k q => (h.from' k q).imp .inl (fun r => by omega))⟩, turned_own (Turned.mono m (fun _ _ q => q.elim)) he.2.2 (fun k q => .inl q)⟩
theorem EndV.more {w6 W W' : World} {F T : Nat → Prop} {p : Nat} {a : Int} (h : EndV w6 W F T p a) (m : More W W') : EndV w6 W' F T p a :=
  ⟨h.1.keep m (fun q => q), turned_own (F' := fun _ => False) h.2 m (fun _ q => q.elim)⟩
theorem EndV.put {w6 W : World} {F T : Nat → Prop} {p : Nat} {a : Int} (h : EndV w6 W F T p a) {l : Nat} {o : Obj} (hl : W.heap[l]? = some o) (ho : o.isCells = false) (hb : w6.heap.size ≤ l) (o' : Obj) : EndV w6 (W.putObj l o') F T p a := by
  refine ⟨?_, turned_put h.2 _ _ (fun q => by omega)⟩
  obtain ⟨M, q, hp⟩ := h.1
  exact ⟨M, q, (World.putObj_heap_other (by rintro rfl; rw [hl] at hp; cases hp; cases ho)).trans hp⟩

/-- At the end of a function that holds such a loop. -/
theorem endV_fin {α : Type} {w w6 W : World} {F T : Nat → Prop} {p : Nat} {kn : Int → Option Int} {a : Int} {val : α → Value} {R : Res α} (m : More w w6) (hT : ∀ k, T k → w.heap.size ≤ k) (h : EndV w6 W F T p a) (hR : R = .need a) : WentV w F p kn val R (.panicked (endOf p)) W :=
  WentV.need hR ⟨rfl, h.1, turned_own (Turned.mono m (fun _ _ q => q.elim)) h.2 (fun k q => q.imp id (hT k))⟩
theorem onV_fin {α : Type} {w w6 W W2 : World} {F T F' S : Nat → Prop} {p n : Nat} {kn : Int → Option Int} {D : List KV} {val : α → Value} {R : Res α} {x : α} (m : More w w6) (hT : ∀ k, T k → w.heap.size ≤ k) (h : OnV w6 W F T p kn n D F') (hR : R = .ok x D)
    (t : Turned S W W2) (hS : ∀ k, S k → w.heap.size ≤ k ∧ ¬ F' k) (hM : ∀ k es cl, S k → W.heap[k]? ≠ some (.map es cl)) : WentV w F p kn val R (.returned (val x)) W2 := by
  refine WentV.did hR ⟨rfl, F', h.view.keepS t (fun k q r => (hS k r).2 q) hM, ?_, fun k q => (h.from' k q).imp id (fun r => by have := m.size; omega)⟩
  exact turned_own (turned_own (Turned.mono m (fun _ _ q => q.elim)) h.turn (fun k q => q.imp id (hT k))) t (fun k q => .inr (hS k q).1)
/-! What is said between two rounds of a loop whose function has one box, b, that the loop turns. -/
section
variable (w6 : World) (F : Nat → Prop) (b p : Nat) (tb : TypeId) (kn : Int → Option Int) (n : Nat)
def LoopI (Sem : List KV → Value → Prop) (W : World) : Prop := ∃ F' D' v, OnV w6 W F (fun k => k = b) p kn n D' F' ∧ W.heap[b]? = some (.cells #[v] tb (0, 0)) ∧ Sem D' v
/-- Where a round has left: by a panic, or by a return. -/
def LoopX (NeedR : Int → Prop) (Ret : List KV → Value → Prop) : Exit → World → Prop
  | .panic ch, W => ch = endOf p ∧ ∃ a, NeedR a ∧ EndV w6 W F (fun k => k = b) p a
  | .ret, W => LoopI w6 F b p tb kn n Ret W
  | _, _ => False
/-- Where the round's variable is boxed: it holds cs. -/
def LoopA (Sem : List KV → Value → Prop) (tc : TypeId) (cs : Array Value) (acts : Nat → Act) (a' : Act) (W : World) : Prop :=
  ∃ Bx F' D' v, w6.heap.size + 2 ≤ Bx ∧ ¬ F' Bx ∧ W.heap[Bx]? = some (.cells cs tc (0, 0)) ∧ OnV w6 W F (fun k => k = b) p kn n D' F' ∧ W.heap[b]? = some (.cells #[v] tb (0, 0)) ∧ Sem D' v ∧ a' = acts Bx
end
section
variable {w6 : World} {F : Nat → Prop} {b p : Nat} {tb : TypeId} {kn : Int → Option Int} {n : Nat}
theorem loopI_books (hF : ∀ k, F k → k < w6.heap.size) (hb : b < w6.heap.size) (Sem : List KV → Value → Prop) : Books w6.heap.size (LoopI w6 F b p tb kn n Sem) :=
  ⟨fun {A A'} h m => by obtain ⟨F', D', v, h1, h2, h3⟩ := h; exact ⟨F', D', v, h1.more m, m.block h2, h3⟩,
   fun {A r} r' h hl => by obtain ⟨F', D', v, h1, h2, h3⟩ := h; exact ⟨F', D', v, h1.put hF r' hl, (World.putObj_heap_other (by omega)).trans h2, h3⟩⟩
theorem loopX_books (hF : ∀ k, F k → k < w6.heap.size) (hb : b < w6.heap.size) (NeedR : Int → Prop) (Ret : List KV → Value → Prop) (e : Exit) : Books w6.heap.size (LoopX w6 F b p tb kn n NeedR Ret e) := by
  cases e with
  | panic ch =>
    exact ⟨fun {A A'} h m => by obtain ⟨h1, a, h2, h3⟩ := h; exact ⟨h1, a, h2, h3.more m⟩,
      fun {A r} r' h hl => by obtain ⟨h1, a, h2, h3⟩ := h; exact ⟨h1, a, h2, h3.put hl rfl (by omega) _⟩⟩
  | ret => exact loopI_books hF hb Ret
  | normal => exact ⟨fun {A A'} h m => h, fun {A r} r' h hl => h⟩
  | exit _ => exact ⟨fun {A A'} h m => h, fun {A r} r' h hl => h⟩
  | goto _ => exact ⟨fun {A A'} h m => h, fun {A r} r' h hl => h⟩
  | outgrown => exact ⟨fun {A A'} h m => h, fun {A r} r' h hl => h⟩
theorem loopA_books (hF : ∀ k, F k → k < w6.heap.size) (hb : b < w6.heap.size) (Sem : List KV → Value → Prop) (tc : TypeId) (cs : Array Value) (acts : Nat → Act) (a' : Act) : Books w6.heap.size (LoopA w6 F b p tb kn n Sem tc cs acts a') :=
  ⟨fun {A A'} h m => by obtain ⟨Bx, F', D', v, h0, h1, h2, h3, h4, h5⟩ := h; exact ⟨Bx, F', D', v, h0, h1, m.block h2, h3.more m, m.block h4, h5⟩,
   fun {A r} r' h hl => by
    obtain ⟨Bx, F', D', v, h0, h1, h2, h3, h4, h5⟩ := h
    exact ⟨Bx, F', D', v, h0, h1, (World.putObj_heap_other (by omega)).trans h2, h3.put hF r' hl, (World.putObj_heap_other (by omega)).trans h4, h5⟩⟩
end
end Go.Proofs.YtogfikemodaepaaGreat
