/-
  A function that is handed the view, and hands back what lies in blocks of its own.
-/
import Derived.Test.YtcjnkadmiflgaaaWay
import Derived.Test.YtcjnkadmiflgaaaInts
namespace Go.Proofs.Ytcjnkadmiflgaaa
open Go.RowKit
set_option linter.unusedVariables false
set_option linter.unusedSimpArgs false
set_option linter.unusedSectionVars false

/-- As WentV; Post tells of what is handed back. -/
def WentR {α : Type} (w : World) (F : Nat → Prop) (p : Nat) (kn : Int → Option Int) (Post : α → Value → World → (Nat → Prop) → Prop) (R : Res α) (e : Ending) (w' : World) : Prop :=
  match R with
  | .need a => Ended w F p a e w'
  | .ok x D => ∃ v F', e = .returned v ∧ Post x v w' F' ∧ ViewAt w' F' p kn D ∧ Turned F w w' ∧ ∀ k, F' k → F k ∨ w.heap.size ≤ k
/-- A row of integers of its own, that is not the view's. -/
def OwnR (b : Nat) (F : Nat → Prop) (w : World) (v : Value) (xs : List Int) : Prop := Rw b w v xs ∧ (∀ k, v.ownBlock = some k → ¬ F k ∧ b ≤ k ∧ k < w.heap.size)
theorem OwnR.nil (b : Nat) (F : Nat → Prop) (w : World) : OwnR b F w (.slice none 0 0) [] := ⟨Rw.nil _ _, fun k q => by cases q⟩
theorem Rw.own {b : Nat} {w : World} {v : Value} {xs : List Int} (h : Rw b w v xs) {k : Nat} (q : v.ownBlock = some k) : b ≤ k ∧ k < w.heap.size := by
  rcases h.2 with ⟨rfl, _⟩ | ⟨g, cap, cur, rfl, hb, hg, _⟩
  · cases q
  · have : g = k := by simpa [Value.ownBlock] using q
    subst this
    exact ⟨hb, lt_of_heap hg⟩
theorem Rw.keepT {b : Nat} {S : Nat → Prop} {w w' : World} {v : Value} {xs : List Int} (h : Rw b w v xs) (t : Turned S w w') (hs : ∀ k, v.ownBlock = some k → ¬ S k) : Rw b w' v xs := by
  refine ⟨h.1, ?_⟩
  rcases h.2 with q | ⟨g, cap, cur, rfl, hb, hg, r⟩
  · exact .inl q
  · exact .inr ⟨g, cap, cur, rfl, hb, (t.block g (lt_of_heap hg) (hs g rfl)).trans hg, r⟩
theorem OwnR.more {b : Nat} {F : Nat → Prop} {w w' : World} {v : Value} {xs : List Int} (h : OwnR b F w v xs) (m : More w w') : OwnR b F w' v xs :=
  ⟨h.1.more m, fun k q => ⟨(h.2 k q).1, (h.2 k q).2.1, Nat.lt_of_lt_of_le (h.2 k q).2.2 m.size⟩⟩
/-- Behind a call that is handed the view. -/
theorem OwnR.went {b : Nat} {F F' : Nat → Prop} {w w' : World} {v : Value} {xs : List Int} (h : OwnR b F w v xs) (hk : ∀ k o, ¬ F k → w.heap[k]? = some o → w'.heap[k]? = some o) (hf : ∀ k, F' k → F k ∨ w.heap.size ≤ k) : OwnR b F' w' v xs := by
  obtain ⟨r, n⟩ := h
  have key : ∀ k, v.ownBlock = some k → ¬ F' k := fun k q z => by
    rcases hf k z with y | y
    · exact (n k q).1 y
    · have := (n k q).2.2; omega
  rcases r with ⟨h1, q | ⟨g, cap, cur, rfl, hb, hg, rest⟩⟩
  · exact ⟨⟨h1, .inl q⟩, fun k q' => by rw [q.1] at q'; cases q'⟩
  · have hg' := hk g _ (n g rfl).1 hg
    exact ⟨⟨h1, .inr ⟨g, cap, cur, rfl, hb, hg', rest⟩⟩, fun k q => by
      have : g = k := by simpa [Value.ownBlock] using q
      subst this
      exact ⟨key g rfl, hb, lt_of_heap hg'⟩⟩
theorem OwnR.mono {b b' : Nat} {F : Nat → Prop} {w : World} {v : Value} {xs : List Int} (h : OwnR b F w v xs) (hb : b' ≤ b) : OwnR b' F w v xs := ⟨h.1.mono hb, fun k q => ⟨(h.2 k q).1, by have := (h.2 k q).2.1; omega, (h.2 k q).2.2⟩⟩

namespace MidV
variable {W wr w1 w2 : World} {F S F' : Nat → Prop} {p n : Nat} {kn : Int → Option Int} {D : List KV}
theorem stepR {α : Type} {Post : α → Value → World → (Nat → Prop) → Prop} {Q : α → Prop} {pr : Prg α} {e : Ending} (h : MidV W wr F S p kn n D F') (m : More wr w1) (hk : OkK kn) (G : Good n Q pr) (he : WentR w1 F' p kn Post (pr kn D) e w2) :
    (∃ a, pr kn D = .need a ∧ e = .panicked (endOf p) ∧ DeadAt w2 p a ∧ Turned (fun b => F b ∨ S b) W w2 ∧ ∀ b o, ¬ F' b → wr.heap[b]? = some o → w2.heap[b]? = some o) ∨
    (∃ x D1 F1 v, pr kn D = .ok x D1 ∧ e = .returned v ∧ Post x v w2 F1 ∧ MidV W w2 F S p kn n D1 F1 ∧ Q x ∧ (∀ b o, ¬ F' b → wr.heap[b]? = some o → w2.heap[b]? = some o) ∧ ∀ b, F1 b → F' b ∨ wr.heap.size ≤ b) := by
  have hm := h.more m
  have hs := m.size
  have hK : ∀ t, Turned F' w1 t → ∀ b o, ¬ F' b → wr.heap[b]? = some o → t.heap[b]? = some o := fun t ht b o nb hb => (ht.block b (lt_of_heap (m.block hb)) nb).trans (m.block hb)
  cases hE : pr kn D with
  | need a =>
    rw [hE] at he
    obtain ⟨h1, h2, h3⟩ := he
    exact .inl ⟨a, rfl, h1, h2, turned_own hm.turn h3 (fun k q => (h.from' k q).imp .inl id), hK _ h3⟩
  | ok x D1 =>
    rw [hE] at he
    obtain ⟨v, F1, h1, hp, hv, ht, hn⟩ := he
    obtain ⟨i1, q1⟩ := G.ok hk h.inv hE
    refine .inr ⟨x, D1, F1, v, rfl, h1, hp, ⟨hv, fun k q => ?_, turned_own hm.turn ht (fun k q => (h.from' k q).imp .inl id), i1⟩, q1, hK _ ht, fun b q => (hn b q).imp id (fun r => by omega)⟩
    rcases hn k q with r | r
    · exact h.from' k r
    · have := hm.size; exact .inr (by omega)
/-- A row of the function's own has grown. -/
theorem grew {v v' : Value} {b : Nat} {xs ys : List Int} (h : MidV W wr F S p kn n D F') (hr : OwnR b F' wr v xs) (hb : W.heap.size ≤ b) (t : Turned (fun k => v.ownBlock = some k) wr w1) (hr' : Rw b w1 v' ys) (hv' : ∀ k, v'.ownBlock = some k → v.ownBlock = some k ∨ k = wr.heap.size) : MidV W w1 F S p kn n D F' ∧ OwnR b F' w1 v' ys := by
  have lt := h.view.lt
  have hnc : ∀ (k : Nat) es cl, v.ownBlock = some k → wr.heap[k]? ≠ some (.map es cl) := fun k es cl q z => by
    rcases hr.1.2 with ⟨q', _⟩ | ⟨g, cap, cur, q', _, hg, _⟩
    · rw [q'] at q; cases q
    · rw [q'] at q
      have : g = k := by simpa [Value.ownBlock] using q
      subst this
      rw [hg] at z; cases z
  refine ⟨⟨h.view.keepS t (fun k q e => (hr.2 k e).1 q) (fun k es cl e q => hnc k es cl e q), h.from', turned_own h.turn t (fun k q => .inr (by have := (hr.2 k q).2.1; omega)), h.inv⟩, hr', fun k q => ?_⟩
  have hl := hr'.own q
  refine ⟨fun z => ?_, hl.1, hl.2⟩
  rcases hv' k q with r | r
  · exact (hr.2 k r).1 z
  · have := lt k z; omega
end MidV
theorem midR_need {α : Type} {w w1 w2 : World} {F S : Nat → Prop} {p : Nat} {kn : Int → Option Int} {Post : α → Value → World → (Nat → Prop) → Prop} {R : Res α} {a : Int} (m : More w w1) (hS : ∀ b, S b → w.heap.size ≤ b) (hR : R = .need a) (hd : DeadAt w2 p a) (ht : Turned (fun b => F b ∨ S b) w1 w2) : WentR w F p kn Post R (.panicked (endOf p)) w2 := by
  subst hR
  exact ⟨rfl, hd, turned_own (Turned.mono m (fun _ _ q => q.elim)) ht (fun k q => q.imp id (hS k))⟩
theorem midR_done {α : Type} {w w1 w2 : World} {F S F' : Nat → Prop} {p n : Nat} {kn : Int → Option Int} {Post : α → Value → World → (Nat → Prop) → Prop} {R : Res α} {x : α} {D : List KV} {v : Value} (m : More w w1) (hS : ∀ b, S b → w.heap.size ≤ b) (h : MidV w1 w2 F S p kn n D F') (hR : R = .ok x D) (hp : Post x v w2 F') : WentR w F p kn Post R (.returned v) w2 := by
  subst hR
  exact ⟨v, F', rfl, hp, h.view, turned_own (Turned.mono m (fun _ _ q => q.elim)) h.turn (fun k q => q.imp id (hS k)), fun k q => (h.from' k q).imp id (fun r => Nat.le_trans m.size r)⟩
end Go.Proofs.Ytcjnkadmiflgaaa
