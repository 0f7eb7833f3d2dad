/-
  Small programs as the statements have them: a slice of steps, and what a run of it comes to.
-/
import Derived.Test.YtonenkgjlmcfkaaViewRead
import Derived.StillTailTactics
namespace Go.Proofs.Ytonenkgjlmcfkaa
open Go.RowKit Go.Sort Go.Maps
set_option linter.unusedVariables false
set_option linter.unusedSimpArgs false

/-- A slice of structs of three integers: it is empty, or leads to them. -/
def IsIns (w : World) (a : Option Addr) (l : List Ins3) : Prop :=
  l = [] ∨ ∃ s o, a = some ⟨s, o, none⟩ ∧ s < w.heap.size ∧ ∀ i t, l[i]? = some t → w.cell? ⟨s, o + i * 3, none⟩ = some (.int .i64 t.1) ∧ w.cell? ⟨s, o + i * 3 + 1, none⟩ = some (.int .i64 t.2.1) ∧ w.cell? ⟨s, o + i * 3 + 2, none⟩ = some (.int .i64 t.2.2)
/-- A slice of pairs: it is empty, or leads to them. -/
def IsPairs (w : World) (a : Option Addr) (l : List KV) : Prop :=
  l = [] ∨ ∃ s o, a = some ⟨s, o, none⟩ ∧ s < w.heap.size ∧ ∀ i t, l[i]? = some t → w.cell? ⟨s, o + i * 2, none⟩ = some (.int .i64 t.1) ∧ w.cell? ⟨s, o + i * 2 + 1, none⟩ = some (.int .i64 t.2)
/-- The block that a slice leads to. -/
def leads (a : Option Addr) (k : Nat) : Prop := a.map (·.block) = some k
theorem cell_turned {S : Nat → Prop} {w w' : World} (t : Turned S w w') {s o : Nat} {v : Value} (hs : ¬ S s) (h : w.cell? ⟨s, o, none⟩ = some v) : w'.cell? ⟨s, o, none⟩ = some v := by
  rw [World.cell?_of_block (w := w) (Turned.block t s (lt_of_cell h) hs)]; exact h
theorem IsIns.keep {w w' : World} {a : Option Addr} {l : List Ins3} (h : IsIns w a l) {S : Nat → Prop} (t : Turned S w w') (hs : ∀ k, leads a k → ¬ S k) : IsIns w' a l := by
  rcases h with h | ⟨s, o, rfl, hl, hc⟩
  · exact .inl h
  · exact .inr ⟨s, o, rfl, Nat.lt_of_lt_of_le hl t.size, fun i u hi => by
      obtain ⟨c0, c1, c2⟩ := hc i u hi
      exact ⟨cell_turned t (hs s rfl) c0, cell_turned t (hs s rfl) c1, cell_turned t (hs s rfl) c2⟩⟩
theorem IsIns.more {w w' : World} {a : Option Addr} {l : List Ins3} (h : IsIns w a l) (t : More w w') : IsIns w' a l := h.keep t (fun _ _ q => q)
theorem IsPairs.keep {w w' : World} {a : Option Addr} {l : List KV} (h : IsPairs w a l) {S : Nat → Prop} (t : Turned S w w') (hs : ∀ k, leads a k → ¬ S k) : IsPairs w' a l := by
  rcases h with h | ⟨s, o, rfl, hl, hc⟩
  · exact .inl h
  · exact .inr ⟨s, o, rfl, Nat.lt_of_lt_of_le hl t.size, fun i u hi => by
      obtain ⟨c0, c1⟩ := hc i u hi
      exact ⟨cell_turned t (hs s rfl) c0, cell_turned t (hs s rfl) c1⟩⟩
theorem IsPairs.more {w w' : World} {a : Option Addr} {l : List KV} (h : IsPairs w a l) (t : More w w') : IsPairs w' a l := h.keep t (fun _ _ q => q)

theorem turned_own {F F' : Nat → Prop} {W w w' : World} (h : Turned F W w) (t : Turned F' w w') (n : ∀ k, F' k → F k ∨ W.heap.size ≤ k) : Turned F W w' :=
  ⟨t.os.trans h.os, t.tape.trans h.tape, t.output.trans h.output, Nat.le_trans h.size t.size, fun k hk hs => by
    rw [Turned.block t k (Nat.lt_of_lt_of_le hk h.size) (fun q => by rcases n k q with r | r; exact hs r; omega)]
    exact Turned.block h k hk hs⟩

/-- What a run has come to. -/
def Went (w : World) (F : Nat → Prop) (p : Nat) (kn : Int → Option Int) (R : Ran) (e : Ending) (w' : World) : Prop :=
  match R with
  | .need a => Ended w F p a e w'
  | .done D => DidView w F p kn D (.tuple #[]) e w'

/-- A run on its way: at step i, with the number x. -/
structure On (W wr : World) (F : Nat → Prop) (p : Nat) (kn : Int → Option Int) (l : List Ins3) (R : Ran) (i : Nat) (x : Int) : Prop where
  ex : ∃ F' D, ViewAt wr F' p kn D ∧ (∀ k, F' k → F k ∨ W.heap.size ≤ k) ∧ runP kn (l.drop i) false x D = R ∧ OkD D ∧ D.length ≤ i
  turn : Turned F W wr
  x64 : W64 x
theorem On.more {W wr w' : World} {F : Nat → Prop} {p : Nat} {kn : Int → Option Int} {l : List Ins3} {R : Ran} {i : Nat} {x : Int} (h : On W wr F p kn l R i x) (t : More wr w') : On W w' F p kn l R i x := by
  obtain ⟨F', D, hv, hn, hr, hd⟩ := h.ex
  exact ⟨⟨F', D, hv.more t, hn, hr, hd⟩, turned_own (F' := fun _ => False) h.turn t (fun _ q => q.elim), h.x64⟩
theorem on_did {W wr w' : World} {F F' : Nat → Prop} {p : Nat} {kn : Int → Option Int} {l : List Ins3} {R : Ran} {i : Nat} {x : Int} {D : List KV} {e : Ending} (t : Turned F W wr) (n : ∀ k, F' k → F k ∨ W.heap.size ≤ k) (hx : W64 x) (h : DidView wr F' p kn D (.tuple #[]) e w')
    (hR : runP kn (l.drop i) false x D = R) (hD : OkD D) (hl : D.length ≤ i) : e = .returned (.tuple #[]) ∧ On W w' F p kn l R i x := by
  obtain ⟨he, F1, hv, ht, hn⟩ := h
  refine ⟨he, ⟨F1, D, hv, fun k hk => ?_, hR, hD, hl⟩, turned_own t ht n, hx⟩
  rcases hn k hk with q | q
  · exact n k q
  · exact .inr (Nat.le_trans t.size q)
theorem on_end {W wr : World} {F : Nat → Prop} {p : Nat} {kn : Int → Option Int} {l : List Ins3} {R : Ran} {i : Nat} {x : Int} (h : On W wr F p kn l R i x) (hi : l.length ≤ i) : Went W F p kn R (.returned (.tuple #[])) wr := by
  obtain ⟨F', D, hv, hn, hr, hd⟩ := h.ex
  rw [runP_past _ _ _ _ _ hi] at hr
  subst hr
  exact ⟨rfl, F', hv, h.turn, hn⟩
theorem went_need {W wr w' : World} {F F' : Nat → Prop} {p : Nat} {kn : Int → Option Int} {R : Ran} {a : Int} {e : Ending} (t : Turned F W wr) (n : ∀ k, F' k → F k ∨ W.heap.size ≤ k) (hR : R = .need a) (h : Ended wr F' p a e w') : e = .panicked (endOf p) ∧ Went W F p kn R e w' := by
  subst hR
  exact ⟨h.1, h.1, h.2.1, turned_own t h.2.2 n⟩

end Go.Proofs.Ytonenkgjlmcfkaa
