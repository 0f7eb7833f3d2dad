/-
  The landed package view: Run.
-/
import Derived.Test.YtflihdcliknggaaViewBack
import Derived.Carry
import Derived.RangeFuncNested
import Derived.Maps.OwnIn
namespace Go.Proofs.Ytflihdcliknggaa
open Go.RowKit Go.Sort Go.Maps Go.Shelf
set_option linter.unusedVariables false
set_option linter.unusedSimpArgs false
attribute [local go_sem] Oper.semAt_some

/-- Pairs of numbers of 64 bits. -/
def OkPs (ps : List KV) : Prop := ∀ p ∈ ps, W64 p.1 ∧ W64 p.2
/-- What is known when these places have come. -/
def knOf (ps : List KV) (pre : List Nat) (x : Int) : Option Int := look (pre.reverse.map (pairAt ps)) x
theorem knOf_nil (ps : List KV) : knOf ps [] = fun _ => none := rfl
theorem knOf_snoc (ps : List KV) (pre : List Nat) (i : Nat) : knOf ps (pre ++ [i]) = fun y => if y = (pairAt ps i).1 then some (pairAt ps i).2 else knOf ps pre y := by
  funext y
  unfold knOf
  rw [List.reverse_append, List.reverse_singleton, List.singleton_append, List.map_cons, look_cons]
  by_cases h : y = (pairAt ps i).1
  · rw [if_pos h.symm, if_pos h]
  · rw [if_neg (fun e => h e.symm), if_neg h]
theorem knOf_all (ps : List KV) : knOf ps (cameBack ps.length ps.length) = look ps := by
  funext y
  unfold knOf
  congr 1
  apply List.ext_getElem?
  intro i
  rw [List.getElem?_map]
  by_cases h : i < ps.length
  · have e : (cameBack ps.length ps.length).reverse[i]? = some i := by
      rw [List.getElem?_reverse (by rw [cameBack_length]; exact h), cameBack_length]
      unfold cameBack
      rw [List.getElem?_map, List.getElem?_range (by omega)]
      simp; omega
    rw [e, List.getElem?_eq_getElem h]
    simp [pairAt, List.getD, h]
  · rw [List.getElem?_eq_none (by rw [List.length_reverse, cameBack_length]; omega), List.getElem?_eq_none (by omega)]; rfl
theorem pairAt_ok {ps : List KV} (h : OkPs ps) (i : Nat) : W64 (pairAt ps i).1 ∧ W64 (pairAt ps i).2 := by
  unfold pairAt
  by_cases q : i < ps.length
  · have : ps.getD i (0, 0) = ps[i] := by simp [List.getD, q]
    rw [this]; exact h _ (List.getElem_mem q)
  · have : ps.getD i (0, 0) = (0, 0) := by simp [List.getD, List.getElem?_eq_none (show ps.length ≤ i by omega)]
    rw [this]; unfold W64; exact ⟨by simp, by simp⟩
theorem okK_look {ps : List KV} (h : OkPs ps) : OkK (look ps) := fun a v e => (h _ (look_mem e)).2

/-- Behind a run: the book of what was deferred is laid aside. -/
theorem ranS_put {w W w' : World} {S : Nat → Prop} {X : Nat → World → Prop} {R : Ran} {e : Ending} {D : Nat} {o o' : Obj} (h : RanS W S X R e w') (hM : More w W) (hD : w.heap.size ≤ D) (hDW : D < W.heap.size) (ho : w'.heap[D]? = some o) (hc : o.isCells = false) (hX : ∀ p w' w'', X p w' → Turned (fun k => w.heap.size ≤ k) w' w'' → X p w'') :
    RanS w S X R e (w'.putObj D o') := by
  have t : Turned (fun k => k = D) w' (w'.putObj D o') := ⟨rfl, rfl, rfl, by simp, fun k hk hne => World.putObj_heap_other hne⟩
  have tS : ∀ {w1}, Turned S W w1 → Turned S w w1 := fun q => (Turned.mono hM (fun _ _ r => r.elim)).trans q
  cases R with
  | need a =>
    obtain ⟨he, ht⟩ := h
    exact ⟨he, turned_own (tS ht) t (fun k q => .inr (by omega))⟩
  | done ps =>
    obtain ⟨v, p, he, hr, ht, hx, hd⟩ := h
    refine ⟨v, p, he, (hr.keep t (fun k hk q => by omega)).mono hM.size, turned_own (tS ht) t (fun k q => .inr (by omega)), hX p _ _ hx (t.mono (fun k _ q => by omega)), hd.keep t (fun q => ?_)⟩
    obtain ⟨M, q', hp⟩ := hd
    subst q
    rw [ho] at hp
    cases hp
    cases hc
/-- What is so all through the loop over the pairs. -/
structure Fills (w : World) (ps : List KV) (pre : List Nat) (W : World) : Prop where
  box : Boxed W (w.heap.size + 1) 44 (.map (some w.heap.size))
  known : KnownAt W w.heap.size pre.length (knOf ps pre)
  below : Below w.heap.size w W
  big : w.heap.size + 3 ≤ W.heap.size
theorem fills_own (w : World) (ps : List KV) (B : Nat) (hB : w.heap.size + 2 ≤ B) : OwnFrom B (fun (pre : List Nat) W => Fills w ps pre W) := fun pre W W' row h hg hr => by
  have hne : ∀ k, k < B → some k ≠ row := fun k hk e => by have := (hr k e.symm).1; omega
  refine ⟨h.box.kept hg (hne _ (by omega)), ?_, h.below.grown hg (by have := h.box.lt; omega) (fun k e => by have := (hr k e).1; omega), Nat.le_trans h.big hg.size⟩
  obtain ⟨D, ⟨es, clock, hb, F⟩, hk⟩ := h.known
  exact ⟨D, ⟨es, clock, (hg.block _ (lt_of_heap hb) (hne _ (by omega))).trans hb, F⟩, hk⟩

set_option maxHeartbeats 1000000 in
theorem run_nil (M : Nat) (w : World) :
    Calls Try.prog 19 #[.map (some M), .nilFunc] w fun e w' => e = .returned (.tuple #[.int .i64 (-1), .slice none 0 0]) ∧ More w w' := by
  have hq : ∀ w, Sem.run Try.prog (binOp BinOp.eql 34 .nilFunc .nilFunc) w = .ok (.bool true) w := fun _ => by kernel_rfl
  go_enter Try.func19, Try.ntmps19
  go_wp2_with fail
  exact bodyPost_ret (v := .tuple #[.int .i64 (-1), .slice none 0 0]) (by simp [results, Try.results19, go_sem]) rfl ⟨rfl, (More.refl w).alloc _⟩
end Go.Proofs.Ytflihdcliknggaa
