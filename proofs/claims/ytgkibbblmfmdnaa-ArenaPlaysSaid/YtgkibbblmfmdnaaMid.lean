/-
  A region whose order is left open, from its operation number k on, where all that is left only reads: one walk in the order of the text.
-/
import Derived.Deep.Quiet
import Derived.Deep.QuietTactic
import Derived.RegionTactic
import Derived.Deep.RegionWith
namespace Go.Proofs.Ytgkibbblmfmdnaa

theorem wpAny_quiet_rest {P : Program} {ops : Array Oper} {Q' : Exit → Act → World → Prop} {fuel : Nat} {listed : Array Bool} {a : Act} {w : World} (k : Nat) (l : List Oper)
    (hs : Region.noSelect ops = true) (hl : ops.toList.drop k = l) (hB : Region.lexFrom .any ops l.length k listed = true) (hf : fuel = l.length)
    (h : wpQuiet P ops (fun w' => ∃ n, w' = w.drewN n) (fun a' => ∀ w', (∃ n, w' = w.drewN n) → Q' .normal a' w') l a) : wpAny P .any ops Q' fuel listed a w := by
  subst hf
  refine wpAny_of_quiet (C := fun w' => ∃ n, w' = w.drewN n) (Q := fun a' => ∀ w', (∃ n, w' = w.drewN n) → Q' .normal a' w') (fun _ w' hw' h => h w' hw') _ _ _ _ ⟨0, rfl⟩ ?_
  refine wpAnyQ_lex hs l k listed a (fun j => ?_) hB h
  rw [← hl, List.getElem?_drop, Array.getElem?_toList]

end Go.Proofs.Ytgkibbblmfmdnaa
