/-
  A region whose order is left open: its first operations only read (their calls at most make new blocks), in whatever order; all others wait for them.
-/
import Derived.Test.YtogfikemodaepaaGreatBase
namespace Go.Proofs.YtogfikemodaepaaGreat
open Go.RowKit

section
variable {P : Program} {ops : Array Oper} {md : Region.Mode} {C : World → Prop}
/-- The first ones may come in the order of the text, and then t is listed. -/
def headD (md : Region.Mode) (ops : Array Oper) (t : Array Bool) : Nat → Nat → Array Bool → Bool
  | 0, _, d => d == t
  | m + 1, k, d => (Region.ready md ops d).contains k && Region.free md ops d k && headD md ops t m (k + 1) (d.setIfInBounds k true)
def headOk (md : Region.Mode) (ops : Array Oper) (n : Nat) (t : Array Bool) : Bool :=
  Region.noSelect ops && decide (n < ops.size) && sinkFrom md ops 0 n && ((List.range ops.size).all fun i => decide (i ≤ n) || (List.range i).any fun j => decide (n ≤ j) && Region.waitsFor md ops i j) && ((Region.ready md ops t).all fun i => decide (n ≤ i)) && headD md ops t n 0 (Array.replicate ops.size false)

theorem head_waits {n : Nat} (hs : sinkFrom md ops 0 n = true) (hc : ((List.range ops.size).all fun i => decide (i ≤ n) || (List.range i).any fun j => decide (n ≤ j) && Region.waitsFor md ops i j) = true) (hn : n < ops.size) (m : Nat) :
    ∀ i, n - i ≤ m → i < n → ∀ d, HeadInv md ops n d → d.getD i true = false → ∀ t, n ≤ t → t ∉ Region.ready md ops d := by
  induction m with
  | zero => intro i h hi; omega
  | succ m ih =>
    intro i hm hi d inv hun t ht hr
    obtain ⟨_, ot, hot, hall⟩ := mem_ready.1 hr
    have hlt : t < ops.size := (Array.getElem?_eq_some_iff.1 hot).1
    by_cases e : t = n
    · subst e
      have h1 := List.all_eq_true.1 hs i (List.mem_range.2 hi)
      simp only [Bool.or_eq_true, decide_eq_true_eq] at h1
      rcases h1 with h1 | h1
      · omega
      obtain ⟨j, hj, hj2⟩ := List.any_eq_true.1 h1
      simp only [Bool.and_eq_true, decide_eq_true_eq] at hj2
      obtain ⟨oj, hoj, x, hx, hb, hon⟩ := Region.waitsFor_spec hj2.2
      have hjn := List.mem_range.1 hj
      have no : d.getD j false = true ∨ j = t → False := by
        rintro (q | q)
        · have := inv.closed j oj hoj q x hx hb
          rw [hon, getD_both hun] at this; cases this
        · subst q
          obtain rfl : oj = ot := Option.some.inj (hoj.symm.trans hot)
          have := hall x hx hb
          rw [hon, getD_both hun] at this; cases this
      cases q : d.getD j false with
      | true => exact no (.inl q)
      | false =>
        have hne : j ≠ t := fun z => no (.inr z)
        exact ih j (by omega) (by omega) d inv (getD_in (by rw [inv.size]; omega) q) t (Nat.le_refl _) hr
    · have h1 := List.all_eq_true.1 hc t (List.mem_range.2 hlt)
      simp only [Bool.or_eq_true, decide_eq_true_eq] at h1
      rcases h1 with h1 | h1
      · omega
      obtain ⟨j, hj, hj2⟩ := List.any_eq_true.1 h1
      simp only [Bool.and_eq_true, decide_eq_true_eq] at hj2
      obtain ⟨o', ho', x, hx, hb, hon⟩ := Region.waitsFor_spec hj2.2
      obtain rfl : o' = ot := Option.some.inj (ho'.symm.trans hot)
      have hjt := List.mem_range.1 hj
      have := hall x hx hb
      rw [hon, getD_both (inv.tail j hj2.1 (by omega))] at this; cases this

theorem anyT_head {n : Nat} {t : Array Bool} {Z : Act → Prop} (hsel : Region.noSelect ops = true) (hend : ∀ i ∈ Region.ready md ops t, n ≤ i) (hwait : ∀ i, i < n → ∀ d, HeadInv md ops n d → d.getD i true = false → ∀ t, n ≤ t → t ∉ Region.ready md ops d) (l : List Oper) :
    ∀ (k : Nat) (d : Array Bool) (a : Act), (∀ j, j < l.length → l[j]? = ops[k + j]?) → k + l.length = n → HeadInv md ops n d →
    headD md ops t l.length k d = true → wpQuiet P ops C Z l a →
    anyT P md ops C n (fun d' a' => d' = t ∧ Z a') l.length d a := by
  induction l with
  | nil =>
    intro k d a _ hk _ hB h
    exact ⟨by simpa [headD] using hB, h⟩
  | cons o l ih =>
    intro k d a hl hk inv hB h
    have h0 : ops[k]? = some o := by simpa using (hl 0 (by simp)).symm
    simp only [List.length_cons, headD, Bool.and_eq_true] at hB hk
    have hr : k ∈ Region.ready md ops d := by simpa using hB.1.1
    have hst : qOp P ops C k (wpQuiet P ops C Z l) a := by unfold qOp; simp only [h0]; exact h
    obtain ⟨v, hy, hK⟩ := yieldsIn_of_qOp h0 hst
    exact anyT_first h0 (Region.noSelect_spec hsel) (hwait k (by omega)) (by omega) (fun _ _ z => by rw [z.1]; exact hend) l.length d a inv (Region.free_spec h0 hB.1.2) hr hy
      (ih (k + 1) _ _ (fun j hj => by have := hl (j + 1) (by simp; omega); simpa [Nat.add_assoc, Nat.add_comm 1 j] using this) (by omega) (inv.set hr (by omega)) hB.2 hK)
end

theorem wp_region_quiet_head {P : Program} {C : World → Prop} {id : Nat} {Q : Exit → Act → World → Prop} {a : Act} {w : World} {l : List Oper} (n : Nat) (t : Array Bool) (hm : P.follows .mixedOrders = true) (hB : headOk .any l.toArray n t = true)
    (hC : C { w with drawn := w.drawn + 1 }) (h : wpQuiet P l.toArray C (fun a' => ∀ w', C w' → wpAny P .any l.toArray Q (l.length - n) t a' w') (l.take n) a) : (Code.region id l.toArray true).wp P Q a w := by
  simp only [headOk, Bool.and_eq_true, decide_eq_true_eq] at hB
  obtain ⟨⟨⟨⟨⟨hsel, hn⟩, hs⟩, hc⟩, he⟩, hlex⟩ := hB
  have hn' : n < l.length := by simpa using hn
  have ht : (l.take n).length = n := by simp; omega
  have inv : HeadInv .any l.toArray n (Array.replicate l.toArray.size false) :=
    ⟨by simp, fun j p _ q => (by rw [getD_replicate_false] at q; cases q), fun t _ q => getD_in (by simpa using q) (getD_replicate_false _ _)⟩
  have H := anyT_head (md := .any) (t := t) hsel (fun i hi => by have := List.all_eq_true.1 he i hi; simpa using this) (fun i hi d inv hun t ht => head_waits hs hc hn n i (by omega) hi d inv hun t ht) (l.take n) 0 _ a (fun j hj => by
    have : j < n := by rw [ht] at hj; exact hj
    simp [this]) (by simpa using ht) inv (by rw [ht]; exact hlex) h
  have K := any_of_T (Q := Q) (g := l.length - n) (fun d a' w' hw z => by rw [z.1]; exact z.2 w' hw) _ _ _ _ hC H
  rw [ht, show n + (l.length - n) = l.toArray.size by simp; omega] at K
  exact wp_region_any hm K
theorem wp_region_more_head {P : Program} {id : Nat} {Q : Exit → Act → World → Prop} {a : Act} {w : World} {l : List Oper} (n : Nat) (t : Array Bool) (hm : P.follows .mixedOrders = true) (hB : headOk .any l.toArray n t = true)
    (h : wpQuiet P l.toArray (More w) (fun a' => ∀ w', More w w' → wpAny P .any l.toArray Q (l.length - n) t a' w') (l.take n) a) : (Code.region id l.toArray true).wp P Q a w :=
  wp_region_quiet_head (C := More w) n t hm hB ((More.refl w).drewN 1) h
end Go.Proofs.YtogfikemodaepaaGreat
