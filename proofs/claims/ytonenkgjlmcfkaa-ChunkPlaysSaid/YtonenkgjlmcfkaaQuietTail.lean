/-
  A region whose order is left open, whose operations but the last few only read (its calls at most make new blocks), and whose last few come in one order at the end: one walk in the order of the text.
-/
import Derived.Test.YtonenkgjlmcfkaaRowKit
import Derived.StillTail
import Derived.Orders
namespace Go.Proofs.Ytonenkgjlmcfkaa
open Go.RowKit

section
variable {P : Program} {ops : Array Oper} {md : Region.Mode} {C : World → Prop}

/-- The operations ahead of number n, in whatever order, each quiet in the class C; L is asked once they have come up. -/
def anyT (P : Program) (md : Region.Mode) (ops : Array Oper) (C : World → Prop) (n : Nat) (L : Array Bool → Act → Prop) : Nat → Array Bool → Act → Prop
  | 0, d, a => L d a
  | f + 1, d, a => Region.ready md ops d ≠ [] ∧ ∀ i ∈ Region.ready md ops d, i < n ∧ qOp P ops C i (anyT P md ops C n L f (d.setIfInBounds i true)) a

theorem any_of_T {n g : Nat} {L : Array Bool → Act → Prop} {Q : Exit → Act → World → Prop} (hL : ∀ d a w, C w → L d a → wpAny P md ops Q g d a w) (f : Nat) :
    ∀ (d : Array Bool) (a : Act) (w : World), C w → anyT P md ops C n L f d a → wpAny P md ops Q (f + g) d a w := by
  induction f with
  | zero => intro d a w hw h; rw [Nat.zero_add]; exact hL _ _ _ hw h
  | succ f ih =>
    intro d a w hw h
    rw [Nat.add_right_comm]
    exact ⟨fun q => absurd q h.1, fun i hi => wpOp_of_qOp hw (fun a' w' hw' k => ih _ a' w' hw' k) (h.2 i hi).2⟩

/-- One that is ready may be taken first. -/
theorem anyT_first {n i : Nat} {o : Oper} {v : Value} {L : Array Bool → Act → Prop} (hi : ops[i]? = some o) (hsel : ∀ (j : Nat) (o : Oper) cs b, ops[j]? = some o → o.op ≠ .select cs b)
    (hwait : ∀ d, HeadInv md ops n d → d.getD i true = false → ∀ t, n ≤ t → t ∉ Region.ready md ops d) (hin : i < n)
    (hend : ∀ d a, L d a → ∀ j ∈ Region.ready md ops d, n ≤ j) (f : Nat) :
    ∀ (d : Array Bool) (a : Act), HeadInv md ops n d →
      (∀ j p, ops[j]? = some p → j ≠ i → d.getD j true = false → (∀ e ∈ p.after, Region.binds md e = true → e.on ≠ i) → o.apart ops p = true) →
      i ∈ Region.ready md ops d → YieldsIn P ops C o v a →
      anyT P md ops C n L f (d.setIfInBounds i true) (a.put o.dst v) → anyT P md ops C n L (f + 1) d a := by
  induction f with
  | zero =>
    intro d a inv _ hr hy H
    refine ⟨fun q => (by rw [q] at hr; cases hr), fun j hj => ?_⟩
    have hlt : j < n := Nat.lt_of_not_le fun q => hwait d inv (mem_ready.1 hr).1 j q hj
    refine ⟨hlt, ?_⟩
    by_cases e : j = i
    · subst e; exact hy.qOp hi H
    · exact absurd (hend _ _ H j (ready_mono hj e)) (by omega)
  | succ f ih =>
    intro d a inv hfree hr hy H
    have hun := (mem_ready.1 hr).1
    refine ⟨fun q => (by rw [q] at hr; cases hr), fun j hj => ?_⟩
    have hlt : j < n := Nat.lt_of_not_le fun q => hwait d inv hun j q hj
    refine ⟨hlt, ?_⟩
    by_cases e : j = i
    · subst e; exact hy.qOp hi H
    · obtain ⟨hjun, p, hp, hall⟩ := mem_ready.1 hj
      have hno : ∀ e ∈ p.after, Region.binds md e = true → e.on ≠ i := fun e he hb q => by
        have := hall e he hb
        rw [q, getD_both hun] at this
        cases this
      have k := qOp_put hp (hfree j p hp e hjun hno) (fun cs b => hsel i o cs b hi) (fun cs b => hsel j p cs b hp) hy (H.2 j (ready_mono hj e)).2
      refine qOp_mono (fun a' z => ih (d.setIfInBounds j true) a' (inv.set hj hlt) (fun x q hx hxi hun' hno' => hfree x q hx hxi ?_ hno') (ready_mono hr (Ne.symm e)) z.1 ?_) k
      · by_cases y : j = x
        · subst y; exact hjun
        · rw [getD_set_ne true y] at hun'; exact hun'
      · rw [Array.setIfInBounds_comm _ _ e]; exact z.2

theorem anyT_lex {n g k0 : Nat} {Z : Act → Prop} (hsel : Region.noSelect ops = true) (hwait : ∀ i, k0 ≤ i → i < n → ∀ d, HeadInv md ops n d → d.getD i true = false → ∀ t, n ≤ t → t ∉ Region.ready md ops d) (l : List Oper) :
    ∀ (k : Nat) (d : Array Bool) (a : Act), k0 ≤ k → (∀ j, j < l.length → l[j]? = ops[k + j]?) → k + l.length = n → HeadInv md ops n d →
    Region.lexHead md ops g l.length k d = true → wpQuiet P ops C Z l a →
    anyT P md ops C n (fun d' a' => Region.seqB md ops g n d' = true ∧ Z a') l.length d a := by
  induction l with
  | nil =>
    intro k d a _ _ hk _ hB h
    have : k = n := by simpa using hk
    subst this
    exact ⟨by simpa [Region.lexHead] using hB, h⟩
  | cons o l ih =>
    intro k d a hk0 hl hk inv hB h
    have h0 : ops[k]? = some o := by simpa using (hl 0 (by simp)).symm
    simp only [List.length_cons, Region.lexHead, Bool.and_eq_true] at hB hk
    have hr : k ∈ Region.ready md ops d := by simpa using hB.1.1
    have hst : qOp P ops C k (wpQuiet P ops C Z l) a := by unfold qOp; simp only [h0]; exact h
    obtain ⟨v, hy, hK⟩ := yieldsIn_of_qOp h0 hst
    exact anyT_first h0 (Region.noSelect_spec hsel) (hwait k hk0 (by omega)) (by omega) (fun _ _ z => seqB_ready z.1) l.length d a inv (Region.free_spec h0 hB.1.2) hr hy
      (ih (k + 1) _ _ (by omega) (fun j hj => by have := hl (j + 1) (by simp; omega); simpa [Nat.add_assoc, Nat.add_comm 1 j] using this) (by omega) (inv.set hr (by omega)) hB.2 hK)
end

theorem wp_region_quiet_tail {P : Program} {C : World → Prop} {id : Nat} {Q : Exit → Act → World → Prop} {a : Act} {w : World} {l : List Oper} (n : Nat) (hm : P.follows .mixedOrders = true) (hB : Region.lexTailB .any l.toArray n = true)
    (hC : C { w with drawn := w.drawn + 1 }) (h : wpQuiet P l.toArray C (fun a' => ∀ w', C w' → wpList P l.toArray Q (l.drop n) a' w') (l.take n) a) : (Code.region id l.toArray true).wp P Q a w := by
  simp only [Region.lexTailB, Bool.and_eq_true, decide_eq_true_eq] at hB
  obtain ⟨⟨⟨⟨hsel, hn⟩, hs⟩, hc⟩, hlex⟩ := hB
  have hn' : n < l.length := by simpa using hn
  have ht : (l.take n).length = n := by simp; omega
  have hd : (l.drop n).length = l.toArray.size - n := by simp
  have inv : HeadInv .any l.toArray n (Array.replicate l.toArray.size false) :=
    ⟨by simp, fun j p _ q => (by rw [getD_replicate_false] at q; cases q), fun t _ q => getD_in (by simpa using q) (getD_replicate_false _ _)⟩
  have H := anyT_lex (md := .any) (g := l.toArray.size - n) (k0 := 0) hsel (fun i _ hi d inv hun t ht => tail_waits hs hc hn inv _ i rfl hi hun t ht) (l.take n) 0 _ a (by omega) (fun j hj => by
    have : j < n := by rw [ht] at hj; exact hj
    simp [this]) (by simpa using ht) inv (by rw [ht]; exact hlex) h
  have K := any_of_T (Q := Q) (g := l.toArray.size - n) (fun d a' w' hw z => by
    have := wpAny_of_seq (md := .any) (Q' := Q) (l.drop n) n d a' w' (fun j => by simp [List.getElem?_drop]) (by rw [hd]; exact z.1) (z.2 w' hw)
    rwa [hd] at this) _ _ _ _ hC H
  rw [ht, show n + (l.toArray.size - n) = l.toArray.size by omega] at K
  exact wp_region_any hm K

/-- Of the operations ahead of number n, those from k on are each waited for, on some way, by number n. -/
def sinkFrom (md : Region.Mode) (ops : Array Oper) (k n : Nat) : Bool :=
  (List.range n).all fun i => decide (i < k) || (List.range (n + 1)).any fun j => decide (i < j) && Region.waitsFor md ops j i

theorem waits_from {md : Region.Mode} {ops : Array Oper} {k n : Nat} (hs : sinkFrom md ops k n = true) (hc : Region.chainB md ops n = true) (hn : n < ops.size) (m : Nat) :
    ∀ i, n - i ≤ m → k ≤ i → i < n → ∀ d, HeadInv md ops n d → d.getD i true = false → ∀ t, n ≤ t → t ∉ Region.ready md ops d := by
  induction m with
  | zero => intro i h _ hi; omega
  | succ m ih =>
    intro i hm hk hi d inv hun t ht hr
    obtain ⟨_, ot, hot, hall⟩ := mem_ready.1 hr
    have hlt : t < ops.size := (Array.getElem?_eq_some_iff.1 hot).1
    by_cases e : t = n
    · subst e
      have h1 := List.all_eq_true.1 hs i (List.mem_range.2 hi)
      simp only [Bool.or_eq_true, decide_eq_true_eq] at h1
      rcases h1 with h1 | h1
      · omega
      obtain ⟨j, hj, hj2⟩ := List.any_eq_true.1 h1
      simp only [Bool.and_eq_true, decide_eq_true_eq] at hj2
      obtain ⟨oj, hoj, x, hx, hb, hon⟩ := Region.waitsFor_spec hj2.2
      have hjn := List.mem_range.1 hj
      have no : d.getD j false = true ∨ j = t → False := by
        rintro (q | q)
        · have := inv.closed j oj hoj q x hx hb
          rw [hon, getD_both hun] at this; cases this
        · subst q
          obtain rfl : oj = ot := Option.some.inj (hoj.symm.trans hot)
          have := hall x hx hb
          rw [hon, getD_both hun] at this; cases this
      cases q : d.getD j false with
      | true => exact no (.inl q)
      | false =>
        have hne : j ≠ t := fun z => no (.inr z)
        exact ih j (by omega) (by omega) (by omega) d inv (getD_in (by rw [inv.size]; omega) q) t (Nat.le_refl _) hr
    · have h1 := List.all_eq_true.1 hc t (List.mem_range.2 hlt)
      simp only [Bool.or_eq_true, decide_eq_true_eq] at h1
      rcases h1 with h1 | h1
      · omega
      obtain ⟨o', ho', x, hx, hb, hon⟩ := Region.waitsFor_spec h1
      obtain rfl : o' = ot := Option.some.inj (ho'.symm.trans hot)
      have := hall x hx hb
      rw [hon, getD_both (inv.tail (t - 1) (by omega) (by omega))] at this; cases this

/-- What the order must keep: the first operation may come first, those ahead of number n may come in the order of the text, and behind them comes the rest in one order alone. -/
def oneThenTail (md : Region.Mode) (ops : Array Oper) (n : Nat) : Bool :=
  Region.noSelect ops && decide (n < ops.size) && sinkFrom md ops 1 n && Region.chainB md ops n && decide (0 < n) && Region.free md ops (Array.replicate ops.size false) 0 && (Region.ready md ops (Array.replicate ops.size false)).contains 0 &&
    Region.lexHead md ops (ops.size - n) (n - 1) 1 ((Array.replicate ops.size false).setIfInBounds 0 true)

theorem wp_region_quiet_tail1 {P : Program} {C : World → Prop} {id : Nat} {Q : Exit → Act → World → Prop} {a : Act} {w : World} {o : Oper} {v : Value} {l : List Oper} (n : Nat) (hm : P.follows .mixedOrders = true) (hB : oneThenTail .any (o :: l).toArray n = true)
    (hC : C { w with drawn := w.drawn + 1 }) (hQ : ∀ c a w, Q (.panic c) (a.put o.dst v) w → Q (.panic c) a w) (hy : Yields P (o :: l).toArray o v a)
    (h : wpQuiet P (o :: l).toArray C (fun a' => ∀ w', C w' → wpList P (o :: l).toArray Q (l.drop (n - 1)) a' w') (l.take (n - 1)) (a.put o.dst v)) : (Code.region id (o :: l).toArray true).wp P Q a w := by
  simp only [oneThenTail, Bool.and_eq_true, decide_eq_true_eq] at hB
  obtain ⟨⟨⟨⟨⟨⟨⟨hsel, hn⟩, hs⟩, hc⟩, hn0⟩, hf⟩, hr⟩, hlex⟩ := hB
  have hsz : (o :: l).toArray.size = l.length + 1 := by simp
  have ht : (l.take (n - 1)).length = n - 1 := by simp; omega
  have hd : (l.drop (n - 1)).length = (o :: l).toArray.size - n := by simp; omega
  have inv0 : HeadInv .any (o :: l).toArray n (Array.replicate (o :: l).toArray.size false) :=
    ⟨by simp, fun j p _ q => (by rw [getD_replicate_false] at q; cases q), fun t _ q => getD_in (by simpa using q) (getD_replicate_false _ _)⟩
  have hr0 : 0 ∈ Region.ready .any (o :: l).toArray (Array.replicate (o :: l).toArray.size false) := by simpa using hr
  have H := anyT_lex (md := .any) (g := (o :: l).toArray.size - n) (k0 := 1) hsel (fun i h1 hi d inv hun t ht => waits_from hs hc hn n i (by omega) h1 hi d inv hun t ht) (l.take (n - 1)) 1 _ (a.put o.dst v) (by omega) (fun j hj => by
    have : j < n - 1 := by rw [ht] at hj; exact hj
    rw [List.getElem?_take_of_lt this]
    simp [Nat.add_comm 1 j]) (by rw [ht]; omega) (inv0.set hr0 hn0) (by rw [ht]; exact hlex) h
  have K := any_of_T (Q := Q) (g := (o :: l).toArray.size - n) (fun d a' w' hw z => by
    have := wpAny_of_seq (md := .any) (Q' := Q) (l.drop (n - 1)) n d a' w' (fun j => by
      rw [List.getElem?_drop]
      simp only [List.getElem?_toArray]
      rw [show n + j = (n - 1 + j) + 1 by omega, List.getElem?_cons_succ]) (by rw [hd]; exact z.1) (z.2 w' hw)
    rwa [hd] at this) _ _ _ _ hC H
  rw [ht, show n - 1 + ((o :: l).toArray.size - n) = l.length by rw [hsz]; omega] at K
  refine wp_region_any hm ?_
  rw [hsz]
  have := wpAny_take (P := P) (md := .any) (Q := Q) (w := { w with drawn := w.drawn + 1 }) (i := 0) (oi := o) (v := v) (fuel := l.length) (by simp) hsel hf hr hQ hy K
  rwa [hsz] at this

theorem wp_region_more_tail1 {P : Program} {id : Nat} {Q : Exit → Act → World → Prop} {a : Act} {w : World} {o : Oper} {v : Value} {l : List Oper} (n : Nat) (hm : P.follows .mixedOrders = true) (hB : oneThenTail .any (o :: l).toArray n = true)
    (hQ : ∀ c a w, Q (.panic c) (a.put o.dst v) w → Q (.panic c) a w) (hy : Yields P (o :: l).toArray o v a)
    (h : wpQuiet P (o :: l).toArray (More w) (fun a' => ∀ w', More w w' → wpList P (o :: l).toArray Q (l.drop (n - 1)) a' w') (l.take (n - 1)) (a.put o.dst v)) : (Code.region id (o :: l).toArray true).wp P Q a w :=
  wp_region_quiet_tail1 (C := More w) n hm hB ((More.refl w).drewN 1) hQ hy h

theorem wp_region_more_tail {P : Program} {id : Nat} {Q : Exit → Act → World → Prop} {a : Act} {w : World} {l : List Oper} (n : Nat) (hm : P.follows .mixedOrders = true) (hB : Region.lexTailB .any l.toArray n = true)
    (h : wpQuiet P l.toArray (More w) (fun a' => ∀ w', More w w' → wpList P l.toArray Q (l.drop n) a' w') (l.take n) a) : (Code.region id l.toArray true).wp P Q a w :=
  wp_region_quiet_tail (C := More w) n hm hB ((More.refl w).drewN 1) h

end Go.Proofs.Ytonenkgjlmcfkaa
