/-
  Rows of pairs that a call has made for itself: how they are kept and read, what append makes of them, and the statements' own comparison of two of them.
-/
import Derived.Test.YtflihdcliknggaaViewA
import Derived.Test.YtflihdcliknggaaChecked
import Derived.Deep.AppendLies
import Derived.WalkSpells
namespace Go.Proofs.Ytflihdcliknggaa
open Go.RowKit Go.Sort Go.Maps
set_option linter.unusedVariables false
set_option linter.unusedSimpArgs false

theorem turned_of_grown {S : Nat → Prop} {wa w w' : World} {v : Value} {e : TypeId} {s n : Nat} {xs : List Value} (hW : Turned S wa w) (h : w.ownsRow wa.heap.size e s v n xs) (g : w.grownBy w' v.ownBlock) : Turned S wa w' :=
  ⟨g.os.trans hW.os, g.tape.trans hW.tape, g.output.trans hW.output, Nat.le_trans hW.size g.size, fun k hk hs => by
    rw [g.block k (Nat.lt_of_lt_of_le hk hW.size) (by
      rcases h.2 with ⟨rfl, _⟩ | ⟨b, cap, cur, rfl, hb, _⟩
      · simp [Value.ownBlock]
      · simp only [Value.ownBlock, ne_eq, Option.some.injEq]; omega)]
    exact Turned.block hW k hk hs⟩
theorem ownsRow_keep {w w' : World} {base : Nat} {e : TypeId} {s n : Nat} {v : Value} {xs : List Value} (h : w.ownsRow base e s v n xs) {S : Nat → Prop} (hW : Turned S w w') (hs : ∀ k, base ≤ k → ¬ S k) : w'.ownsRow base e s v n xs := by
  refine ⟨h.1, ?_⟩
  rcases h.2 with q | ⟨g, cap, cur, h1, h2, h3, h4⟩
  · exact .inl q
  · exact .inr ⟨g, cap, cur, h1, h2, by rw [Turned.block hW g (lt_of_heap h3) (hs g h2)]; exact h3, h4⟩
theorem ownsRow_lower {w : World} {base base' : Nat} {e : TypeId} {s n : Nat} {v : Value} {xs : List Value} (h : w.ownsRow base e s v n xs) (hb : base' ≤ base) : w.ownsRow base' e s v n xs := by
  refine ⟨h.1, ?_⟩
  rcases h.2 with q | ⟨g, cap, cur, h1, h2, h3, h4⟩
  · exact .inl q
  · exact .inr ⟨g, cap, cur, h1, by omega, h3, h4⟩

def pairCells (ps : List KV) : List Value := ps.flatMap fun p => [.int .i64 p.1, .int .i64 p.2]
theorem pairCells_snoc (ps : List KV) (p : KV) : pairCells (ps ++ [p]) = pairCells ps ++ [.int .i64 p.1, .int .i64 p.2] := by simp [pairCells]
theorem pairCells_cons (p : KV) (ps : List KV) : pairCells (p :: ps) = .int .i64 p.1 :: .int .i64 p.2 :: pairCells ps := by simp [pairCells]
theorem pairCells_len : ∀ ps : List KV, (pairCells ps).length = ps.length * 2
  | [] => rfl
  | p :: ps => by rw [pairCells_cons, List.length_cons, List.length_cons, pairCells_len ps, List.length_cons]; omega
theorem pairCells_get : ∀ (ps : List KV) (i : Nat) (p : KV), ps[i]? = some p → (pairCells ps)[i * 2]? = some (.int .i64 p.1) ∧ (pairCells ps)[i * 2 + 1]? = some (.int .i64 p.2)
  | [], i, p, h => by cases h
  | q :: ps, 0, p, h => by
    simp at h; subst h
    rw [pairCells_cons]; exact ⟨rfl, rfl⟩
  | q :: ps, i + 1, p, h => by
    have := pairCells_get ps i p (by simpa using h)
    rw [pairCells_cons, show (i + 1) * 2 = i * 2 + 1 + 1 by omega]
    exact this

theorem pair_info : ∃ i : TypeInfo, Try.prog.info? 49 = some i ∧ i.zero = some (.agg #[.int .i64 0, .int .i64 0]) ∧ i.size = 2 ∧ i.bytes = 16 := by
  have h1 : (Try.prog.info? 49).map (·.size) = some 2 := by kernel_rfl
  have h2 : (Try.prog.info? 49).bind (·.zero) = some (.agg #[.int .i64 0, .int .i64 0]) := by kernel_rfl
  have h3 : (Try.prog.info? 49).map (·.bytes) = some 16 := by kernel_rfl
  cases q : Try.prog.info? 49 with
  | none => rw [q] at h1; simp at h1
  | some i => rw [q] at h1 h2 h3; exact ⟨i, rfl, by simpa using h2, by simpa using h1, by simpa using h3⟩

/-- v is a row of pairs of the call's own, in a block from base on. -/
def PRw (base : Nat) (w : World) (v : Value) (ps : List KV) : Prop := w.ownsRow base 49 2 v ps.length (pairCells ps)
theorem PRw.nil (base : Nat) (w : World) : PRw base w (.slice none 0 0) [] := World.ownsRow_nil w base _ 2
theorem PRw.keep {base : Nat} {w w' : World} {v : Value} {ps : List KV} (h : PRw base w v ps) {S : Nat → Prop} (hW : Turned S w w') (hs : ∀ k, base ≤ k → ¬ S k) : PRw base w' v ps := ownsRow_keep h hW hs
theorem PRw.more {base : Nat} {w w' : World} {v : Value} {ps : List KV} (h : PRw base w v ps) (hW : More w w') : PRw base w' v ps := ownsRow_keep h hW (fun _ _ q => q)
theorem PRw.mono {base base' : Nat} {w : World} {v : Value} {ps : List KV} (h : PRw base w v ps) (hb : base' ≤ base) : PRw base' w v ps := ownsRow_lower h hb
/-- How it reads. -/
theorem PRw.reads {base : Nat} {w : World} {v : Value} {ps : List KV} (h : PRw base w v ps) : ∃ a cap, v = .slice a ps.length cap ∧ IsPairs w a ps ∧ ∀ k, leads a k → base ≤ k := by
  rcases h.2 with ⟨rfl, h0⟩ | ⟨g, cap, cur, rfl, hb, hg, _, _, hs, ht⟩
  · have : ps = [] := List.length_eq_zero_iff.1 h0
    subst this
    exact ⟨none, 0, rfl, .inl rfl, fun k hk => by cases hk⟩
  · refine ⟨_, cap, rfl, .inr ⟨g, 0, rfl, lt_of_heap hg, fun i t hi => ?_⟩, fun k hk => by cases hk; exact hb⟩
    have hil := (List.getElem?_eq_some_iff.1 hi).1
    have hcell : ∀ j u, (pairCells ps)[j]? = some u → w.cell? ⟨g, 0 + j, none⟩ = some u := fun j u hj => by
      have hj' : j < ps.length * 2 := by have := (List.getElem?_eq_some_iff.1 hj).1; rw [pairCells_len] at this; exact this
      have e : cur.toList[j]? = some u := by
        have h1 : (cur.toList.take (ps.length * 2))[j]? = some u := by rw [ht]; exact hj
        rw [List.getElem?_take, if_pos (by omega)] at h1
        exact h1
      simp [World.cell?, hg]
      simpa using e
    obtain ⟨p1, p2⟩ := pairCells_get ps i t hi
    exact ⟨hcell _ _ p1, by have := hcell _ _ p2; rwa [← Nat.add_assoc] at this⟩

/-- append of one pair to a row of the call's own. -/
theorem wpList_pair {ops : Array Oper} {rest : List Oper} {o : Oper} {a : Act} {Q : Exit → Act → World → Prop} {S : Nat → Prop} {w wa : World} {v : Value} {ps : List KV} (p q : Int) (hgd : o.guard = none) (s x : Operand)
    (ho : o.op = .call { callee := .builtin .append, args := #[s, x], argTypes := #[24, 24] })
    (hs : a.eval s = v) (hn : PRw wa.heap.size w v ps) (hW : Turned S wa w) (hl : ps.length ≤ 1000000)
    (hx : a.eval x = .slice (some ⟨w.heap.size, 0, none⟩) 1 1)
    (h : ∀ g cap w', PRw wa.heap.size w' (.slice (some ⟨g, 0, none⟩) (ps.length + 1) cap) (ps ++ [(p, q)]) → Turned S wa w' → (∀ k ob, w.heap[k]? = some ob → v.ownBlock ≠ some k → w'.heap[k]? = some ob) → wpList Try.prog ops Q rest (a.put o.dst (.slice (some ⟨g, 0, none⟩) (ps.length + 1) cap)) w') : wpList Try.prog ops Q (o :: rest) a (w.alloc (.cells #[.int .i64 p, .int .i64 q] 49)) := by
  obtain ⟨i, i1, i2, i3, i4⟩ := pair_info
  have hn' := hn.more ((More.refl w).alloc (.cells #[.int .i64 p, .int .i64 q] 49))
  have hB := heap_new w (.cells #[.int .i64 p, .int .i64 q] 49)
  refine wpList_append_lies _ hgd s x 24 ho wa.heap.size 49 i _ 2 16 Try.underlying24 i1 i2 i3 i4 rfl (by omega) v ps.length _ hs hn' ⟨w.heap.size, 0, none⟩ 1 1 [.int .i64 p, .int .i64 q] hx (by simp)
    (fun j u hu => World.news_of_block hB j u (by simpa using hu)) (by intro u hu; simp at hu; rcases hu with rfl | rfl <;> rfl) (by omega) (by simp only [maxLen]; omega) (by omega) (by have := hW.size; simp; omega) _ rfl ?_
  intro g cap w1 hown hgrow _ _
  refine h g cap w1 ?_ (turned_of_grown (hW.alloc _) hn' hgrow) (fun k ob hk hne => ?_)
  · unfold PRw
    rw [List.length_append, pairCells_snoc]
    exact hown
  · rw [hgrow.block k (by have := lt_of_heap hk; simp; omega) (Ne.symm hne), Below.heap_alloc _ _ _ (lt_of_heap hk)]; exact hk
end Go.Proofs.Ytflihdcliknggaa
