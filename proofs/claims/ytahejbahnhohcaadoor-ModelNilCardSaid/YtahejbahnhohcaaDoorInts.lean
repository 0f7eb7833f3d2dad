/-
  Rows of integers that a call has made for itself: how they are kept, what append makes of them, and the statements' own comparison of two of them.
-/
import Derived.Test.YtahejbahnhohcaaDoorRows
import Derived.Test.YtahejbahnhohcaaDoorChecked
import Derived.Test.YtahejbahnhohcaaDoorBase
import Derived.WalkKit
import Derived.WalkSpells
import Derived.WalkLawsBesides
import Derived.Outline
import Derived.Lib.Hide
import Derived.Deep.AppendLies
namespace Go.Proofs.YtahejbahnhohcaaDoor
open Go.RowKit
set_option linter.unusedVariables false
set_option linter.unusedSimpArgs false

theorem ownsRow_more {w w' : World} {base : Nat} {e : TypeId} {s n : Nat} {v : Value} {xs : List Value} (h : w.ownsRow base e s v n xs) (hW : More w w') : w'.ownsRow base e s v n xs := by
  refine ⟨h.1, ?_⟩
  rcases h.2 with q | ⟨g, cap, cur, h1, h2, h3, h4⟩
  · exact .inl q
  · exact .inr ⟨g, cap, cur, h1, h2, hW.block h3, h4⟩
theorem ownsRow_low {w : World} {base base' : Nat} {e : TypeId} {s n : Nat} {v : Value} {xs : List Value} (h : w.ownsRow base e s v n xs) (hb : base' ≤ base) : w.ownsRow base' e s v n xs := by
  refine ⟨h.1, ?_⟩
  rcases h.2 with q | ⟨g, cap, cur, h1, h2, h3, h4⟩
  · exact .inl q
  · exact .inr ⟨g, cap, cur, h1, by omega, h3, h4⟩
theorem more_of_grown {wa w w' : World} {v : Value} {e : TypeId} {s n : Nat} {xs : List Value} (hW : More wa w) (h : w.ownsRow wa.heap.size e s v n xs) (g : w.grownBy w' v.ownBlock) : More wa w' :=
  ⟨g.os.trans hW.os, g.tape.trans hW.tape, g.output.trans hW.output, Nat.le_trans hW.size g.size, fun k hk _ => by
    rw [g.block k (Nat.lt_of_lt_of_le hk hW.size) (by
      rcases h.2 with ⟨rfl, _⟩ | ⟨b, cap, cur, rfl, hb, _⟩
      · simp [Value.ownBlock]
      · simp only [Value.ownBlock, ne_eq, Option.some.injEq]; omega)]
    exact Turned.block hW k hk (fun q => q)⟩

theorem int_info : ∃ i : TypeInfo, Tryd.prog.info? 3 = some i ∧ i.zero = some (.int .i64 0) ∧ i.size = 1 ∧ i.bytes = 8 := by
  have h1 : (Tryd.prog.info? 3).map (·.size) = some 1 := by kernel_rfl
  have h2 : (Tryd.prog.info? 3).bind (·.zero) = some (.int .i64 0) := by kernel_rfl
  have h3 : (Tryd.prog.info? 3).map (·.bytes) = some 8 := by kernel_rfl
  cases q : Tryd.prog.info? 3 with
  | none => rw [q] at h1; simp at h1
  | some i => rw [q] at h1 h2 h3; exact ⟨i, rfl, by simpa using h2, by simpa using h1, by simpa using h3⟩

/-- v is a row of integers of the call's own, in a block from base on. -/
def Rw (base : Nat) (w : World) (v : Value) (xs : List Int) : Prop := w.ownsRow base 3 1 v xs.length (xs.map (Value.int .i64))
theorem Rw.nil (base : Nat) (w : World) : Rw base w (.slice none 0 0) [] := World.ownsRow_nil w base _ 1
theorem Rw.more {base : Nat} {w w' : World} {v : Value} {xs : List Int} (h : Rw base w v xs) (hW : More w w') : Rw base w' v xs := ownsRow_more h hW
theorem Rw.mono {base base' : Nat} {w : World} {v : Value} {xs : List Int} (h : Rw base w v xs) (hb : base' ≤ base) : Rw base' w v xs := by
  refine ⟨h.1, ?_⟩
  rcases h.2 with q | ⟨g, cap, cur, h1, h2, h3, h4⟩
  · exact .inl q
  · exact .inr ⟨g, cap, cur, h1, by omega, h3, h4⟩
/-- How it reads. -/
theorem Rw.reads {base : Nat} {w : World} {v : Value} {xs : List Int} (h : Rw base w v xs) :
    ∃ a cap, v = .slice a xs.length cap ∧ ∀ k, k < xs.length → ∃ g, a = some ⟨g, 0, none⟩ ∧ base ≤ g ∧ g < w.heap.size ∧ ∀ j, j < xs.length → w.cell? ⟨g, j, none⟩ = some (.int .i64 (xs.getD j 0)) := by
  rcases h.2 with ⟨rfl, h0⟩ | ⟨g, cap, cur, rfl, hb, hg, _, _, hs, ht⟩
  · exact ⟨none, 0, by rw [h0], fun k hk => by omega⟩
  · refine ⟨_, cap, rfl, fun k hk => ⟨g, rfl, hb, lt_of_heap hg, fun j hj => ?_⟩⟩
    rw [World.cell?_of_block (w := w) (w' := w) rfl]
    have e : cur.toList[j]? = some (.int .i64 (xs.getD j 0)) := by
      have h1 : (cur.toList.take (xs.length * 1))[j]? = some (.int .i64 (xs.getD j 0)) := by
        rw [ht, List.getElem?_map, List.getElem?_eq_getElem hj]; simp [List.getD, hj]
      rw [List.getElem?_take, if_pos (by omega)] at h1
      exact h1
    simp [World.cell?, hg]
    simpa using e

/-- A call has handed back a row of integers of its own. -/
def GaveInts (w : World) (xs : List Int) (e : Ending) (w' : World) : Prop := ∃ v, e = .returned v ∧ Rw w.heap.size w' v xs ∧ More w w'

/-- append of one integer to a row of the call's own. -/
theorem wpList_push {ops : Array Oper} {rest : List Oper} {o : Oper} {a : Act} {Q : Exit → Act → World → Prop} {w wa : World} {v : Value} {xs : List Int} (y : Int) (hgd : o.guard = none) (s x : Operand)
    (ho : o.op = .call { callee := .builtin .append, args := #[s, x], argTypes := #[66, 66] })
    (hs : a.eval s = v) (hn : Rw wa.heap.size w v xs) (hW : More wa w) (hl : xs.length ≤ 1000000)
    (hx : a.eval x = .slice (some ⟨w.heap.size, 0, none⟩) 1 1)
    (h : ∀ v' w', Rw wa.heap.size w' v' (xs ++ [y]) → More wa w' → wpList Tryd.prog ops Q rest (a.put o.dst v') w') : wpList Tryd.prog ops Q (o :: rest) a (w.alloc (.cells #[.int .i64 y] 3)) := by
  obtain ⟨i, i1, i2, i3, i4⟩ := int_info
  have hn' := hn.more ((More.refl w).alloc (.cells #[.int .i64 y] 3))
  have hB := heap_new w (.cells #[.int .i64 y] 3)
  refine wpList_append_lies _ hgd s x 66 ho wa.heap.size 3 i _ 1 8 Tryd.underlying66 i1 i2 i3 i4 rfl (by omega) v xs.length _ hs hn' ⟨w.heap.size, 0, none⟩ 1 1 [.int .i64 y] hx (by simp)
    (fun j u hu => World.news_of_block hB j u (by simpa using hu)) (by intro u hu; simp at hu; subst hu; rfl) (by omega) (by simp only [maxLen]; omega) (by omega) (by have := hW.size; simp; omega) _ rfl ?_
  intro g cap w1 hown hgrow _ _
  refine h _ w1 ?_ (more_of_grown (hW.alloc _) hn' hgrow)
  unfold Rw
  rw [List.length_append, List.map_append]
  exact hown

end Go.Proofs.YtahejbahnhohcaaDoor
