/-
  Rows of the call's own that hold names: all told apart, each where it may stand; and what append makes of them.
-/
import Derived.Test.YtollofgcijlofaaRowKit
import Derived.Test.YtollofgcijlofaaLayPlain
import Derived.Test.YtollofgcijlofaaInts
import Derived.Deep.AppendLies
namespace Go.Proofs.Ytollofgcijlofaa
open Go.RowKit
set_option linter.unusedVariables false

theorem nodup_len (M : Nat) : ∀ xs : List Int, xs.Nodup → (∀ x ∈ xs, 0 ≤ x ∧ x < M) → xs.length ≤ M := by
  induction M with
  | zero =>
    intro xs _ h
    cases xs with
    | nil => simp
    | cons a l => have := h a (by simp); omega
  | succ M ih =>
    intro xs hn h
    by_cases hm : (M : Int) ∈ xs
    · have h1 := ih (xs.erase (M : Int)) (hn.erase _) (fun x hx => by
        have hx' := (List.Nodup.mem_erase_iff hn).1 hx
        have := h x hx'.2
        have := hx'.1
        omega)
      have h2 := List.length_erase_of_mem hm
      omega
    · have h1 := ih xs hn (fun x hx => by
        have := h x hx
        have : x ≠ (M : Int) := fun e => hm (e ▸ hx)
        omega)
      omega

/-- v is a row of the call's own, in a block from base on, that holds whole numbers, no two alike, each as R says. -/
def Nm (base : Nat) (R : Int → Prop) (w : World) (v : Value) : Prop :=
  ∃ xs : List Int, w.ownsRow base 3 1 v xs.length (xs.map (Value.int .i64)) ∧ xs.Nodup ∧ ∀ x ∈ xs, R x

theorem Nm.nil (base : Nat) (R : Int → Prop) (w : World) : Nm base R w (.slice none 0 0) := ⟨[], World.ownsRow_nil w base _ 1, by simp, by simp⟩
theorem Nm.mono {base : Nat} {R R' : Int → Prop} {w : World} {v : Value} (h : Nm base R w v) (k : ∀ x, R x → R' x) : Nm base R' w v := by
  obtain ⟨xs, h1, h2, h3⟩ := h
  exact ⟨xs, h1, h2, fun x hx => k x (h3 x hx)⟩
theorem Nm.more {base : Nat} {R : Int → Prop} {w w' : World} {v : Value} (h : Nm base R w v) (hW : More w w') : Nm base R w' v := by
  obtain ⟨xs, h1, h2, h3⟩ := h
  exact ⟨xs, ownsRow_more h1 hW, h2, h3⟩
/-- append of names that are new. -/
theorem wpList_name {ops : Array Oper} {rest : List Oper} {o : Oper} {a : Act} {Q : Exit → Act → World → Prop} {w wa : World} {v : Value} {R R' : Int → Prop} (hgd : o.guard = none) (s x : Operand)
    (ho : o.op = .call { callee := .builtin .append, args := #[s, x], argTypes := #[44, 44] })
    (hs : a.eval s = v) (hn : Nm wa.heap.size R w v) (hW : More wa w) (hlo : ∀ y, R y → 0 ≤ y ∧ y < 20000) (B : Nat) (news : List Int) (m : Nat) (hm : news.length = m) (hm0 : 0 < m) (hm9 : m ≤ 10)
    (hx : a.eval x = .slice (some ⟨B, 0, none⟩) m m) (hB : w.heap[B]? = some (.cells (news.map (Value.int .i64)).toArray 3 (0, 0)))
    (hnd : news.Nodup) (hout : ∀ y ∈ news, ¬ R y) (hin : ∀ y ∈ news, R' y) (hup : ∀ y, R y → R' y)
    (h : ∀ v' w', Nm wa.heap.size R' w' v' → More wa w' → wpList Try.prog ops Q rest (a.put o.dst v') w') : wpList Try.prog ops Q (o :: rest) a w := by
  obtain ⟨xs, h1, h2, h3⟩ := hn
  obtain ⟨i, i1, i2, i3, i4⟩ := int_info
  have hl := nodup_len 20000 xs h2 (fun y hy => hlo y (h3 y hy))
  subst hm
  refine wpList_append_lies w hgd s x 44 ho wa.heap.size 3 i _ 1 8 Try.underlying44 i1 i2 i3 i4 rfl (by omega) v xs.length _ hs h1 ⟨B, 0, none⟩ news.length news.length (news.map (Value.int .i64)) hx (by simp)
    (fun j u hu => World.news_of_block hB j u (by simpa using hu)) (by intro u hu; obtain ⟨z, _, rfl⟩ := List.mem_map.1 hu; rfl) hm0 (by simp only [maxLen]; omega) (by omega) hW.size w.heap.size rfl ?_
  intro g cap w1 hown hgrow _ _
  refine h _ w1 ⟨xs ++ news, ?_, ?_, ?_⟩ (more_of_grown hW h1 hgrow)
  · rw [List.length_append, List.map_append]; exact hown
  · refine List.nodup_append.2 ⟨h2, hnd, fun y hy z hz e => ?_⟩
    subst e
    exact hout y hz (h3 y hy)
  · intro y hy
    rcases List.mem_append.1 hy with q | q
    · exact hup y (h3 y q)
    · exact hin y q

/-- append of one name that is new. -/
theorem wpList_name1 {ops : Array Oper} {rest : List Oper} {o : Oper} {a : Act} {Q : Exit → Act → World → Prop} {w wa : World} {v : Value} {R R' : Int → Prop} (y : Int) (hgd : o.guard = none) (s x : Operand)
    (ho : o.op = .call { callee := .builtin .append, args := #[s, x], argTypes := #[44, 44] })
    (hs : a.eval s = v) (hn : Nm wa.heap.size R w v) (hW : More wa w) (hlo : ∀ y, R y → 0 ≤ y ∧ y < 20000) (hout : ¬ R y) (hin : R' y) (hup : ∀ y, R y → R' y)
    (hx : a.eval x = .slice (some ⟨w.heap.size, 0, none⟩) 1 1)
    (h : ∀ v' w', Nm wa.heap.size R' w' v' → More wa w' → wpList Try.prog ops Q rest (a.put o.dst v') w') : wpList Try.prog ops Q (o :: rest) a (w.alloc (.cells #[.int .i64 y] 3)) :=
  wpList_name hgd s x ho hs (hn.more ((More.refl _).alloc _)) (hW.alloc _) hlo _ [y] 1 rfl (by omega) (by omega) hx (row_new _ _ _) (by simp) (by simpa using hout) (by simpa using hin) hup h

end Go.Proofs.Ytollofgcijlofaa
