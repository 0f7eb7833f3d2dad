/-
  Rows of the call's own that hold names: all told apart, each where it may stand; and what append makes of them.
-/
import Derived.Test.YtmeincgejnhnmaaRowKit
import Derived.Test.YtmeincgejnhnmaaLayPlain
import Derived.Deep.AppendLies
namespace Go.Proofs.Ytmeincgejnhnmaa
open Go.RowKit
set_option linter.unusedVariables false

theorem nodup_len (M : Nat) : ∀ xs : List Int, xs.Nodup → (∀ x ∈ xs, 0 ≤ x ∧ x < M) → xs.length ≤ M := by
  induction M with
  | zero =>
    intro xs _ h
    cases xs with
    | nil => simp
    | cons a l => have := h a (by simp); omega
  | succ M ih =>
    intro xs hn h
    by_cases hm : (M : Int) ∈ xs
    · have h1 := ih (xs.erase (M : Int)) (hn.erase _) (fun x hx => by
        have hx' := (List.Nodup.mem_erase_iff hn).1 hx
        have := h x hx'.2
        have := hx'.1
        omega)
      have h2 := List.length_erase_of_mem hm
      omega
    · have h1 := ih xs hn (fun x hx => by
        have := h x hx
        have : x ≠ (M : Int) := fun e => hm (e ▸ hx)
        omega)
      omega

/-- v is a row of the call's own, in a block from base on, that holds whole numbers, no two alike, each as R says. -/
def Nm (base : Nat) (R : Int → Prop) (w : World) (v : Value) : Prop :=
  ∃ xs : List Int, w.ownsRow base 3 1 v xs.length (xs.map (Value.int .i64)) ∧ xs.Nodup ∧ ∀ x ∈ xs, R x

theorem Nm.nil (base : Nat) (R : Int → Prop) (w : World) : Nm base R w (.slice none 0 0) := ⟨[], World.ownsRow_nil w base _ 1, by simp, by simp⟩
theorem Nm.mono {base : Nat} {R R' : Int → Prop} {w : World} {v : Value} (h : Nm base R w v) (k : ∀ x, R x → R' x) : Nm base R' w v := by
  obtain ⟨xs, h1, h2, h3⟩ := h
  exact ⟨xs, h1, h2, fun x hx => k x (h3 x hx)⟩
theorem ownsRow_more {w w' : World} {base : Nat} {e : TypeId} {s n : Nat} {v : Value} {xs : List Value} (h : w.ownsRow base e s v n xs) (hW : More w w') : w'.ownsRow base e s v n xs := by
  refine ⟨h.1, ?_⟩
  rcases h.2 with q | ⟨g, cap, cur, h1, h2, h3, h4⟩
  · exact .inl q
  · exact .inr ⟨g, cap, cur, h1, h2, hW.block h3, h4⟩
theorem Nm.more {base : Nat} {R : Int → Prop} {w w' : World} {v : Value} (h : Nm base R w v) (hW : More w w') : Nm base R w' v := by
  obtain ⟨xs, h1, h2, h3⟩ := h
  exact ⟨xs, ownsRow_more h1 hW, h2, h3⟩
theorem more_of_grown {wa w w' : World} {v : Value} {e : TypeId} {s n : Nat} {xs : List Value} (hW : More wa w) (h : w.ownsRow wa.heap.size e s v n xs) (g : w.grownBy w' v.ownBlock) : More wa w' :=
  ⟨g.os.trans hW.os, g.tape.trans hW.tape, g.output.trans hW.output, Nat.le_trans hW.size g.size, fun k hk _ => by
    rw [g.block k (Nat.lt_of_lt_of_le hk hW.size) (by
      rcases h.2 with ⟨rfl, _⟩ | ⟨b, cap, cur, rfl, hb, _⟩
      · simp [Value.ownBlock]
      · simp only [Value.ownBlock, ne_eq, Option.some.injEq]; omega)]
    exact Turned.block hW k hk (fun q => q)⟩

theorem int_info : ∃ i : TypeInfo, Try.prog.info? 3 = some i ∧ i.zero = some (.int .i64 0) ∧ i.size = 1 ∧ i.bytes = 8 := by
  have h1 : (Try.prog.info? 3).map (·.size) = some 1 := by kernel_rfl
  have h2 : (Try.prog.info? 3).bind (·.zero) = some (.int .i64 0) := by kernel_rfl
  have h3 : (Try.prog.info? 3).map (·.bytes) = some 8 := by kernel_rfl
  cases q : Try.prog.info? 3 with
  | none => rw [q] at h1; simp at h1
  | some i => rw [q] at h1 h2 h3; exact ⟨i, rfl, by simpa using h2, by simpa using h1, by simpa using h3⟩

/-- append of names that are new. -/
theorem wpList_name {ops : Array Oper} {rest : List Oper} {o : Oper} {a : Act} {Q : Exit → Act → World → Prop} {w wa : World} {v : Value} {R R' : Int → Prop} (hgd : o.guard = none) (s x : Operand)
    (ho : o.op = .call { callee := .builtin .append, args := #[s, x], argTypes := #[33, 33] })
    (hs : a.eval s = v) (hn : Nm wa.heap.size R w v) (hW : More wa w) (hlo : ∀ y, R y → 0 ≤ y ∧ y < 20000) (B : Nat) (news : List Int) (m : Nat) (hm : news.length = m) (hm0 : 0 < m) (hm9 : m ≤ 10)
    (hx : a.eval x = .slice (some ⟨B, 0, none⟩) m m) (hB : w.heap[B]? = some (.cells (news.map (Value.int .i64)).toArray 3 (0, 0)))
    (hnd : news.Nodup) (hout : ∀ y ∈ news, ¬ R y) (hin : ∀ y ∈ news, R' y) (hup : ∀ y, R y → R' y)
    (h : ∀ v' w', Nm wa.heap.size R' w' v' → More wa w' → wpList Try.prog ops Q rest (a.put o.dst v') w') : wpList Try.prog ops Q (o :: rest) a w := by
  obtain ⟨xs, h1, h2, h3⟩ := hn
  obtain ⟨i, i1, i2, i3, i4⟩ := int_info
  have hl := nodup_len 20000 xs h2 (fun y hy => hlo y (h3 y hy))
  subst hm
  refine wpList_append_lies w hgd s x 33 ho wa.heap.size 3 i _ 1 8 Try.underlying33 i1 i2 i3 i4 rfl (by omega) v xs.length _ hs h1 ⟨B, 0, none⟩ news.length news.length (news.map (Value.int .i64)) hx (by simp)
    (fun j u hu => World.news_of_block hB j u (by simpa using hu)) (by intro u hu; obtain ⟨z, _, rfl⟩ := List.mem_map.1 hu; rfl) hm0 (by simp only [maxLen]; omega) (by omega) hW.size w.heap.size rfl ?_
  intro g cap w1 hown hgrow _ _
  refine h _ w1 ⟨xs ++ news, ?_, ?_, ?_⟩ (more_of_grown hW h1 hgrow)
  · rw [List.length_append, List.map_append]; exact hown
  · refine List.nodup_append.2 ⟨h2, hnd, fun y hy z hz e => ?_⟩
    subst e
    exact hout y hz (h3 y hy)
  · intro y hy
    rcases List.mem_append.1 hy with q | q
    · exact hup y (h3 y q)
    · exact hin y q

/-- append of one name that is new. -/
theorem wpList_name1 {ops : Array Oper} {rest : List Oper} {o : Oper} {a : Act} {Q : Exit → Act → World → Prop} {w wa : World} {v : Value} {R R' : Int → Prop} (y : Int) (hgd : o.guard = none) (s x : Operand)
    (ho : o.op = .call { callee := .builtin .append, args := #[s, x], argTypes := #[33, 33] })
    (hs : a.eval s = v) (hn : Nm wa.heap.size R w v) (hW : More wa w) (hlo : ∀ y, R y → 0 ≤ y ∧ y < 20000) (hout : ¬ R y) (hin : R' y) (hup : ∀ y, R y → R' y)
    (hx : a.eval x = .slice (some ⟨w.heap.size, 0, none⟩) 1 1)
    (h : ∀ v' w', Nm wa.heap.size R' w' v' → More wa w' → wpList Try.prog ops Q rest (a.put o.dst v') w') : wpList Try.prog ops Q (o :: rest) a (w.alloc (.cells #[.int .i64 y] 3)) :=
  wpList_name hgd s x ho hs (hn.more ((More.refl _).alloc _)) (hW.alloc _) hlo _ [y] 1 rfl (by omega) (by omega) hx (row_new _ _ _) (by simp) (by simpa using hout) (by simpa using hin) hup h

end Go.Proofs.Ytmeincgejnhnmaa
