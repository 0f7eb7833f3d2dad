/-
  append([]int{}, words...): a row of the call's own.
-/
import Derived.Test.YtflihdcliknggaaViewDo
import Derived.Deep.AppendSrc
namespace Go.Proofs.Ytflihdcliknggaa
open Go.RowKit Go.Sort Go.Maps Go.Shelf
set_option linter.unusedVariables false
set_option linter.unusedSimpArgs false

theorem wpList_words {ops : Array Oper} {rest : List Oper} {o : Oper} {act : Act} {Q : Exit → Act → World → Prop} {w : World} {a : Option Addr} {cap : Nat} {zs : List Int} (hgd : o.guard = none) (s x : Operand)
    (ho : o.op = .call { callee := .builtin .append, args := #[s, x], argTypes := #[23, 23] })
    (hs : act.eval s = .slice (some ⟨w.heap.size, 0, none⟩) 0 0) (hx : act.eval x = .slice a zs.length cap) (hz : IsWords w a zs) (hl : zs.length ≤ 1000000)
    (h : ∀ a' cap' w', RowAt w' 3 (zs.map (Value.int .i64)) a' cap' → (∀ k, owned a' k → w.heap.size ≤ k) → More w w' → wpList Try.prog ops Q rest (act.put o.dst (.slice a' zs.length cap')) w') :
    wpList Try.prog ops Q (o :: rest) act (w.alloc (.cells #[] 3)) := by
  obtain ⟨i, i1, i2, i3, i4⟩ := int_info
  have M0 : More w (w.alloc (.cells #[] 3)) := (More.refl w).alloc _
  have hown : (w.alloc (.cells #[] 3)).ownsRow w.heap.size 3 1 (.slice (some ⟨w.heap.size, 0, none⟩) 0 0) 0 [] := World.ownsRow_made w #[] 0 (Nat.le_refl _) (by simp only [maxLen]; omega) rfl
  have many : ∀ (ad : Addr), a = some ad → (∀ j u, (zs.map (Value.int .i64))[j]? = some u → (w.alloc (.cells #[] 3)).cell? (ad.add j) = some u) → wpList Try.prog ops Q (o :: rest) act (w.alloc (.cells #[] 3)) := by
    intro ad e hc
    subst e
    refine wpList_append_own _ hgd s x 23 ho w.heap.size 3 i _ 1 8 Try.underlying23 i1 i2 i3 i4 rfl (by omega) _ 0 [] hs hown ad zs.length cap (zs.map (Value.int .i64)) hx (by simp) hc
      (by intro u hu; obtain ⟨z, _, rfl⟩ := List.mem_map.1 hu; rfl) (by simp only [maxLen]; omega) (by omega) (by simp) ?_
    intro v' w' h1 h2 _
    rw [Nat.zero_add, List.nil_append] at h1
    obtain ⟨a', cap', rfl, hr, hn, _⟩ := RowAt.of_own h1
    exact h a' cap' w' hr hn (more_of_grown M0 hown h2)
  cases a with
  | none =>
    obtain rfl : zs = [] := by
      rcases hz with q | ⟨_, _, q, _⟩
      · exact q
      · cases q
    refine wpList_plain hgd fun K hK => ?_
    have hr := run_append_room_src (P := Try.prog) (w.alloc (.cells #[] 3)) 23 23 o.type 3 i Try.underlying23 i1 w.heap.size 0 0 0 (.slice none 0 cap) 0 [] (Src.ofNil _ Try.underlying23 cap) (Nat.le_refl _) (fun j hj => by simp at hj) (fun j hj => by simp at hj)
    unfold Oper.wp
    simp [execOp, ho, resolve, invoke, builtin, hs, hx, hr, Result.andThen]
    refine hK _ _ (h (some ⟨w.heap.size, 0, none⟩) 0 _ ?_ (fun k hk => by cases hk; exact Nat.le_refl _) M0)
    exact .inr ⟨w.heap.size, #[], rfl, heap_new w _, by simp, by simp only [maxLen]; omega, rfl, rfl⟩
  | some ad =>
    by_cases h0 : zs = []
    · subst h0
      exact many ad rfl (fun j u hj => by simp at hj)
    · obtain ⟨g, off, e, hg, hc⟩ := hz.resolve_left h0
      cases e
      refine many _ rfl (fun j u hj => ?_)
      rw [List.getElem?_map] at hj
      by_cases q : j < zs.length
      · rw [List.getElem?_eq_getElem q] at hj
        have hu : u = .int .i64 zs[j] := by simpa using hj.symm
        rw [hu, Addr.add_lit]
        have := M0.cell (hc j q)
        simpa [List.getD, q] using this
      · rw [List.getElem?_eq_none (by omega)] at hj; cases hj
end Go.Proofs.Ytflihdcliknggaa
