/-
  append(dst, pairs...): whatever slice of pairs is appended to a row of the call's own.
-/
import Derived.Test.YtjoeminkdafmaaaPairs
import Derived.Deep.AppendSrc
namespace Go.Proofs.Ytjoeminkdafmaaa
open Go.RowKit Go.Sort Go.Maps
set_option linter.unusedVariables false
set_option linter.unusedSimpArgs false

theorem pairCells_append (ps qs : List KV) : pairCells (ps ++ qs) = pairCells ps ++ pairCells qs := by simp [pairCells]
theorem pairCells_one (ps : List KV) : ∀ u ∈ pairCells ps, u.oneCell' = true := by
  intro u hu
  unfold pairCells at hu
  obtain ⟨p, _, hp⟩ := List.mem_flatMap.1 hu
  simp at hp
  rcases hp with rfl | rfl <;> rfl
theorem PRw.isPairs {base : Nat} {w : World} {a : Option Addr} {cap : Nat} {ps : List KV} (h : PRw base w (.slice a ps.length cap) ps) : IsPairs w a ps := by
  obtain ⟨a', cap', e, hp, _⟩ := h.reads
  cases e; exact hp

theorem wpList_pairs {ops : Array Oper} {rest : List Oper} {o : Oper} {act : Act} {Q : Exit → Act → World → Prop} {wa w : World} {g cap : Nat} {ps qs : List KV} {a : Option Addr} {ca : Nat} (hgd : o.guard = none) (s x : Operand)
    (ho : o.op = .call { callee := .builtin .append, args := #[s, x], argTypes := #[22, 22] })
    (hs : act.eval s = .slice (some ⟨g, 0, none⟩) ps.length cap) (hp : PRw wa.heap.size w (.slice (some ⟨g, 0, none⟩) ps.length cap) ps) (hW : More wa w) (hx : act.eval x = .slice a qs.length ca) (hq : IsPairs w a qs) (hl : ps.length + qs.length ≤ 1000000)
    (h : ∀ g' cap' w', PRw wa.heap.size w' (.slice (some ⟨g', 0, none⟩) (ps ++ qs).length cap') (ps ++ qs) → More wa w' → wpList Try.prog ops Q rest (act.put o.dst (.slice (some ⟨g', 0, none⟩) (ps.length + qs.length) cap')) w') :
    wpList Try.prog ops Q (o :: rest) act w := by
  obtain ⟨i, i1, i2, i3, i4⟩ := pair_info
  have many : ∀ (ad : Addr), a = some ad → (∀ j u, (pairCells qs)[j]? = some u → w.cell? (ad.add j) = some u) → wpList Try.prog ops Q (o :: rest) act w := by
    intro ad e hc
    subst e
    refine wpList_append_own w hgd s x 22 ho wa.heap.size 47 i _ 2 16 Try.underlying22 i1 i2 i3 i4 rfl (by omega) _ ps.length _ hs hp ad qs.length ca (pairCells qs) hx (pairCells_len qs) hc
      (pairCells_one qs) (by simp only [maxLen]; omega) (by omega) hW.size ?_
    intro v' w' h1 h2 h3
    rcases h1.2 with ⟨e, _⟩ | ⟨g', cap', cur, e, hb, hg, hn, hm, hsz, ht⟩
    · have := (h3.1 e).1; cases this
    · subst e
      refine h g' cap' w' ?_ (turned_of_grown hW hp h2)
      unfold PRw
      rw [List.length_append, pairCells_append]
      exact h1
  cases a with
  | none =>
    obtain rfl : qs = [] := by
      rcases hq with q | ⟨_, _, q, _⟩
      · exact q
      · cases q
    rcases hp.2 with ⟨e, _⟩ | ⟨g', cap', cur, e, hb, hg, hn, hm, hsz, ht⟩
    · cases e
    cases e
    refine wpList_plain hgd fun K hK => ?_
    have hr := run_append_room_src (P := Try.prog) w 22 22 o.type 47 i Try.underlying22 i1 g 0 ps.length cap (.slice none 0 ca) 0 [] (Src.ofNil _ Try.underlying22 ca) (by omega) (fun j hj => by simp at hj) (fun j hj => by simp at hj)
    unfold Oper.wp
    simp only [List.length_nil, Nat.add_zero] at hx hr h
    simp [execOp, ho, resolve, invoke, builtin, hs, hx, hr, Result.andThen]
    refine hK _ _ (h g cap _ ?_ hW)
    rw [List.append_nil]
    exact hp
  | some ad =>
    by_cases h0 : qs = []
    · subst h0
      exact many ad rfl (fun j u hj => by simp [pairCells] at hj)
    · obtain ⟨b, off, e, hg, hc⟩ := hq.resolve_left h0
      cases e
      refine many _ rfl (fun j u hj => ?_)
      have hj' : j < qs.length * 2 := by have := (List.getElem?_eq_some_iff.1 hj).1; rwa [pairCells_len] at this
      obtain ⟨t, ht⟩ : ∃ t, qs[j / 2]? = some t := ⟨_, List.getElem?_eq_getElem (by omega)⟩
      obtain ⟨p0, p1⟩ := pairCells_get qs (j / 2) t ht
      obtain ⟨c0, c1⟩ := hc (j / 2) t ht
      rw [Addr.add_lit]
      rcases Nat.mod_two_eq_zero_or_one j with q | q
      · have e : j / 2 * 2 = j := by omega
        rw [e] at p0 c0
        rw [hj] at p0; cases p0; exact c0
      · have e : j / 2 * 2 + 1 = j := by omega
        rw [e] at p1
        rw [Nat.add_assoc, e] at c1
        rw [hj] at p1; cases p1; exact c1
end Go.Proofs.Ytjoeminkdafmaaa
