/-
  The document's own purse: one list of classes and addresses; how it lies, and what append makes of it.
-/
import Derived.Test.YtmafllcmkhgidaaPurAft
namespace Go.Proofs.Ytmafllcmkhgidaa
open Go.RowKit Go.Shelf
set_option linter.unusedVariables false
set_option linter.unusedSimpArgs false

abbrev It := Int × Int
def itCells (its : List It) : List Value := its.flatMap fun p => [.int .i64 p.1, .int .i64 p.2]
theorem itCells_append (a b : List It) : itCells (a ++ b) = itCells a ++ itCells b := by simp [itCells]
theorem itCells_cons (p : It) (ps : List It) : itCells (p :: ps) = .int .i64 p.1 :: .int .i64 p.2 :: itCells ps := by simp [itCells]
theorem itCells_len : ∀ ps : List It, (itCells ps).length = ps.length * 2
  | [] => rfl
  | p :: ps => by rw [itCells_cons, List.length_cons, List.length_cons, itCells_len ps, List.length_cons]; omega
theorem itCells_get : ∀ (ps : List It) (i : Nat) (p : It), ps[i]? = some p → (itCells ps)[i * 2]? = some (.int .i64 p.1) ∧ (itCells ps)[i * 2 + 1]? = some (.int .i64 p.2)
  | [], i, p, h => by cases h
  | q :: ps, 0, p, h => by
    simp at h; subst h
    rw [itCells_cons]; exact ⟨rfl, rfl⟩
  | q :: ps, i + 1, p, h => by
    have := itCells_get ps i p (by simpa using h)
    rw [itCells_cons, show (i + 1) * 2 = i * 2 + 1 + 1 by omega]
    exact this
theorem itCells_one {ps : List It} : ∀ u ∈ itCells ps, u.oneCell' = true := by
  intro u hu
  obtain ⟨p, _, hp⟩ := List.mem_flatMap.1 hu
  rcases List.mem_cons.1 hp with rfl | hp
  · rfl
  · obtain rfl := List.mem_singleton.1 hp; rfl
theorem itCells_take (ps : List It) (i : Nat) : itCells (ps.take i) = (itCells ps).take (i * 2) := by
  induction ps generalizing i with
  | nil => simp [itCells]
  | cons p ps ih =>
    cases i with
    | zero => simp [itCells]
    | succ i => rw [List.take_succ_cons, itCells_cons, itCells_cons, ih, show (i + 1) * 2 = i * 2 + 1 + 1 by omega]; rfl
theorem itCells_drop (ps : List It) (i : Nat) : itCells (ps.drop i) = (itCells ps).drop (i * 2) := by
  induction ps generalizing i with
  | nil => simp [itCells]
  | cons p ps ih =>
    cases i with
    | zero => simp
    | succ i => rw [List.drop_succ_cons, itCells_cons, ih, show (i + 1) * 2 = i * 2 + 1 + 1 by omega]; rfl

theorem item_info : ∃ i : TypeInfo, Try.prog.info? 55 = some i ∧ i.zero = some (.agg #[.int .i64 0, .int .i64 0]) ∧ i.size = 2 ∧ i.bytes = 16 := by
  have h1 : (Try.prog.info? 55).map (·.size) = some 2 := by kernel_rfl
  have h2 : (Try.prog.info? 55).bind (·.zero) = some (.agg #[.int .i64 0, .int .i64 0]) := by kernel_rfl
  have h3 : (Try.prog.info? 55).map (·.bytes) = some 16 := by kernel_rfl
  cases q : Try.prog.info? 55 with
  | none => rw [q] at h1; simp at h1
  | some i => rw [q] at h1 h2 h3; exact ⟨i, rfl, by simpa using h2, by simpa using h1, by simpa using h3⟩

/-- A row of items, in a block from base on. -/
def IR (base : Nat) (w : World) (v : Value) (its : List It) : Prop := w.ownsRow base 55 2 v its.length (itCells its)
theorem IR.nil (base : Nat) (w : World) : IR base w (.slice none 0 0) [] := World.ownsRow_nil w base _ 2
theorem IR.more {base : Nat} {w w' : World} {v : Value} {its : List It} (h : IR base w v its) (m : More w w') : IR base w' v its := ownsRow_more h m
theorem IR.low {base base' : Nat} {w : World} {v : Value} {its : List It} (h : IR base w v its) (hb : base' ≤ base) : IR base' w v its := ownsRow_low h hb
theorem IR.keep {base : Nat} {w w' : World} {v : Value} {its : List It} (h : IR base w v its) {S : Nat → Prop} (t : Turned S w w') (hs : ∀ k, S k → ∃ cs T fr, w.heap[k]? = some (.cells cs T fr) ∧ T ≠ 55) : IR base w' v its := by
  refine ⟨h.1, ?_⟩
  rcases h.2 with q | ⟨g, cap, cur, h1, h2, h3, h4⟩
  · exact .inl q
  · refine .inr ⟨g, cap, cur, h1, h2, ?_, h4⟩
    rw [t.block g (lt_of_heap h3) (fun q => by
      obtain ⟨cs, T, fr, e, hne⟩ := hs g q
      rw [h3] at e; cases e; exact hne rfl)]
    exact h3
theorem IR.one {base : Nat} {w : World} {v : Value} {its : List It} (h : IR base w v its) : v.oneCell' = true := by
  rcases h.2 with ⟨rfl, _⟩ | ⟨g, cap, cur, rfl, _⟩ <;> rfl
/-- How it reads. -/
theorem IR.reads {base : Nat} {w : World} {v : Value} {its : List It} (h : IR base w v its) :
    ∃ a cap, v = .slice a its.length cap ∧ its.length ≤ cap ∧ (a = none → cap = 0) ∧ ∀ g, a = some g → g = ⟨g.block, 0, none⟩ ∧ ∀ j u, (itCells its)[j]? = some u → w.cell? ⟨g.block, j, none⟩ = some u := by
  rcases h.2 with ⟨rfl, h0⟩ | ⟨g, cap, cur, rfl, hb, hg, hn, _, hs, ht⟩
  · exact ⟨none, 0, by rw [h0], by omega, fun _ => rfl, fun g q => by cases q⟩
  · refine ⟨_, cap, rfl, hn, (fun q => by cases q), fun q hq => ?_⟩
    cases hq
    refine ⟨rfl, fun j u hj => ?_⟩
    have hj' : j < its.length * 2 := by have := (List.getElem?_eq_some_iff.1 hj).1; rw [itCells_len] at this; exact this
    have e : cur.toList[j]? = some u := by
      have h1 : (cur.toList.take (its.length * 2))[j]? = some u := by rw [ht]; exact hj
      rw [List.getElem?_take, if_pos (by omega)] at h1
      exact h1
    simp [World.cell?, hg]
    simpa using e
theorem IR.at {base : Nat} {w : World} {v : Value} {its : List It} (h : IR base w v its) : ∃ a cap, v = .slice a its.length cap ∧ its.length ≤ cap ∧ (a = none → cap = 0) ∧ ∀ k p, its[k]? = some p → ∃ g, a = some ⟨g, 0, none⟩ ∧ w.cell? ⟨g, k * 2, none⟩ = some (.int .i64 p.1) ∧ w.cell? ⟨g, k * 2 + 1, none⟩ = some (.int .i64 p.2) := by
  obtain ⟨a, cap, rfl, hc, h0, hr⟩ := h.reads
  refine ⟨a, cap, rfl, hc, h0, fun k p hk => ?_⟩
  have hlt := (List.getElem?_eq_some_iff.1 hk).1
  cases a with
  | none => have := h0 rfl; omega
  | some g =>
    obtain ⟨e, hcell⟩ := hr g rfl
    obtain ⟨q1, q2⟩ := itCells_get its k p hk
    exact ⟨g.block, by rw [← e], hcell _ _ q1, hcell _ _ q2⟩

/-- What is appended: its items lie there. -/
def ISrc (w : World) (u : Value) (news : List It) : Prop := (u = .slice none 0 0 ∧ news = []) ∨ ∃ p c, u = .slice (some p) news.length c ∧ ∀ j x, (itCells news)[j]? = some x → w.cell? (p.add j) = some x
theorem ISrc.more {w w' : World} {u : Value} {news : List It} (h : ISrc w u news) (m : More w w') : ISrc w' u news := by
  rcases h with h | ⟨p, c, rfl, hc⟩
  · exact .inl h
  · refine .inr ⟨p, c, rfl, fun j x hj => ?_⟩
    have := hc j x hj
    rw [World.cell?_of_block (w := w) (Turned.block m _ (block_lt_of_cell this) (fun q => q))]
    exact this
theorem wp_items {o : Oper} {a : Act} {K : Act → World → Prop} {Q : Exit → Act → World → Prop} {w : World} {base : Nat} {v u : Value} {its news : List It} (s x : Operand)
    (ho : o.op = .call { callee := .builtin .append, args := #[s, x], argTypes := #[28, 28] })
    (hs : a.eval s = v) (hv : IR base w v its) (hb : base ≤ w.heap.size) (hx : a.eval x = u) (hu : ISrc w u news) (hl : its.length + news.length ≤ 1000000)
    (h : ∀ v' w', IR base w' v' (its ++ news) → Turned (fun k => v.ownBlock = some k) w w' → (∀ k, v'.ownBlock = some k → v.ownBlock = some k ∨ k = w.heap.size) → K (a.put o.dst v') w') : o.wp Try.prog a w K Q := by
  obtain ⟨i, i1, i2, i3, i4⟩ := item_info
  rcases hu with ⟨rfl, rfl⟩ | ⟨p, c, rfl, hc⟩
  · have hrun := run_append_owned_none (P := Try.prog) (w := w) base 28 o.type 55 i 2 Try.underlying28 i1 v its.length _ hv
    unfold Oper.wp
    simp [execOp, ho, resolve, invoke, builtin, hs, hx, hrun, Result.andThen]
    exact h _ _ (by simpa using hv) (Turned.refl _ _) (fun k q => .inl q)
  · obtain ⟨v', w', hr, h2, h3, _, h5⟩ := run_append_own_at (P := Try.prog) w base 28 o.type 55 i _ 2 16 Try.underlying28 i1 i2 i3 i4 rfl (by omega) v its.length _ hv p news.length c (itCells news) (itCells_len news) hc itCells_one (by simp only [maxLen]; omega) (by omega) hb
    unfold Oper.wp execOp
    simp only [ho, resolve, invoke, builtin, Sem.run_bind, Sem.run_pure, Result.andThen_ok, List.map_toArray, List.map_cons, List.map_nil, hs, hx, hr]
    refine h v' w' ?_ ⟨h3.os, h3.tape, h3.output, h3.size, fun k hk hne => h3.block k hk (fun e => hne e.symm)⟩ (fun k q => ?_)
    · unfold IR
      rw [List.length_append, itCells_append]
      exact h2
    · rcases h5 with h5 | h5
      · exact .inl (by rw [← h5]; exact q)
      · rw [h5] at q; cases q; exact .inr rfl
end Go.Proofs.Ytmafllcmkhgidaa
