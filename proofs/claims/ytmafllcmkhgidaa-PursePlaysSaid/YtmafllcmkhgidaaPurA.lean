/-
  The landed package purse: rows that stand and are read, and how many of a class a purse has.
-/
import Derived.Test.YtmafllcmkhgidaaInts
import Derived.Test.YtmafllcmkhgidaaBase
import Derived.Deep.AppendSrc
import Derived.Laws.AppendOwnNone
namespace Go.Proofs.Ytmafllcmkhgidaa
open Go.RowKit
set_option linter.unusedVariables false
set_option linter.unusedSimpArgs false

theorem en1 (w : World) (o0 : Obj) : ∃ w1, w.alloc o0 = w1 ∧ w1.heap[w.heap.size]? = some o0 ∧ More w w1 ∧ w1.heap.size = w.heap.size + 1 := ⟨_, rfl, heap_new w o0, (More.refl _).alloc _, by simp⟩
theorem en2 (w : World) (o0 o1 : Obj) : ∃ w2, (w.alloc o0).alloc o1 = w2 ∧ w2.heap[w.heap.size]? = some o0 ∧ w2.heap[w.heap.size + 1]? = some o1 ∧ More w w2 ∧ w2.heap.size = w.heap.size + 2 := by
  obtain ⟨w1, e1, h0, m0, s0⟩ := en1 w o0
  rw [e1]
  obtain ⟨w2, e2, h1, m1, s1⟩ := en1 w1 o1
  rw [s0] at h1
  exact ⟨w2, e2, m1.block h0, h1, m0.trans m1, by omega⟩

/-- A row of integers, in whatever block it stands: how it reads. -/
def Rd (w : World) (v : Value) (xs : List Int) : Prop :=
  ∃ a cap, v = .slice a xs.length cap ∧ xs.length ≤ cap ∧ cap ≤ maxLen ∧ ((a = none ∧ cap = 0) ∨ ∃ g cur, a = some ⟨g, 0, none⟩ ∧ w.heap[g]? = some (.cells cur 3 (0, 0)) ∧ cap ≤ cur.size ∧ cur.toList.take xs.length = xs.map (Value.int .i64))
namespace Rd
variable {w w' : World} {v : Value} {xs : List Int}
theorem nil (w : World) : Rd w (.slice none 0 0) [] := ⟨none, 0, rfl, Nat.le_refl _, Nat.zero_le _, .inl ⟨rfl, rfl⟩⟩
theorem keep (h : Rd w v xs) {S : Nat → Prop} (t : Turned S w w') (hs : ∀ k, S k → ∃ cs T fr, w.heap[k]? = some (.cells cs T fr) ∧ T ≠ 3) : Rd w' v xs := by
  obtain ⟨a, cap, hv, h1, h2, q⟩ := h
  refine ⟨a, cap, hv, h1, h2, q.imp id ?_⟩
  rintro ⟨g, cur, rfl, hg, r⟩
  refine ⟨g, cur, rfl, ?_, r⟩
  rw [t.block g (lt_of_heap hg) (fun q => by
    obtain ⟨cs, T, fr, e, hne⟩ := hs g q
    rw [hg] at e; cases e; exact hne rfl)]
  exact hg
theorem more (h : Rd w v xs) (m : More w w') : Rd w' v xs := h.keep m (fun _ q => q.elim)
theorem of_rw {base : Nat} (h : Rw base w v xs) : Rd w v xs := by
  rcases h.2 with ⟨rfl, h0⟩ | ⟨g, cap, cur, rfl, _, hg, h1, h2, hs, ht⟩
  · have : xs = [] := List.length_eq_zero_iff.1 h0
    subst this; exact nil w
  · exact ⟨_, cap, rfl, h1, h2, .inr ⟨g, cur, rfl, hg, by omega, by simpa using ht⟩⟩
theorem one (h : Rd w v xs) : v.oneCell' = true := by obtain ⟨a, cap, rfl, _⟩ := h; rfl
theorem news (h : Rd w v xs) : ∃ a cap, v = .slice a xs.length cap ∧ ∀ p, a = some p → ∀ j u, (xs.map (Value.int .i64))[j]? = some u → w.cell? (p.add j) = some u := by
  obtain ⟨a, cap, rfl, h1, h2, q⟩ := h
  refine ⟨a, cap, rfl, fun p hp j u hj => ?_⟩
  rcases q with ⟨rfl, rfl⟩ | ⟨g, cur, rfl, hg, hc, ht⟩
  · cases hp
  · cases hp
    rw [addr_add]
    have hj' := (List.getElem?_eq_some_iff.1 hj).1
    simp at hj'
    rw [← ht, List.getElem?_take, if_pos hj'] at hj
    simp [World.cell?, hg]
    simpa using hj
/-- A cell of it. -/
theorem cell (h : Rd w v xs) : ∃ a cap, v = .slice a xs.length cap ∧ xs.length ≤ cap ∧ ∀ k, k < xs.length → ∃ g, a = some ⟨g, 0, none⟩ ∧ w.cell? ⟨g, k, none⟩ = some (.int .i64 (xs.getD k 0)) := by
  obtain ⟨a, cap, hv, h1, h2, q⟩ := h
  refine ⟨a, cap, hv, h1, fun k hk => ?_⟩
  rcases q with ⟨rfl, rfl⟩ | ⟨g, cur, rfl, hg, hc, ht⟩
  · omega
  · refine ⟨g, rfl, ?_⟩
    have e : (cur.toList.take xs.length)[k]? = some (.int .i64 (xs.getD k 0)) := by rw [ht]; simp [List.getElem?_eq_getElem hk]
    rw [List.getElem?_take, if_pos hk] at e
    simp [World.cell?, hg]
    simpa using e
/-- The first n of it, with the limit n. -/
theorem first (h : Rd w v xs) {n : Nat} (hn : n ≤ xs.length) : ∃ a, (∃ cap, v = .slice a xs.length cap ∧ n ≤ cap ∧ (a = none → cap = 0)) ∧ Rd w (.slice a n n) (xs.take n) := by
  obtain ⟨a, cap, rfl, h1, h2, q⟩ := h
  have hl : (xs.take n).length = n := by simp; omega
  refine ⟨a, ⟨cap, rfl, by omega, ?_⟩, a, n, by rw [hl], by omega, by omega, ?_⟩
  · rintro rfl
    rcases q with q | ⟨g, cur, e, _⟩
    · exact q.2
    · cases e
  · rcases q with ⟨rfl, rfl⟩ | ⟨g, cur, rfl, hg, hc, ht⟩
    · exact .inl ⟨rfl, by omega⟩
    · refine .inr ⟨g, cur, rfl, hg, by omega, ?_⟩
      rw [hl, List.map_take, ← ht, List.take_take, Nat.min_eq_left hn]
end Rd

/-- The cells of a purse. -/
def puA (f : Nat → Value) : Array Value := #[f 0, f 1, f 2, f 3, f 4]
theorem puA_at (f : Nat → Value) {c : Nat} (hc : c < 5) : (puA f)[c]? = some (f c) := by
  match c, hc with
  | 0, _ => rfl
  | 1, _ => rfl
  | 2, _ => rfl
  | 3, _ => rfl
  | 4, _ => rfl
def putF (f : Nat → Value) (c : Nat) (v : Value) : Nat → Value := fun k => if k = c then v else f k
theorem puA_set (f : Nat → Value) {c : Nat} (hc : c < 5) (v : Value) : (puA f).setIfInBounds c v = puA (putF f c v) := by
  match c, hc with
  | 0, _ => rfl
  | 1, _ => rfl
  | 2, _ => rfl
  | 3, _ => rfl
  | 4, _ => rfl
/-- A purse whose class c has the addresses P c. -/
def Pu (w : World) (f : Nat → Value) (P : Nat → List Int) : Prop := ∀ c, c < 5 → Rd w (f c) (P c)
theorem Pu.more {w w' : World} {f : Nat → Value} {P : Nat → List Int} (h : Pu w f P) (m : More w w') : Pu w' f P := fun c hc => (h c hc).more m
theorem Pu.keep {w w' : World} {f : Nat → Value} {P : Nat → List Int} (h : Pu w f P) {S : Nat → Prop} (t : Turned S w w') (hs : ∀ k, S k → ∃ cs T fr, w.heap[k]? = some (.cells cs T fr) ∧ T ≠ 3) : Pu w' f P := fun c hc => (h c hc).keep t hs
theorem Pu.all1 {w : World} {f : Nat → Value} {P : Nat → List Int} (h : Pu w f P) : (puA f).all (·.oneCell') = true := by
  simp [puA, (h 0 (by omega)).one, (h 1 (by omega)).one, (h 2 (by omega)).one, (h 3 (by omega)).one, (h 4 (by omega)).one]
theorem puA_cell {w : World} {g : Nat} {f : Nat → Value} {T : TypeId} (h : w.heap[g]? = some (.cells (puA f) T (0, 0))) {c : Nat} (hc : c < 5) : w.cell? ⟨g, c, none⟩ = some (f c) := by
  rw [cell_of_row w _ _ _ _ _ h]; exact puA_at f hc

def clsB (c : Int) : Bool := decide (0 ≤ c) && decide (c < 5)
theorem clsB_nat {c : Int} (h : clsB c = true) : ∃ k : Nat, c = k ∧ k < 5 := by
  simp [clsB] at h
  exact ⟨c.toNat, by omega, by omega⟩
theorem clsB_of {k : Nat} (h : k < 5) : clsB k = true := by simp [clsB]; omega
theorem p_class (c : Int) (w : World) : Calls Try.prog 19 #[.int .i64 c] w (Gives w (.bool (clsB c))) := by
  by_cases h0 : 0 ≤ c
  · have d0 : decide (0 ≤ c) = true := by simp [h0]
    go_enter Try.func19, Try.ntmps19
    go_wp2_with fail
    go_ret
    exact ⟨by simp [clsB, d0], More.refl _⟩
  · have d0 : decide (0 ≤ c) = false := by simp; omega
    go_enter Try.func19, Try.ntmps19
    go_wp2_with fail
    go_ret
    exact ⟨by simp [clsB, d0], More.refl _⟩

/-- How many of a class. -/
def lenC (P : Nat → List Int) (c : Int) : Int := if clsB c then (P c.toNat).length else 0
theorem p_Len (f : Nat → Value) (P : Nat → List Int) (c : Int) (w : World) (h : Pu w f P) : Calls Try.prog 17 #[.agg (puA f), .int .i64 c] w (Gives w (.int .i64 (lenC P c))) := by
  obtain ⟨w1, e1, hl1, m1, s1⟩ := en1 w (.cells (puA f) 27)
  have L0 := Lib.hid hl1
  have M1 := Lib.hid m1
  have HP := Lib.hid (h.more m1)
  clear m1 h s1
  cases hc : clsB c with
  | false =>
    have C := Lib.hid (fun W => p_class c W)
    rw [hc] at C
    have FIN : lenC P c = 0 := by simp [lenC, hc]
    rw [FIN]
    clear hc FIN hl1 HP
    go_enter Try.func17, Try.ntmps17
    go_wp2_with fail
    refine (C.out w1).mono ?_
    rintro e w2 ⟨rfl, h2⟩
    have M2 := Lib.hid (M1.out.trans h2)
    clear h2
    go_wp2_with fail
    go_ret
    exact ⟨rfl, M2.out⟩
  | true =>
    obtain ⟨k, rfl, hk⟩ := clsB_nat hc
    have C := Lib.hid (fun W => p_class k W)
    rw [hc] at C
    have FIN : lenC P k = (P k).length := by simp [lenC, hc]
    rw [FIN]
    have hm := Lib.hid hk
    obtain ⟨a, cap, hf, _, _⟩ := HP.out k hk
    have X : Hid (∀ W, More w1 W → W.cell? ⟨w.heap.size, k, none⟩ = some (.slice a (P k).length cap)) := Lib.hid fun W hW => (puA_cell (hW.block L0.out) hk).trans (by rw [hf])
    clear hc FIN hl1 HP hf
    go_enter Try.func17, Try.ntmps17
    go_wp2_with fail
    refine (C.out w1).mono ?_
    rintro e w2 ⟨rfl, h2⟩
    have M2 := Lib.hid (M1.out.trans h2)
    have x1 := X.out w2 h2
    clear h2
    go_wp2_with fail
    go_ret
    exact ⟨rfl, M2.out⟩

/-- append of one integer to a row without room: a new row. -/
theorem wpList_grow {ops : Array Oper} {rest : List Oper} {o : Oper} {a : Act} {Q : Exit → Act → World → Prop} {w : World} {b : Option Addr} {xs : List Int} (y : Int) (n : Nat) (hgd : o.guard = none) (s x : Operand)
    (ho : o.op = .call { callee := .builtin .append, args := #[s, x], argTypes := #[24, 24] })
    (hs : a.eval s = .slice b n n) (hn : Rd w (.slice b n n) xs) (hl : xs.length ≤ 1000000) (hnl : xs.length = n)
    (hx : a.eval x = .slice (some ⟨w.heap.size, 0, none⟩) 1 1)
    (h : ∀ g cap w', w.heap.size ≤ g → Rd w' (.slice (some ⟨g, 0, none⟩) (n + 1) cap) (xs ++ [y]) → More w w' → wpList Try.prog ops Q rest (a.put o.dst (.slice (some ⟨g, 0, none⟩) (n + 1) cap)) w') : wpList Try.prog ops Q (o :: rest) a (w.alloc (.cells #[.int .i64 y] 3)) := by
  obtain ⟨i, i1, i2, i3, i4⟩ := int_info
  have hn' := hn.more ((More.refl w).alloc (.cells #[.int .i64 y] 3))
  have hW : More w (w.alloc (.cells #[.int .i64 y] 3)) := (More.refl w).alloc _
  have hB := heap_new w (.cells #[.int .i64 y] 3)
  have hsz : w.heap.size ≤ (w.alloc (.cells #[.int .i64 y] 3)).heap.size := by simp
  generalize w.alloc (.cells #[.int .i64 y] 3) = w1 at hn' hB hW hsz ⊢
  refine wpList_plain hgd fun K hK => ?_
  have hsrc : Src Try.prog i.size 24 (.slice (some ⟨w.heap.size, 0, none⟩) 1 1) 1 [.int .i64 y] w1 := Src.ofSlice w1 Try.underlying24 _ 1 1 _ (by simp [i3]) (fun j u hu => World.news_of_block hB j u (by simpa using hu)) (by intro u hu; simp at hu; subst hu; rfl)
  obtain ⟨a', cap', e', hnews⟩ := hn'.news
  have hold : (Builtin.firstCells i.size n (.slice b n n)).run Try.prog w1.drew = .ok (xs.map (Value.int .i64)).toArray w1.drew := by
    cases b with
    | none =>
      obtain ⟨a0, c0, q1, q2, q3, q4⟩ := hn
      cases q1
      rcases q4 with ⟨_, q⟩ | ⟨g, cur, q, _⟩
      · have : xs = [] := List.length_eq_zero_iff.1 (by omega)
        subst this
        exact run_firstCells_none _ _ _ _ _
      · cases q
    | some p =>
      cases e'
      exact run_firstCells_some w1.drew i.size _ p _ _ _ (by simp [i3]) (fun j u hu => by rw [World.cell?_of_block (w := w1) (w' := w1.drew) rfl]; exact hnews p rfl j u hu)
  have hr := run_append_grow_src (P := Try.prog) w1 24 24 o.type 3 i _ Try.underlying24 i1 i2 b n n _ hold _ 1 _ hsrc (by omega) (by omega) (growslice_fits (by omega) (by rw [i4]; omega))
  unfold Oper.wp execOp
  simp only [ho, resolve, invoke, builtin, Sem.run_bind, Sem.run_pure, Result.andThen_ok, List.map_toArray, List.map_cons, List.map_nil, hs, hx, hr]
  refine hK _ _ (h w1.heap.size _ _ hsz ?_ ((hW.drew).alloc _))
  have hge := grownCap_ge w1 (n + 1) n 3
  have hle := grownCap_le_maxLen w1 (n + 1) n 3 (by simp only [maxLen]; omega)
  refine ⟨_, _, by rw [List.length_append, hnl]; rfl, by simp [hnl]; omega, hle, .inr ⟨_, _, rfl, heap_new w1.drew _, ?_, ?_⟩⟩
  · simp [size_zeroCells, Value.cells, hnl]; omega
  · have e2 : (xs ++ [y]).length = (xs.map (Value.int .i64) ++ [Value.int .i64 y]).length := by simp
    have e3 : (xs ++ [y]).map (Value.int .i64) = xs.map (Value.int .i64) ++ [.int .i64 y] := by simp
    rw [Array.toList_append, e3, e2]
    exact List.take_left' rfl
/-- append of a row to a row of the call's own. -/
theorem wpList_pushes {ops : Array Oper} {rest : List Oper} {o : Oper} {a : Act} {Q : Exit → Act → World → Prop} {w wa : World} {v u : Value} {xs ys : List Int} (hgd : o.guard = none) (s x : Operand)
    (ho : o.op = .call { callee := .builtin .append, args := #[s, x], argTypes := #[24, 24] })
    (hs : a.eval s = v) (hn : Rw wa.heap.size w v xs) (hW : More wa w) (hl : xs.length + ys.length ≤ 1000000)
    (hx : a.eval x = u) (hu : Rd w u ys)
    (h : ∀ v' w', Rw wa.heap.size w' v' (xs ++ ys) → More wa w' → wpList Try.prog ops Q rest (a.put o.dst v') w') : wpList Try.prog ops Q (o :: rest) a w := by
  obtain ⟨i, i1, i2, i3, i4⟩ := int_info
  obtain ⟨ad, cap, rfl, hnews⟩ := hu.news
  cases ad with
  | none =>
    have : ys = [] ∧ cap = 0 := by
      obtain ⟨a0, c0, q1, q2, q3, q4⟩ := hu
      cases q1
      rcases q4 with ⟨_, q⟩ | ⟨g, cur, q, _⟩
      · exact ⟨List.length_eq_zero_iff.1 (by omega), q⟩
      · cases q
    obtain ⟨rfl, rfl⟩ := this
    refine wpList_append_own_none hgd s x 24 ho wa.heap.size 3 i 1 Try.underlying24 i1 v xs.length _ hs hn hx ?_
    have := h v w (by simpa using hn) hW
    exact this
  | some p =>
    refine wpList_append_own_at (P := Try.prog) w hgd s x 24 ho wa.heap.size 3 i _ 1 8 Try.underlying24 i1 i2 i3 i4 rfl (by omega) v xs.length _ hs hn p ys.length cap (ys.map (Value.int .i64)) hx (by simp)
      (hnews p rfl) (by intro u hu; obtain ⟨y, _, rfl⟩ := List.mem_map.1 hu; rfl) (by simp only [maxLen]; omega) (by omega) hW.size ?_
    intro v' w1 hown hgrow _ _
    refine h v' w1 ?_ (more_of_grown hW hn hgrow)
    unfold Rw
    rw [List.length_append, List.map_append]
    exact hown
end Go.Proofs.Ytmafllcmkhgidaa
