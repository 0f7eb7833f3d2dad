/-
  The document's own answer for package sorted: pairs in a list without an order, in memory.
-/
import Derived.Test.YtcaddbgoeoclnaaSorted
import Derived.Deep.AppendLies
namespace Go.Proofs.Ytcaddbgoeoclnaa
open Go.RowKit Go.Sort
set_option linter.unusedVariables false
set_option linter.unusedSimpArgs false

def pairCells (R : List KV) : List Value := R.flatMap fun p => [.int .i64 p.1, .string p.2]
theorem pairCells_nil : pairCells [] = [] := rfl
theorem pairCells_append (A B : List KV) : pairCells (A ++ B) = pairCells A ++ pairCells B := by simp [pairCells]
theorem pairCells_len (R : List KV) : (pairCells R).length = R.length * 2 := by
  induction R with
  | nil => rfl
  | cons p R ih => simp [pairCells] at ih ⊢; omega
theorem pairCells_get (R : List KV) (j : Nat) (p : KV) (h : R[j]? = some p) : (pairCells R)[j * 2]? = some (.int .i64 p.1) ∧ (pairCells R)[j * 2 + 1]? = some (.string p.2) := by
  induction R generalizing j with
  | nil => cases h
  | cons q R ih =>
    cases j with
    | zero => simp at h; subst h; exact ⟨rfl, rfl⟩
    | succ j =>
      simp at h
      have := ih j h
      rw [show pairCells (q :: R) = .int .i64 q.1 :: .string q.2 :: pairCells R from rfl, show (j + 1) * 2 = j * 2 + 1 + 1 by omega]
      exact this

theorem own_keep {w w' : World} {base n s : Nat} {e : TypeId} {a : Option Addr} {cap : Nat} {xs : List Value} (h : w.ownsRow base e s (.slice a n cap) n xs) {S : Nat → Prop} (ht : Turned S w w') (hs : ∀ k, owned a k → ¬ S k) : w'.ownsRow base e s (.slice a n cap) n xs := by
  refine ⟨h.1, ?_⟩
  rcases h.2 with q | ⟨g, c, cur, e1, h2, h3, h4⟩
  · exact .inl q
  · cases e1
    exact .inr ⟨g, cap, cur, rfl, h2, by rw [Turned.block ht g (lt_of_heap h3) (hs g rfl)]; exact h3, h4⟩
theorem own_lt {w : World} {base n s : Nat} {e : TypeId} {a : Option Addr} {cap : Nat} {xs : List Value} (h : w.ownsRow base e s (.slice a n cap) n xs) : ∀ k, owned a k → k < w.heap.size := by
  intro k hk
  rcases h.2 with ⟨q, _⟩ | ⟨g, c, cur, e1, h2, h3, h4⟩
  · cases q; cases hk
  · cases e1; cases hk; exact lt_of_heap h3

theorem own_ge {w : World} {base n s : Nat} {e : TypeId} {a : Option Addr} {cap : Nat} {xs : List Value} (h : w.ownsRow base e s (.slice a n cap) n xs) : ∀ k, owned a k → base ≤ k := by
  intro k hk
  rcases h.2 with ⟨q, _⟩ | ⟨g, c, cur, e1, h2, h3, h4⟩
  · cases q; cases hk
  · cases e1; cases hk; exact h2
theorem own_zero {w : World} {base n s : Nat} {e : TypeId} {v : Value} {xs : List Value} (h : w.ownsRow base e s v n xs) : w.ownsRow 0 e s v n xs := by
  refine ⟨h.1, ?_⟩
  rcases h.2 with q | ⟨g, c, cur, e1, h2, h3⟩
  · exact .inl q
  · exact .inr ⟨g, c, cur, e1, Nat.zero_le _, h3⟩

/-- At r, in the blocks F, the pairs R. -/
structure RefAt (w : World) (F : Nat → Prop) (r : Nat) (R : List KV) : Prop where
  once : Once R
  small : R.length ≤ 100000
  lt : ∀ k, F k → k < w.heap.size
  ex : ∃ ra rc, w.heap[r]? = some (.cells #[.slice ra R.length rc] 30 (0, 0)) ∧ w.ownsRow 0 62 2 (.slice ra R.length rc) R.length (pairCells R) ∧ F r ∧ ∀ k, owned ra k → F k ∧ k ≠ r
theorem RefAt.keep {w w' : World} {F S : Nat → Prop} {r : Nat} {R : List KV} (h : RefAt w F r R) (ht : Turned S w w') (hs : ∀ k, F k → ¬ S k) : RefAt w' F r R := by
  obtain ⟨ra, rc, hr, hrow, fr, fk⟩ := h.ex
  exact ⟨h.once, h.small, fun k hk => Nat.lt_of_lt_of_le (h.lt k hk) ht.size, ra, rc, by rw [Turned.block ht r (lt_of_heap hr) (hs r fr)]; exact hr,
    own_keep hrow ht (fun k q => hs k (fk k q).1), fr, fk⟩
theorem RefAt.more {w w' : World} {F : Nat → Prop} {r : Nat} {R : List KV} (h : RefAt w F r R) (ht : More w w') : RefAt w' F r R := h.keep ht (fun _ _ q => q)
/-- How the pairs read. -/
theorem pair_reads {w : World} {R : List KV} {ra : Option Addr} {rc : Nat} (h : w.ownsRow 0 62 2 (.slice ra R.length rc) R.length (pairCells R)) (h0 : 0 < R.length) :
    ∃ g, ra = some ⟨g, 0, none⟩ ∧ g < w.heap.size ∧ (∀ j p, R[j]? = some p → w.cell? ⟨g, j * 2, none⟩ = some (.int .i64 p.1) ∧ w.cell? ⟨g, j * 2 + 1, none⟩ = some (.string p.2)) ∧ ∀ j, w.frozen? ⟨g, j, none⟩ = false := by
  rcases h.2 with ⟨_, q⟩ | ⟨g, c, cur, e1, h2, h3, h4, h5, h6, h7⟩
  · omega
  · cases e1
    refine ⟨g, rfl, lt_of_heap h3, fun j p hj => ?_, fun j => by simp [World.frozen?, h3]⟩
    have hl : j < R.length := (List.getElem?_eq_some_iff.1 hj).1
    obtain ⟨q1, q2⟩ := pairCells_get R j p hj
    rw [← h7, List.getElem?_take, if_pos (by omega)] at q1 q2
    simp [World.cell?, h3]
    simp at q1 q2
    exact ⟨q1, q2⟩
theorem cell_one {w : World} {p : Nat} {a : Value} {T : TypeId} (h : w.heap[p]? = some (.cells #[a] T (0, 0))) : w.cell? ⟨p, 0, none⟩ = some a ∧ (∀ j, w.frozen? ⟨p, j, none⟩ = false) ∧ p < w.heap.size :=
  ⟨by simp [World.cell?, h], fun j => by simp [World.frozen?, h], lt_of_heap h⟩

set_option maxHeartbeats 1000000 in
theorem at_yes (F : Nat → Prop) (r : Nat) (R A B : List KV) (k : Int) (v : ByteArray) (w : World) (h : RefAt w F r R) (hR : R = A ++ (k, v) :: B) (ha : ∀ p ∈ A, p.1 ≠ k) :
    Calls Try.prog 36 #[.pointer (some ⟨r, 0, none⟩), .int .i64 k] w fun e w' => e = .returned (.int .i64 A.length) ∧ w' = w := by
  have hs := h.small
  have hi : A.length < R.length := by rw [hR]; simp
  obtain ⟨ra, rc, hr, hrow, _⟩ := h.ex
  obtain ⟨c0, f0, hlt⟩ := cell_one hr
  obtain ⟨g, rfl, hg, hc, hf⟩ := pair_reads hrow (by omega)
  have HJ0 : ∀ j, j < A.length → ∃ z : Int, w.cell? ⟨g, j * 2, none⟩ = some (.int .i64 z) ∧ (z == k) = false := fun j hj => by
    refine ⟨A[j].1, (hc j _ (by rw [hR, List.getElem?_append_left hj, List.getElem?_eq_getElem hj])).1, ?_⟩
    have := ha A[j] (List.getElem_mem hj)
    simpa using this
  have x1 : w.cell? ⟨g, A.length * 2, none⟩ = some (.int .i64 k) := (hc A.length (k, v) (by rw [hR]; simp)).1
  have HJ := Lib.hid HJ0
  have X1 := Lib.hid x1
  clear hc hf hR ha hr hrow h HJ0 x1
  generalize R.length = n at c0 hi hs
  generalize A.length = m at HJ X1 hi ⊢
  go_enter Try.func36, Try.ntmps36
  go_wp2_with fail
  go_loop [5] (fun i => ∃ j : Nat, j ≤ m ∧ i = .int .i64 j) (fun i => m - (intOf i).toNat)
  case atStart => exact ⟨0, Nat.zero_le _, rfl⟩
  case round =>
    obtain ⟨j, hj, rfl⟩ := hrel
    by_cases hlt : j < m
    · obtain ⟨z, x1, d⟩ := HJ.out j hlt
      go_wp2_with fail
      go_round
      case rel => exact ⟨j + 1, by omega, by go_num⟩
      case measure => simp [intOf]; omega
    · obtain rfl : j = m := by omega
      have x1 := X1.out
      go_wp2_with fail
      go_ret
      exact ⟨rfl, rfl⟩
set_option maxHeartbeats 1000000 in
theorem at_none' (F : Nat → Prop) (r : Nat) (R : List KV) (k : Int) (w : World) (h : RefAt w F r R) (ha : ∀ p ∈ R, p.1 ≠ k) :
    Calls Try.prog 36 #[.pointer (some ⟨r, 0, none⟩), .int .i64 k] w fun e w' => e = .returned (.int .i64 (-1)) ∧ w' = w := by
  have hs := h.small
  obtain ⟨ra, rc, hr, hrow, _⟩ := h.ex
  obtain ⟨c0, f0, hlt⟩ := cell_one hr
  have HC0 : 0 < R.length → ∃ g, ra = some ⟨g, 0, none⟩ ∧ g < w.heap.size ∧ ∀ j p, R[j]? = some p → w.cell? ⟨g, j * 2, none⟩ = some (.int .i64 p.1) := fun h0 => by
    obtain ⟨g, e, hg, hc, hf⟩ := pair_reads hrow h0
    exact ⟨g, e, hg, fun j p hj => (hc j p hj).1⟩
  have HC := Lib.hid HC0
  have HA := Lib.hid ha
  obtain ⟨n, hn⟩ : ∃ n, n = R.length := ⟨_, rfl⟩
  rw [← hn] at c0 hs
  have HN := Lib.hid hn
  clear ha hr hrow h HC0 hn
  by_cases h0 : n = 0
  · subst h0
    go_enter Try.func36, Try.ntmps36
    go_wp2_with fail
    go_loop [5] (fun i => i = .int .i64 0) (fun i => 0)
    case atStart => rfl
    case round =>
      obtain rfl := hrel
      go_wp2_with fail
      go_ret
      exact ⟨rfl, rfl⟩
  · obtain ⟨g, rfl, hg, hc⟩ := HC.out (by rw [← HN.out]; omega)
    have HC := Lib.hid hc
    clear hc
    go_enter Try.func36, Try.ntmps36
    go_wp2_with fail
    go_loop [5] (fun i => ∃ j : Nat, j ≤ n ∧ i = .int .i64 j) (fun i => n - (intOf i).toNat)
    case atStart => exact ⟨0, Nat.zero_le _, rfl⟩
    case round =>
      obtain ⟨j, hj, rfl⟩ := hrel
      by_cases hlt : j < n
      · have hl : j < R.length := by rw [← HN.out]; exact hlt
        have x1 := HC.out j _ (List.getElem?_eq_getElem hl)
        have hne := HA.out R[j] (List.getElem_mem hl)
        have d : (R[j].1 == k) = false := by simpa using hne
        clear hne
        generalize R[j].1 = z at x1 d
        clear hl
        go_wp2_with fail
        go_round
        case rel => exact ⟨j + 1, by omega, by go_num⟩
        case measure => simp [intOf]; omega
      · obtain rfl : j = n := by omega
        go_wp2_with fail
        go_ret
        exact ⟨rfl, rfl⟩

/-- The row of pairs holds R now; only its own blocks have turned. -/
def DidRef (w : World) (F : Nat → Prop) (r : Nat) (R : List KV) (v : Value) (e : Ending) (w' : World) : Prop :=
  e = .returned v ∧ ∃ F', RefAt w' F' r R ∧ Turned F w w' ∧ ∀ k, F' k → F k ∨ w.heap.size ≤ k

set_option maxHeartbeats 1000000 in
/-- Get. -/
theorem rget_ok (F : Nat → Prop) (r : Nat) (R : List KV) (k : Int) (w : World) (h : RefAt w F r R) :
    Calls Try.prog 17 #[.pointer (some ⟨r, 0, none⟩), .int .i64 k] w fun e w' => e = .returned (.tuple #[.string ((look R k).getD ⟨#[]⟩), .bool (look R k).isSome]) ∧ w' = w := by
  cases e : look R k with
  | none =>
    have C := Lib.hid (at_none' F r R k w h (look_none_iff.1 e))
    clear h e
    go_enter Try.func17, Try.ntmps17
    go_wp2_with (go_at_call 36; refine C.out.mono ?_; rintro e w' ⟨rfl, rfl⟩)
    go_ret2
    exact ⟨rfl, rfl⟩
  | some v =>
    obtain ⟨A, B, hR, ha⟩ := part_with e
    have C := Lib.hid (at_yes F r R A B k v w h hR ha)
    have hi : A.length < R.length := by rw [hR]; simp
    obtain ⟨ra, rc, hr, hrow, _⟩ := h.ex
    obtain ⟨c0, f0, hlt⟩ := cell_one hr
    obtain ⟨g, rfl, hg, hc, hf⟩ := pair_reads hrow (by omega)
    have x1 := (hc A.length (k, v) (by rw [hR]; simp)).2
    have hs := h.small
    simp only at x1
    clear hc hf hR ha hr hrow h e
    generalize A.length = m at C x1 hi
    generalize R.length = n at c0 hi hs
    have d : decide ((m : Int) < 0) = false := by simp
    go_enter Try.func17, Try.ntmps17
    go_wp2_with (go_at_call 36; refine C.out.mono ?_; rintro e w' ⟨rfl, rfl⟩)
    go_ret2
    exact ⟨rfl, rfl⟩

theorem pair_info : ∃ i : TypeInfo, Try.prog.info? 62 = some i ∧ i.zero = some (.agg #[.int .i64 0, .string ⟨#[]⟩]) ∧ i.size = 2 ∧ i.bytes = 24 := by
  have h1 : (Try.prog.info? 62).map (·.size) = some 2 := by kernel_rfl
  have h2 : (Try.prog.info? 62).bind (·.zero) = some (.agg #[.int .i64 0, .string ⟨#[]⟩]) := by kernel_rfl
  have h3 : (Try.prog.info? 62).map (·.bytes) = some 24 := by kernel_rfl
  cases q : Try.prog.info? 62 with
  | none => rw [q] at h1; simp at h1
  | some i => rw [q] at h1 h2 h3; exact ⟨i, rfl, by simpa using h2, by simpa using h1, by simpa using h3⟩

/-- append of one pair. -/
theorem wpList_pair {ops : Array Oper} {rest : List Oper} {o : Oper} {a : Act} {Q : Exit → Act → World → Prop} {w : World} {base : Nat} {R : List KV} {ra : Option Addr} {rc : Nat} (y : KV) (hgd : o.guard = none) (s x : Operand)
    (ho : o.op = .call { callee := .builtin .append, args := #[s, x], argTypes := #[28, 28] })
    (hs : a.eval s = .slice ra R.length rc) (hn : w.ownsRow base 62 2 (.slice ra R.length rc) R.length (pairCells R)) (hbase : base ≤ w.heap.size) (hl : R.length ≤ 100000)
    (hx : a.eval x = .slice (some ⟨w.heap.size, 0, none⟩) 1 1)
    (h : ∀ ra' rc' w', w'.ownsRow base 62 2 (.slice ra' (R.length + 1) rc') (R ++ [y]).length (pairCells (R ++ [y])) → Turned (owned ra) w w' → (∀ k, owned ra' k → owned ra k ∨ w.heap.size ≤ k) →
      wpList Try.prog ops Q rest (a.put o.dst (.slice ra' (R.length + 1) rc')) w') :
    wpList Try.prog ops Q (o :: rest) a (w.alloc (.cells #[.int .i64 y.1, .string y.2] 62)) := by
  obtain ⟨i, i1, i2, i3, i4⟩ := pair_info
  have hm : More w (w.alloc (.cells #[.int .i64 y.1, .string y.2] 62)) := (More.refl w).alloc _
  have hn' := own_keep hn hm (fun _ _ q => q)
  have hB := heap_new w (.cells #[.int .i64 y.1, .string y.2] 62)
  refine wpList_append_lies _ hgd s x 28 ho base 62 i _ 2 24 Try.underlying28 i1 i2 i3 i4 rfl (by omega) _ R.length _ hs hn' ⟨w.heap.size, 0, none⟩ 1 1 [.int .i64 y.1, .string y.2] hx (by simp)
    (fun j u hu => World.news_of_block hB j u (by simpa using hu)) (by intro u hu; simp at hu; rcases hu with rfl | rfl <;> rfl) (by omega) (by simp only [maxLen]; omega) (by omega) (by simp; omega) _ rfl ?_
  intro g cap w1 hown hgrow hor hlt
  refine h _ cap w1 ?_ ?_ ?_
  · rw [pairCells_append, List.length_append]
    exact hown
  · refine ⟨hgrow.os.trans hm.os, hgrow.tape.trans hm.tape, hgrow.output.trans hm.output, Nat.le_trans hm.size hgrow.size, fun k hk hs => ?_⟩
    rw [hgrow.block k (Nat.lt_of_lt_of_le hk hm.size) (fun e => hs (by cases ra <;> simp_all [Value.ownBlock, owned]))]
    exact Turned.block hm k hk (fun q => q)
  · intro k hk
    cases hk
    rcases hor with q | q
    · refine .inl ?_
      cases ra <;> simp_all [Value.ownBlock, owned]
    · right; rw [q]; simp
end Go.Proofs.Ytcaddbgoeoclnaa
