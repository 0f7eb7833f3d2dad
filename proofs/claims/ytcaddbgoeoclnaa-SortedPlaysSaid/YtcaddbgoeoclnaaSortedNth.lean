/-
  The document's own answer for package sorted: the i-th pair.
-/
import Derived.Test.YtcaddbgoeoclnaaSortedRefPut
namespace Go.Proofs.Ytcaddbgoeoclnaa
open Go.RowKit Go.Sort
set_option linter.unusedVariables false
set_option linter.unusedSimpArgs false

theorem drewN_add (w : World) (a b : Nat) : (w.drewN a).drewN b = w.drewN (a + b) := by simp [World.drewN, Nat.add_assoc]
/-- What Nth tells. -/
def nthVal (o : Option KV) : Value := match o with
  | some p => .tuple #[.int .i64 p.1, .string p.2, .bool true]
  | none => .tuple #[.int .i64 0, .string ⟨#[]⟩, .bool false]
def cnt (R : List KV) (t : Nat) (z : Int) : Nat := (R.take t).countP (fun p => decide (p.1 < z))
theorem cnt_le (R : List KV) (t : Nat) (z : Int) : cnt R t z ≤ R.length := Nat.le_trans List.countP_le_length (by rw [List.length_take]; omega)
theorem cnt_next {R : List KV} {t : Nat} (h : t < R.length) (z : Int) : cnt R (t + 1) z = cnt R t z + if decide (R[t].1 < z) then 1 else 0 := by
  unfold cnt
  rw [List.take_add_one, List.getElem?_eq_getElem h, List.countP_append]
  simp [List.countP_cons]
theorem cnt_all (R : List KV) (z : Int) : cnt R R.length z = pos R z := by unfold cnt pos; rw [List.take_length]

set_option maxHeartbeats 2000000 in
theorem nth_ok (F : Nat → Prop) (r : Nat) (R : List KV) (i : Int) (w : World) (h : RefAt w F r R) :
    Calls Try.prog 19 #[.pointer (some ⟨r, 0, none⟩), .int .i64 i] w fun e w' => e = .returned (nthVal (nthR R i)) ∧ ∃ q, w' = w.drewN q := by
  have hs := h.small
  obtain ⟨ra, rc, hr, hrow, _⟩ := h.ex
  obtain ⟨c0, f0, hlt⟩ := cell_one hr
  have HC0 : 0 < R.length → ∃ g, ra = some ⟨g, 0, none⟩ ∧ g < w.heap.size ∧ ∀ j p, R[j]? = some p → w.cell? ⟨g, j * 2, none⟩ = some (.int .i64 p.1) ∧ w.cell? ⟨g, j * 2 + 1, none⟩ = some (.string p.2) := fun h0 => by
    obtain ⟨g, e, hg, hc, hf⟩ := pair_reads hrow h0
    exact ⟨g, e, hg, hc⟩
  have HC := Lib.hid HC0
  obtain ⟨n, hn⟩ : ∃ n, n = R.length := ⟨_, rfl⟩
  rw [← hn] at c0 hs
  have HN := Lib.hid hn
  clear hr hrow h HC0 hn
  by_cases h0 : n = 0
  · have hR : R = [] := List.length_eq_zero_iff.1 (by rw [← HN.out]; exact h0)
    subst h0 hR
    go_enter Try.func19, Try.ntmps19
    go_wp2_with fail
    go_loop [7] (fun i => i = .int .i64 0) (fun i => 0)
    case atStart => rfl
    case round =>
      obtain rfl := hrel
      go_wp2_with fail
      go_ret3
      exact ⟨rfl, 0, rfl⟩
  · obtain ⟨g, rfl, hg, hc⟩ := HC.out (by rw [← HN.out]; omega)
    have HC := Lib.hid hc
    clear hc
    go_enter Try.func19, Try.ntmps19
    go_wp2_with fail
    go_loopw [7] (fun x wr => ∃ j : Nat, j ≤ n ∧ x = .int .i64 j ∧ (∃ q, wr = w.drewN q) ∧ ∀ t p, t < j → R[t]? = some p → (pos R p.1 : Int) ≠ i) (fun x _ => n - (intOf x).toNat)
    case atStart => exact ⟨0, Nat.zero_le _, rfl, ⟨0, rfl⟩, fun t p ht => by omega⟩
    case round =>
      obtain ⟨j, hj, rfl, ⟨q, rfl⟩, hnot⟩ := hrel
      have HNOT := Lib.hid hnot
      clear hnot
      by_cases hlt : j < n
      · have hl : j < R.length := by rw [← HN.out]; exact hlt
        obtain ⟨x1, x2⟩ := HC.out j _ (List.getElem?_eq_getElem hl)
        obtain ⟨y, hy⟩ : ∃ y, y = R[j] := ⟨_, rfl⟩
        rw [← hy] at x1 x2
        have hjy : R[j]? = some y := by rw [hy]; exact List.getElem?_eq_getElem hl
        have HJ := Lib.hid hjy
        clear hy hjy hl
        obtain ⟨yk, yv⟩ := y
        simp only at x1 x2
        go_wp2_with fail
        go_loopw [8, 9] (fun s x wr => ∃ t : Nat, t ≤ n ∧ x = .int .i64 t ∧ s = .int .i64 (cnt R t yk : Nat) ∧ ∃ q, wr = w.drewN q) (fun s x _ => n - (intOf x).toNat)
        case atStart => exact ⟨0, Nat.zero_le _, rfl, rfl, q, rfl⟩
        case round =>
          obtain ⟨t, ht, rfl, rfl, q2, rfl⟩ := hrel
          have hcl := cnt_le R t yk
          rw [← HN.out] at hcl
          by_cases hlt2 : t < n
          · have hl : t < R.length := by rw [← HN.out]; exact hlt2
            have z1 := (HC.out t _ (List.getElem?_eq_getElem hl)).1
            have hnx := cnt_next hl yk
            generalize R[t].1 = z at z1 hnx
            clear hl
            cases d : decide (z < yk) with
            | true =>
              rw [d] at hnx
              have HX : Hid (cnt R (t + 1) yk = cnt R t yk + 1) := Lib.hid hnx
              clear hnx
              generalize cnt R t yk = s at hcl HX ⊢
              go_wp2_with fail
              go_quiet (fail)
              go_wp2_with fail
              go_roundw
              case rel => exact ⟨t + 1, by omega, by go_num, by rw [HX.out]; go_num, _, rfl⟩
              case measure => simp [intOf]; omega
            | false =>
              rw [d] at hnx
              have HX : Hid (cnt R (t + 1) yk = cnt R t yk) := Lib.hid hnx
              clear hnx
              generalize cnt R t yk = s at hcl HX ⊢
              go_wp2_with fail
              go_quiet (fail)
              go_wp2_with fail
              go_roundw
              case rel => exact ⟨t + 1, by omega, by go_num, by rw [HX.out], _, rfl⟩
              case measure => simp [intOf]; omega
          · obtain rfl : t = n := by omega
            have hall : cnt R t yk = pos R yk := by rw [← cnt_all, HN.out]
            rw [hall] at hcl ⊢
            clear hall
            cases d : ((pos R yk : Int) == i) with
            | true =>
              have FIN : Hid (nthR R i = some (yk, yv)) := Lib.hid (by
                unfold nthR
                rw [List.find?_eq_some_iff_getElem]
                have hj' : j < R.length := by rw [← HN.out]; exact hlt
                refine ⟨by simpa using d, j, hj', by have := HJ.out; rw [List.getElem?_eq_getElem hj'] at this; simpa using this, fun a ha => ?_⟩
                have := HNOT.out a _ ha (List.getElem?_eq_getElem (by omega))
                simpa using this)
              generalize pos R yk = s at hcl d ⊢
              go_wp2_with fail
              go_quiet (fail)
              go_wp2_with fail
              go_ret3
              rw [FIN.out]
              exact ⟨rfl, _, drewN_add _ _ _⟩
            | false =>
              have FIN : Hid (∀ t p, t < j + 1 → R[t]? = some p → (pos R p.1 : Int) ≠ i) := Lib.hid (fun t p ht hp => by
                by_cases e : t = j
                · subst e
                  have := HJ.out
                  rw [hp] at this
                  cases this
                  simpa using d
                · exact HNOT.out t p (by omega) hp)
              generalize pos R yk = s at hcl d ⊢
              go_wp2_with fail
              go_roundw
              case rel => exact ⟨j + 1, by omega, by go_num, ⟨_, rfl⟩, FIN.out⟩
              case measure => simp [intOf]; omega
      · obtain rfl : j = n := by omega
        have FIN : Hid (nthR R i = none) := Lib.hid (by
          unfold nthR
          rw [List.find?_eq_none]
          intro p hp
          obtain ⟨a, ha, rfl⟩ := List.getElem_of_mem hp
          have := HNOT.out a _ (by rw [HN.out]; exact ha) (List.getElem?_eq_getElem ha)
          simpa using this)
        go_wp2_with fail
        go_ret3
        rw [FIN.out]
        exact ⟨rfl, _, rfl⟩
end Go.Proofs.Ytcaddbgoeoclnaa
