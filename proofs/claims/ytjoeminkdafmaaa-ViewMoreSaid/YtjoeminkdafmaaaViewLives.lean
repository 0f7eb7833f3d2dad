/-
  Layer 7's statements: two rows of pairs that are the same; the example that each statement ends with.
-/
import Derived.Test.YtjoeminkdafmaaaViewProg
import Derived.Deep.DeepMust
import Derived.Laws.StructEq
namespace Go.Proofs.Ytjoeminkdafmaaa
open Go.RowKit Go.Sort Go.Maps Go.Shelf
set_option linter.unusedVariables false
set_option linter.unusedSimpArgs false

set_option maxRecDepth 100000 in
set_option maxHeartbeats 2000000 in
theorem pairs_same (ps : List KV) (a1 a2 : Option Addr) (c1 c2 : Nat) (w : World) (hl : ps.length ≤ 1000000) (h1 : IsPairs w a1 ps) (h2 : IsPairs w a2 ps) :
    Calls Try.prog 12 #[.slice a1 ps.length c1, .slice a2 ps.length c2] w (Gives w (.bool true)) := by
  have H1 := Lib.hid h1
  have H2 := Lib.hid h2
  have HM : Hid (More w w) := More.refl w
  clear h1 h2
  go_enter Try.func12, Try.ntmps12
  go_wp2_with fail
  go_loopw [5] (fun i wr => ∃ k : Nat, k ≤ ps.length ∧ i = .int .i64 k ∧ More w wr) (fun i _ => ps.length - (intOf i).toNat)
  case atStart => exact ⟨0, Nat.zero_le _, rfl, HM.out⟩
  case round =>
    obtain ⟨k, hk, rfl, ht⟩ := hrel
    have Ht := Lib.hid ht
    clear ht
    by_cases hlt : k < ps.length
    · obtain ⟨⟨x, y⟩, hp⟩ : ∃ p, ps[k]? = some p := ⟨_, List.getElem?_eq_getElem hlt⟩
      obtain ⟨s1, o1, rfl, hs1, hc1⟩ := (H1.out.more Ht.out).resolve_left (by intro q; rw [q] at hlt; simp at hlt)
      obtain ⟨s2, o2, rfl, hs2, hc2⟩ := (H2.out.more Ht.out).resolve_left (by intro q; rw [q] at hlt; simp at hlt)
      obtain ⟨x1, y1⟩ := hc1 k _ hp
      obtain ⟨x2, y2⟩ := hc2 k _ hp
      simp only at x1 y1 x2 y2
      clear hc1 hc2 hp
      go_wp2_with fail
      go_quiet (fail)
      go_wp2_with fail
      go_roundw
      case rel => exact ⟨k + 1, by omega, by go_num, Ht.out.drewN _⟩
      case measure => simp [intOf]; omega
    · go_wp2_with fail
      go_ret
      exact ⟨rfl, Ht.out⟩

def liveL : List Ins3 := [(0, 1, 0), (2, 2, 0)]
theorem live_need : runP (look []) liveL false 0 [] = .need 1 := rfl
theorem live_done : runP (look [(1, 7)]) liveL false 0 [] = .done [(2, 7)] := rfl
theorem live_ok : OkP liveL := by
  intro i hi
  simp [liveL] at hi
  rcases hi with rfl | rfl <;> exact ⟨by unfold W64; decide, by unfold W64; decide⟩
theorem live_ins (w : World) (b : Nat) (h : w.heap[b]? = some (.cells #[.int .i64 0, .int .i64 1, .int .i64 0, .int .i64 2, .int .i64 2, .int .i64 0] 50 (0, 0))) : IsIns w (some ⟨b, 0, none⟩) liveL := by
  refine .inr ⟨b, 0, rfl, lt_of_heap h, fun i t ht => ?_⟩
  match i, ht with
  | 0, ht => cases ht; simp [World.cell?, h]
  | 1, ht => cases ht; simp [World.cell?, h]
  | i + 2, ht => simp [liveL] at ht
theorem live_pairs (w : World) (b : Nat) (h : w.heap[b]? = some (.cells #[.int .i64 1, .int .i64 7] 47 (0, 0))) : IsPairs w (some ⟨b, 0, none⟩) [(1, 7)] := by
  refine .inr ⟨b, 0, rfl, lt_of_heap h, fun i t ht => ?_⟩
  match i, ht with
  | 0, ht => cases ht; simp [World.cell?, h]
  | i + 1, ht => simp at ht

set_option maxRecDepth 100000 in
set_option maxHeartbeats 2000000 in
theorem lives_ok (w : World) : Calls Try.prog 9 #[] w (Gives w (.bool true)) := by
  have hb := heap_new w (.cells #[.int .i64 0, .int .i64 1, .int .i64 0, .int .i64 2, .int .i64 2, .int .i64 0] 50)
  have M0 : More w (w.alloc (.cells #[.int .i64 0, .int .i64 1, .int .i64 0, .int .i64 2, .int .i64 2, .int .i64 0] 50)) := (More.refl w).alloc _
  have HB := Lib.hid hb
  have HM := Lib.hid M0
  have hsz : w.heap.size < (w.alloc (.cells #[.int .i64 0, .int .i64 1, .int .i64 0, .int .i64 2, .int .i64 2, .int .i64 0] 50)).heap.size := by simp
  clear hb M0
  go_enter Try.func9, Try.ntmps9
  go_wp2_with fail
  generalize w.alloc (.cells #[.int .i64 0, .int .i64 1, .int .i64 0, .int .i64 2, .int .i64 2, .int .i64 0] 50) = w1 at HB HM hsz ⊢
  have R1 := Lib.hid (lruns_ok none (some ⟨w.heap.size, 0, none⟩) 0 2 [] liveL (.need 1) w1 (.inl rfl) (live_ins w1 _ HB.out) (by simp) (by simp [liveL]) (fun p h => by cases h) live_ok live_need)
  refine R1.out.mono ?_
  rintro e w2 ⟨rfl, m2⟩
  have HM2 := Lib.hid m2
  have hp := heap_new w2 (.cells #[.int .i64 1, .int .i64 7] 47)
  have M3 : More w2 (w2.alloc (.cells #[.int .i64 1, .int .i64 7] 47)) := (More.refl w2).alloc _
  have HP := Lib.hid hp
  have HM3 := Lib.hid M3
  clear hp M3 m2 R1
  go_wp2_with fail
  generalize w2.alloc (.cells #[.int .i64 1, .int .i64 7] 47) = w3 at HP HM3 ⊢
  have R2 := Lib.hid (lruns_ok (some ⟨w2.heap.size, 0, none⟩) (some ⟨w.heap.size, 0, none⟩) 1 2 [(1, 7)] liveL (.done [(2, 7)]) w3 (live_pairs w3 _ HP.out) (live_ins w3 _ ((HM2.out.trans HM3.out).block HB.out)) (by simp) (by simp [liveL]) (fun p h => by simp at h; subst h; exact ⟨by unfold W64; omega, by unfold W64; omega⟩) live_ok live_done)
  refine R2.out.mono ?_
  rintro e w4 ⟨v, rfl, hr, m4⟩
  obtain ⟨a, cap, rfl, hv, _⟩ := hr.reads
  obtain ⟨s, o, rfl, hs, hc⟩ := hv.resolve_left (by simp)
  obtain ⟨c0, c1⟩ := hc 0 (2, 7) rfl
  simp only [Nat.zero_mul, Nat.add_zero, List.length_singleton] at c0 c1
  have FIN := Lib.hid ((HM.out.trans HM2.out).trans (HM3.out.trans m4))
  clear hr m4 hv hc R2
  go_wp2_with fail
  go_ret
  exact ⟨rfl, FIN.out⟩
end Go.Proofs.Ytjoeminkdafmaaa
