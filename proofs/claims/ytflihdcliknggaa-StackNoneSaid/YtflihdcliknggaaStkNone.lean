/-
  Layer 12's statement that at no word, and with no limit, there is no stack.
-/
import Derived.Test.YtflihdcliknggaaStkLives
namespace Go.Proofs.Ytflihdcliknggaa
open Go.RowKit Go.Sort Go.Maps Go.Shelf
set_option linter.unusedVariables false
set_option linter.unusedSimpArgs false

set_option maxRecDepth 100000 in
theorem st_All0 (b l : Int) (h : stThere b l = false) (v : Value) (w : World) : Calls Try.prog 12 #[v, .int .i64 b, .int .i64 l] w (Gives w (.slice none 0 0)) := by
  have K0 := Lib.hid (fun w' => st_kept0 b l h v w')
  have hm : ∀ x y : Value, More w ((w.alloc (.cells #[x, y] 52))) := fun x y => (More.refl w).alloc _
  clear h
  go_enter Try.func12, Try.ntmps12
  go_wp2_with fail
  refine (K0.out _).mono ?_
  rintro e w2 ⟨rfl, h2⟩
  have M2 := Lib.hid (((More.refl w).alloc _).trans h2)
  clear h2 hm
  go_wp2_with fail
  go_loopw [16, 8] (fun i v8 wr => i = .int .i64 0 ∧ v8 = .slice none 0 0 ∧ More w wr) (fun _ _ _ => 0)
  case atStart => exact ⟨rfl, rfl, M2.out⟩
  case round =>
    obtain ⟨rfl, rfl, ht⟩ := hrel
    have HT := Lib.hid ht
    clear ht
    go_wp2_with fail
    go_ret
    exact ⟨rfl, HT.out⟩
structure NoB (g1 g2 g3 g4 g5 g6 : Nat) (a l x : Int) (w : World) : Prop where
  h1 : BoxN g1 w a
  h2 : BoxN g2 w l
  h3 : BoxN g3 w x
  h4 : BoxB g4 w false
  h5 : BoxB g5 w false
  h6 : BoxN g6 w 0
theorem NoB.more {g1 g2 g3 g4 g5 g6 : Nat} {a l x : Int} {w w' : World} (h : NoB g1 g2 g3 g4 g5 g6 a l x w) (m : More w w') : NoB g1 g2 g3 g4 g5 g6 a l x w' :=
  ⟨m.block h.h1, m.block h.h2, m.block h.h3, m.block h.h4, m.block h.h5, m.block h.h6⟩
def NoS (g1 g2 g3 g4 g5 g6 k : Nat) : Prop := k = g1 ∨ k = g2 ∨ k = g3 ∨ k = g4 ∨ k = g5 ∨ k = g6
theorem NoB.keep {g1 g2 g3 g4 g5 g6 : Nat} {a l x : Int} {w w' : World} {S : Nat → Prop} (h : NoB g1 g2 g3 g4 g5 g6 a l x w) (t : Turned S w w') (n : ∀ k, NoS g1 g2 g3 g4 g5 g6 k → ¬ S k) : NoB g1 g2 g3 g4 g5 g6 a l x w' :=
  ⟨kept_one t h.h1 (n _ (.inl rfl)), kept_one t h.h2 (n _ (.inr (.inl rfl))), kept_one t h.h3 (n _ (.inr (.inr (.inl rfl)))), kept_one t h.h4 (n _ (.inr (.inr (.inr (.inl rfl))))), kept_one t h.h5 (n _ (.inr (.inr (.inr (.inr (.inl rfl)))))), kept_one t h.h6 (n _ (.inr (.inr (.inr (.inr (.inr rfl))))))⟩
theorem NoB.lt {g1 g2 g3 g4 g5 g6 : Nat} {a l x : Int} {w : World} (h : NoB g1 g2 g3 g4 g5 g6 a l x w) {k : Nat} (q : NoS g1 g2 g3 g4 g5 g6 k) : k < w.heap.size := by
  rcases q with rfl | rfl | rfl | rfl | rfl | rfl
  · exact lt_of_heap h.h1
  · exact lt_of_heap h.h2
  · exact lt_of_heap h.h3
  · exact lt_of_heap h.h4
  · exact lt_of_heap h.h5
  · exact lt_of_heap h.h6

set_option maxRecDepth 100000 in
set_option maxHeartbeats 2000000 in
theorem none_clo (a l x : Int) (h : stThere a l = false) (F : Nat → Prop) (p g1 g2 g3 g4 g5 g6 : Nat) (kn : Int → Option Int) (W : World) (hv : ViewAt W F p kn []) (hY : NoB g1 g2 g3 g4 g5 g6 a l x W) :
    Calls Try.prog 8 #[.pointer (some ⟨p, 0, none⟩), .pointer (some ⟨g1, 0, none⟩), .pointer (some ⟨g2, 0, none⟩), .pointer (some ⟨g3, 0, none⟩), .pointer (some ⟨g4, 0, none⟩), .pointer (some ⟨g5, 0, none⟩), .pointer (some ⟨g6, 0, none⟩)] W (WentY W F (fun _ => False) (fun w' => NoB g1 g2 g3 g4 g5 g6 a l x w') (fun _ => True) p kn (.done [])) := by
  have PU := Lib.hid (fun v w => st_Push0 a l x h v w)
  have PO := Lib.hid (fun v w => st_Pop0 a l h v w)
  have LE := Lib.hid (fun v w => st_Len0 a l h v w)
  have AL := Lib.hid (fun v w => st_All0 a l h v w)
  have HV := Lib.hid hv
  have HY := Lib.hid hY
  have c1 := (box_cells hY.h1).1
  have c2 := (box_cells hY.h2).1
  have c3 := (box_cells hY.h3).1
  clear h hv hY
  go_enter Try.func8, Try.ntmps8
  go_wp2_with fail
  refine (PU.out _ _).mono ?_
  rintro e w1 ⟨rfl, m1⟩
  have Y1 := HY.out.more m1
  have M1 := Lib.hid m1
  have d1 := (box_cells Y1.h1).1
  have d2 := (box_cells Y1.h2).1
  obtain ⟨d3, d4, _⟩ := box_cells Y1.h4
  have n1 := set_noop Y1.h4
  have Y1 := Lib.hid Y1
  clear m1 c1 c2 c3
  go_wp2_with fail
  refine (PO.out _ _).mono ?_
  rintro e w2 ⟨rfl, m2⟩
  have Y2 := Y1.out.more m2
  have M2 := Lib.hid (M1.out.trans m2)
  have c1 := (box_cells Y2.h1).1
  have c2 := (box_cells Y2.h2).1
  obtain ⟨c3, c4, _⟩ := box_cells Y2.h5
  have n2 := set_noop Y2.h5
  have Y2 := Lib.hid Y2
  clear m2 d1 d2 d3 d4 n1
  go_wp2_with fail
  refine wp_region_more_tail 10 (by kernel_rfl) (by kernel_rfl) ?_
  simp only [List.take_succ_cons, List.take_zero, List.drop_succ_cons, List.drop_zero]
  iterate 10
    with_reducible refine wpQuiet_step (fun K hK => ?_)
    go_simp
    first
    | (refine hK _ ?_; clear hK K)
    | (apply Exists.intro
       refine ⟨fun W hW => ?_, hK _ ?_⟩
       first
       | (go_at_call 11; exact Calls.more hW (LE.out _ W))
       | (go_at_call 12; exact Calls.more hW (AL.out _ W))
       | (have c1' := hW.cell c1; have c2' := hW.cell c2; go_simp; try rfl)
       clear hK K)
  refine wpQuiet_nil ?_
  intro w3 m3
  have Y3 := Y2.out.more m3
  obtain ⟨d3, d4, _⟩ := box_cells Y3.h6
  have n3 := set_noop Y3.h6
  have M3 := M2.out.trans m3
  have FIN : Hid (WentY W F (fun _ => False) (fun w' => NoB g1 g2 g3 g4 g5 g6 a l x w') (fun _ => True) p kn (.done []) (.returned (.tuple #[])) w3) := Lib.hid ⟨rfl, ⟨F, HV.out.more M3⟩, Turned.mono M3 (fun _ _ q => q.elim), Y3, trivial⟩
  clear m3 Y3 M3 c1 c2 c3 c4 n2
  go_wp2_with fail
  go_end0
  rw [n3]
  exact FIN.out

theorem none_do (a l x : Int) (h : stThere a l = false) (g1 g2 g3 g4 g5 g6 : Nat) (ad : Option Addr) (cap : Nat) (w : World) (hY : NoB g1 g2 g3 g4 g5 g6 a l x w) (hz : IsWords w ad [3, 1, 4]) :
    Calls Try.prog 7 #[.slice ad 3 cap, .func (.func 8) #[] #[.pointer (some ⟨g1, 0, none⟩), .pointer (some ⟨g2, 0, none⟩), .pointer (some ⟨g3, 0, none⟩), .pointer (some ⟨g4, 0, none⟩), .pointer (some ⟨g5, 0, none⟩), .pointer (some ⟨g6, 0, none⟩)]] w (fun e w' => ∃ v1 v2, e = .returned (.tuple #[v1, v2, .int .i64 0]) ∧ Rw w.heap.size w' v1 [3, 1, 4] ∧ More w w' ∧ NoB g1 g2 g3 g4 g5 g6 a l x w') := by
  have hok : OkW [3, 1, 4] := by
    intro z hz
    simp at hz
    rcases hz with rfl | rfl | rfl <;> exact w64_small (by omega) (by omega)
  have hsem : FineSem [3, 1, 4] 3 (fun _ => .done []) := fine_of (zs := [3, 1, 4]) (p := pureP ()) (Q := fun _ => True) (good_pure 3 trivial) hok (by simp)
  have hR : doP (fun _ => Ran.done []) [3, 1, 4] ([3, 1, 4].length + 1) [] = some ([3, 1, 4], []) := by kernel_rfl
  have M := doX_ok ad cap [3, 1, 4] (fun _ => .done []) (some ([3, 1, 4], [])) 3 w hz (by simp) hok hsem (by omega) hR 8 #[.pointer (some ⟨g1, 0, none⟩), .pointer (some ⟨g2, 0, none⟩), .pointer (some ⟨g3, 0, none⟩), .pointer (some ⟨g4, 0, none⟩), .pointer (some ⟨g5, 0, none⟩), .pointer (some ⟨g6, 0, none⟩)] (fun _ => False)
    (fun w' => NoB g1 g2 g3 g4 g5 g6 a l x w') (fun _ _ => True)
    (fun k q => q.elim)
    (fun w' w'' y t => y.keep t (fun k q r => by have := hY.lt q; omega))
    (fun b w' w'' hb y t => trivial) hY (enters_of Try.func8 (by kernel_rfl) rfl)
    (fun K hK W F p t y hv hF => none_clo a l x h F p g1 g2 g3 g4 g5 g6 (look K) W hv y)
  refine M.mono ?_
  rintro e w' ⟨v1, v2, b, rfl, r1, _, t, y, _, _⟩
  exact ⟨v1, v2, rfl, r1, t, y⟩

set_option maxRecDepth 100000 in
set_option maxHeartbeats 2000000 in
theorem none_walk (a l x : Int) (w : World) (e0 : (Lit.int .i64 a).wf = true) (e1 : (Lit.int .i64 l).wf = true) (e2 : (Lit.int .i64 x).wf = true) :
    Calls Try.prog 3 #[.int .i64 a, .int .i64 l, .int .i64 x] w (Gives w (.bool true)) := by
  obtain ⟨w3, f3, b1, b2, b3, m3, s3⟩ := entry3 w (.cells #[.int .i64 a] 3) (.cells #[.int .i64 l] 3) (.cells #[.int .i64 x] 3)
  obtain ⟨c1, _, _⟩ := box_cells b1
  obtain ⟨c2, _, _⟩ := box_cells b2
  have M3 := Lib.hid m3
  have LV : Hid (∀ w', Calls Try.prog 6 #[] w' (Gives w' (.bool true))) := Lib.hid lives12_ok
  clear m3
  cases ht : stThere a l with
  | true =>
    unfold stThere at ht
    simp at ht
    have d0 : decide (1 ≤ a) = true := by simp; omega
    have d1 : decide (0 ≤ l) = true := by simp [ht.2]
    clear ht b1 b2 b3
    go_enter Try.func3, Try.ntmps3
    go_wp2_with fail
    refine (LV.out _).mono ?_
    rintro e w8 ⟨rfl, h8⟩
    have M8 := Lib.hid (M3.out.trans h8)
    clear h8
    go_wp2_with fail
    go_ret
    exact ⟨rfl, M8.out⟩
  | false =>
    obtain ⟨w4, f4, r4, m4, s4⟩ := entry1 w3 (.cells #[.int .i64 3, .int .i64 1, .int .i64 4] 3)
    rw [s3] at r4 s4
    obtain ⟨w6, f6, b4, b5, m6, s6⟩ := entry2 w4 (.cells #[.bool false] 4) (.cells #[.bool false] 4)
    rw [s4] at b4 b5 s6
    obtain ⟨w7, f7, b6, m7, s7⟩ := entry1 w6 (.cells #[.int .i64 0] 3)
    rw [s6] at b6 s7
    have n4 := set_noop b4
    have n5 := set_noop b5
    have n6 := set_noop b6
    obtain ⟨p4, q4, _⟩ := box_cells b4
    obtain ⟨p5, q5, _⟩ := box_cells b5
    obtain ⟨p6, q6, _⟩ := box_cells b6
    have m67 := m6.trans m7
    have m47 := m4.trans m67
    have R7 : Hid (Ws w7 (w.heap.size + 3) 3 [3, 1, 4]) := Lib.hid ⟨_, m67.block r4, by simp, by unfold maxLen; omega, by simp, fun i hi => by
      match i, hi with
      | 0, _ => rfl
      | 1, _ => rfl
      | 2, _ => rfl⟩
    have B7 : NoB w.heap.size (w.heap.size + 1) (w.heap.size + 2) (w.heap.size + 4) (w.heap.size + 4 + 1) (w.heap.size + 4 + 2) a l x w7 := ⟨m47.block b1, m47.block b2, m47.block b3, m7.block b4, m7.block b5, b6⟩
    have ND := Lib.hid (none_do a l x ht w.heap.size (w.heap.size + 1) (w.heap.size + 2) (w.heap.size + 4) (w.heap.size + 4 + 1) (w.heap.size + 4 + 2) (some ⟨w.heap.size + 3, 0, none⟩) 3 w7 B7 R7.out.words)
    have M7 := Lib.hid (M3.out.trans m47)
    have dd : (decide (1 ≤ a) && decide (0 ≤ l)) = false := by
      unfold stThere at ht
      rw [show decide (1 ≤ a) = decide (0 < a) from decide_eq_decide.2 (by omega)]; exact ht
    clear ht b1 b2 b3 b4 b5 b6 r4 m4 m6 m7 m67 m47 B7
    by_cases d0 : 1 ≤ a
    · have d1 : decide (0 ≤ l) = false := by rw [show decide (1 ≤ a) = true by simp [d0]] at dd; simpa using dd
      have d0 : decide (1 ≤ a) = true := by simp [d0]
      clear dd
      go_enter Try.func3, Try.ntmps3
      go_wp2_with fail
      refine ND.out.mono ?_
      rintro e w8 ⟨v1, v2, rfl, r1, m8, B8⟩
      have k4 := (box_cells B8.h4).1
      have k5 := (box_cells B8.h5).1
      have k6 := (box_cells B8.h6).1
      have M8 := Lib.hid (M7.out.trans m8)
      have RS := Lib.hid (rows_same [3, 1, 4] v1 (.slice (some ⟨w.heap.size + 3, 0, none⟩) 3 3) w7.heap.size 0 w8 (by simp) r1 ((R7.out.more m8).rw' (Nat.zero_le _)))
      clear r1 m8 B8 ND R7
      go_wp2_with fail
      refine RS.out.mono ?_
      rintro e w9 ⟨rfl, h9⟩
      have M9 := Lib.hid (M8.out.trans h9)
      clear h9
      go_wp2_with fail
      refine (LV.out _).mono ?_
      rintro e w10 ⟨rfl, h10⟩
      have M10 := Lib.hid (M9.out.trans h10)
      clear h10
      go_wp2_with fail
      go_ret
      exact ⟨rfl, M10.out⟩
    · have d0 : decide (1 ≤ a) = false := by simp; omega
      clear dd
      go_enter Try.func3, Try.ntmps3
      go_wp2_with fail
      refine ND.out.mono ?_
      rintro e w8 ⟨v1, v2, rfl, r1, m8, B8⟩
      have k4 := (box_cells B8.h4).1
      have k5 := (box_cells B8.h5).1
      have k6 := (box_cells B8.h6).1
      have M8 := Lib.hid (M7.out.trans m8)
      have RS := Lib.hid (rows_same [3, 1, 4] v1 (.slice (some ⟨w.heap.size + 3, 0, none⟩) 3 3) w7.heap.size 0 w8 (by simp) r1 ((R7.out.more m8).rw' (Nat.zero_le _)))
      clear r1 m8 B8 ND R7
      go_wp2_with fail
      refine RS.out.mono ?_
      rintro e w9 ⟨rfl, h9⟩
      have M9 := Lib.hid (M8.out.trans h9)
      clear h9
      go_wp2_with fail
      refine (LV.out _).mono ?_
      rintro e w10 ⟨rfl, h10⟩
      have M10 := Lib.hid (M9.out.trans h10)
      clear h10
      go_wp2_with fail
      go_ret
      exact ⟨rfl, M10.out⟩
end Go.Proofs.Ytflihdcliknggaa
