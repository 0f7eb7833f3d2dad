/-
  Layer 10's statements: whether a page is in a list already, what a step made of it, and a step.
-/
import Derived.Test.YtogfikemodaepaaDoorPlCE
import Derived.Test.YtogfikemodaepaaDoorPlB
import Derived.Test.YtogfikemodaepaaDoorPlSem
namespace Go.Proofs.YtogfikemodaepaaDoor
open Go.RowKit Go.Sort Go.Maps Go.Shelf
set_option linter.unusedVariables false
set_option linter.unusedSimpArgs false

theorem box4 {w : World} {g : Nat} {a b c d : Int} {t : TypeId} (h : w.heap[g]? = some (.cells #[.int .i64 a, .int .i64 b, .int .i64 c, .int .i64 d] t (0, 0))) : w.cell? ⟨g, 0, none⟩ = some (.int .i64 a) ∧ w.cell? ⟨g, 1, none⟩ = some (.int .i64 b) ∧ w.cell? ⟨g, 2, none⟩ = some (.int .i64 c) ∧ w.cell? ⟨g, 3, none⟩ = some (.int .i64 d) := by
  refine ⟨?_, ?_, ?_, ?_⟩ <;> simp [World.cell?, h]
set_option maxRecDepth 100000 in
set_option maxHeartbeats 1000000 in
theorem fn_skipped (g cap : Nat) (ins : List Int) (k p c f : Int) (hlen : ins.length ≤ 1000) (w : World) (hws : Ws w g cap ins) :
    Calls Tryd.prog 8 #[.slice (some ⟨g, 0, none⟩) ins.length cap, .agg #[.int .i64 k, .int .i64 p, .int .i64 c, .int .i64 f]] w (Gives w (.bool (skipB ins k p))) := by
  obtain ⟨w1, e1, hb1, m1, s1⟩ := entry1 w (.cells #[.int .i64 k, .int .i64 p, .int .i64 c, .int .i64 f] 36)
  obtain ⟨c0, c1, c2, c3⟩ := box4 hb1
  by_cases hk : k < 2
  · have d0 : decide (k < 2) = true := by simp [hk]
    by_cases hp : 0 ≤ p
    · have d1 : decide (0 ≤ p) = true := by simp [hp]
      by_cases hl : p < ins.length
      · have d2 : decide (p < (ins.length : Int)) = true := by simp [hl]
        obtain ⟨m, rfl⟩ : ∃ m : Nat, p = (m : Int) := ⟨p.toNat, by omega⟩
        have hm : m < ins.length := by omega
        have cw := (hws.more m1).cell hm
        have hv : (ins.getD m 0 != 0) = skipB ins k (m : Int) := by
          unfold skipB
          rw [d0, d1, d2]
          have : wAt ins (m : Int) = ins.getD m 0 := rfl
          rw [this]
          generalize ins.getD m 0 = y
          by_cases z : y = 0 <;> simp [z]
        have d3 : decide (m < ins.length) = true := by simp [hm]
        rw [← hv]
        generalize ins.getD m 0 = y at cw
        clear hv
        have M1 := Lib.hid m1
        clear hb1 m1 hws
        go_enter Tryd.func8, Tryd.ntmps8
        go_wp2_with fail
        go_ret
        exact ⟨rfl, M1.out⟩
      · have d2 : decide (p < (ins.length : Int)) = false := by simp; omega
        rw [show skipB ins k p = false by unfold skipB; rw [d2]; simp]
        have M1 := Lib.hid m1
        clear hb1 m1 hws
        go_enter Tryd.func8, Tryd.ntmps8
        go_wp2_with fail
        go_ret
        exact ⟨rfl, M1.out⟩
    · have d1 : decide (0 ≤ p) = false := by simp; omega
      rw [show skipB ins k p = false by unfold skipB; rw [d1]; simp]
      have M1 := Lib.hid m1
      clear hb1 m1 hws
      go_enter Tryd.func8, Tryd.ntmps8
      go_wp2_with fail
      go_ret
      exact ⟨rfl, M1.out⟩
  · have d0 : decide (k < 2) = false := by simp; omega
    rw [show skipB ins k p = false by unfold skipB; rw [d0]; simp]
    have M1 := Lib.hid m1
    clear hb1 m1 hws
    go_enter Tryd.func8, Tryd.ntmps8
    go_wp2_with fail
    go_ret
    exact ⟨rfl, M1.out⟩

theorem noted {g cap m : Nat} {ins : List Int} {w w1 : World} (T : Turned (fun b => b = g) w w1) (W : Ws w1 g cap ins) (hm : m < ins.length) (x : Int) : Turned (fun b => b = g) w (w1.setCell ⟨g, m, none⟩ (.int .i64 x)) ∧ Ws (w1.setCell ⟨g, m, none⟩ (.int .i64 x)) g cap (ins.set m x) :=
  ⟨T.trans (Turned.setCell (Turned.refl _ w1) _ _ (fun _ => rfl)), W.set hm x⟩
set_option maxRecDepth 100000 in
set_option maxHeartbeats 1000000 in
theorem fn_note (g cap : Nat) (ins : List Int) (k p c f : Int) (hlen : ins.length ≤ 1000) (hcf : k < 2 → 0 ≤ p → p < ins.length → 0 ≤ c ∧ c ≤ 4 ∧ 1 ≤ f ∧ f ≤ 32) (w : World) (hws : Ws w g cap ins) :
    Calls Tryd.prog 15 #[.slice (some ⟨g, 0, none⟩) ins.length cap, .agg #[.int .i64 k, .int .i64 p, .int .i64 c, .int .i64 f]] w (fun e w' => e = .returned (.tuple #[]) ∧ Ws w' g cap (noteV ins k p c f) ∧ Turned (fun b => b = g) w w') := by
  obtain ⟨w1, e1, hb1, m1, s1⟩ := entry1 w (.cells #[.int .i64 k, .int .i64 p, .int .i64 c, .int .i64 f] 36)
  obtain ⟨c0, c1, c2, c3⟩ := box4 hb1
  have hgl := hws.lt
  have hgb : w.heap.size ≠ g := by omega
  by_cases hp : p < 0
  · have d0 : decide (p < 0) = true := by simp [hp]
    rw [show noteV ins k p c f = ins by unfold noteV; rw [if_pos (.inl hp)]]
    have T1 := Lib.hid (Turned.mono m1 (fun _ _ q => q.elim) : Turned (fun b => b = g) w w1)
    have W1 := Lib.hid (hws.more m1)
    clear hb1 m1 hws
    go_enter Tryd.func15, Tryd.ntmps15
    go_wp2_with fail
    refine bodyPost_ret (results_none rfl _ _ _) rfl ?_
    exact ⟨rfl, W1.out, T1.out⟩
  have d0 : decide (p < 0) = false := by simp; omega
  by_cases hl : (ins.length : Int) ≤ p
  · have d1 : decide ((ins.length : Int) ≤ p) = true := by simp [hl]
    rw [show noteV ins k p c f = ins by unfold noteV; rw [if_pos (.inr hl)]]
    have T1 := Lib.hid (Turned.mono m1 (fun _ _ q => q.elim) : Turned (fun b => b = g) w w1)
    have W1 := Lib.hid (hws.more m1)
    clear hb1 m1 hws
    go_enter Tryd.func15, Tryd.ntmps15
    go_wp2_with fail
    refine bodyPost_ret (results_none rfl _ _ _) rfl ?_
    exact ⟨rfl, W1.out, T1.out⟩
  have d1 : decide ((ins.length : Int) ≤ p) = false := by simp; omega
  obtain ⟨m, rfl⟩ : ∃ m : Nat, p = (m : Int) := ⟨p.toNat, by omega⟩
  have hm : m < ins.length := by omega
  have d3 : decide (m < ins.length) = true := by simp [hm]
  have W0 := hws.more m1
  have cw := W0.cell hm
  have fw := W0.froz m
  obtain ⟨w2, e2⟩ : ∃ w2, w1.setCell ⟨g, m, none⟩ (.int .i64 0) = w2 := ⟨_, rfl⟩
  obtain ⟨t2, W2⟩ := noted (Turned.mono m1 (fun _ _ q => q.elim) : Turned (fun b => b = g) w w1) W0 hm 0
  rw [e2] at t2 W2
  have b2 : w2.heap[w.heap.size]? = some (.cells #[.int .i64 k, .int .i64 (m : Int), .int .i64 c, .int .i64 f] 36 (0, 0)) := by rw [← e2]; exact (Below.heap_setCell _ _ _ _ hgb).trans hb1
  obtain ⟨k0, k1, k2, k3⟩ := box4 b2
  have cw2 := W2.cell (i := m) (by simp [hm])
  have fw2 := W2.froz m
  by_cases hk : k < 2
  · have d4 : decide (k < 2) = true := by simp [hk]
    obtain ⟨r0, r1, r2, r3⟩ := hcf hk (by omega) (by omega)
    have q1 : IntKind.i64.wrap (100 * c) = 100 * c := wrap_in (by omega) (by omega)
    have q2 : IntKind.i64.wrap (100 * c + f) = 100 * c + f := wrap_in (by omega) (by omega)
    obtain ⟨t3, W3⟩ := noted t2 W2 (m := m) (by simp [hm]) (100 * c + f)
    rw [show noteV ins k (m : Int) c f = ins.set m (100 * c + f) by unfold noteV; rw [if_neg (by omega), if_pos hk]; simp]
    rw [List.set_set] at W3
    have T3 := Lib.hid t3
    have V3 := Lib.hid W3
    clear t3 W3 t2 W2 W0 hws b2 hb1 m1 hcf
    go_enter Tryd.func15, Tryd.ntmps15
    go_wp2_with fail
    go_end0
    exact ⟨rfl, V3.out, T3.out⟩
  · have d4 : decide (k < 2) = false := by simp; omega
    rw [show noteV ins k (m : Int) c f = ins.set m 0 by unfold noteV; rw [if_neg (by omega), if_neg hk]; simp]
    have T3 := Lib.hid t2
    have V3 := Lib.hid W2
    clear t2 W2 W0 hws b2 hb1 m1 hcf
    go_enter Tryd.func15, Tryd.ntmps15
    go_wp2_with fail
    go_end0
    exact ⟨rfl, V3.out, T3.out⟩

set_option maxRecDepth 100000 in
set_option maxHeartbeats 1000000 in
theorem fn_done {c : Cfg} (R : c.Ok) {n : Nat} (H : HdIn c.pg c.st n) (hn : n ≤ 10000) (F : Nat → Prop) (p : Nat) (kn : Int → Option Int) (D : List KV) (k q cl f : Int) (w : World) (hv : ViewAt w F p kn D) (hk : OkK kn) (hD : InvD n D) :
    Calls Tryd.prog 11 #[.pointer (some ⟨p, 0, none⟩), .agg c.arr, .agg #[.int .i64 k, .int .i64 q, .int .i64 cl, .int .i64 f]] w (WentV w F p kn (fun b => .bool b) (pdoneP c.pg c.st k q cl f kn D)) := by
  obtain ⟨Rr, hRr⟩ : ∃ Rr, pdoneP c.pg c.st k q cl f kn D = Rr := ⟨_, rfl⟩
  rw [hRr]
  obtain ⟨w2, e2, ha2, hb2, m2, s2⟩ := entry2 w (.cells c.arr 28) (.cells #[.int .i64 k, .int .i64 q, .int .i64 cl, .int .i64 f] 36)
  obtain ⟨c0, c1, c2, c3⟩ := box4 hb2
  have MM := Lib.hid m2
  have L0 := Lib.hid ha2
  have V2 := Lib.hid (hv.more m2)
  have HK := Lib.hid hk
  have HD := Lib.hid hD
  have HR := Lib.hid R
  have HH := Lib.hid H
  unfold pdoneP at hRr
  clear ha2 hb2 m2 hv hk hD R H
  by_cases h : k < 2
  · have d0 : decide (k < 2) = true := by simp [h]
    rw [if_pos h] at hRr
    have HRr := Lib.hid hRr
    clear hRr h
    go_enter Tryd.func11, Tryd.ntmps11
    go_wp2_with (first | (refine wpList_load_row rfl 28 _ rfl _ rfl 28 _ _ _ L0.out Tryd.underlying28 rfl (by kernel_rfl) ?_) | (refine wpList_load_rowG rfl 28 _ rfl _ rfl 28 _ _ _ L0.out Tryd.underlying28 rfl (by kernel_rfl) ?_))
    refine (pl_Link HR.out HH.out hn F p kn D q cl f w2 V2.out HK.out HD.out).mono ?_
    rw [HRr.out]
    intro e w3 he
    rcases went_cases he with ⟨a, _, rfl⟩ | ⟨x, D', _, rfl⟩
    · exact ⟨rfl, he.after MM.out⟩
    · have FIN := Lib.hid (he.after MM.out)
      clear he
      go_wp2_with fail
      go_ret
      exact FIN.out
  · have d0 : decide (k < 2) = false := by simp; omega
    rw [if_neg h] at hRr
    have HRr := Lib.hid hRr
    clear hRr h
    go_enter Tryd.func11, Tryd.ntmps11
    go_wp2_with (first | (refine wpList_load_row rfl 28 _ rfl _ rfl 28 _ _ _ L0.out Tryd.underlying28 rfl (by kernel_rfl) ?_) | (refine wpList_load_rowG rfl 28 _ rfl _ rfl 28 _ _ _ L0.out Tryd.underlying28 rfl (by kernel_rfl) ?_))
    refine (pl_Unlink HR.out HH.out hn F p kn D q cl f w2 V2.out HK.out HD.out).mono ?_
    rw [HRr.out]
    intro e w3 he
    rcases went_cases he with ⟨a, _, rfl⟩ | ⟨x, D', _, rfl⟩
    · exact ⟨rfl, he.after MM.out⟩
    · have FIN := Lib.hid (he.after MM.out)
      clear he
      go_wp2_with fail
      go_ret
      exact FIN.out
end Go.Proofs.YtogfikemodaepaaDoor
