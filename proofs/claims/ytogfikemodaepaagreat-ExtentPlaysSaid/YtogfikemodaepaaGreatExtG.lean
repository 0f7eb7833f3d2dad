/-
  The landed package extent: Find.
-/
import Derived.Test.YtogfikemodaepaaGreatExtF
namespace Go.Proofs.YtogfikemodaepaaGreat
open Go.RowKit Go.Sort Go.Maps Go.Shelf
set_option linter.unusedVariables false
set_option linter.unusedSimpArgs false

theorem good_seekN2 {pg st : Int} {n : Nat} (H : PgIn pg st n) {f : Int → Prg Bool} (hf : ∀ q, Good n (fun _ => True) (f q)) (m step : Int) (hm : 1 ≤ m) (hs : 1 ≤ step) : Good n (fun x : Int => -1 ≤ x ∧ x < pg) (eleastP f pg m step) := good_seekN H hf m step hm hs _ 0 (by omega)

set_option maxRecDepth 100000 in
set_option maxHeartbeats 2000000 in
theorem e_Find {c : Cfg} (R : c.Ok) {n : Nat} (H : PgIn c.pg c.st n) (F : Nat → Prop) (p : Nat) (kn : Int → Option Int) (D : List KV) (m step : Int) (hm : W64 m) (hs : W64 step) (w : World) (hv : ViewAt w F p kn D) (hk : OkK kn) (hD : InvD n D) :
    Calls Tryz.prog 15 #[.pointer (some ⟨p, 0, none⟩), .agg c.arr, .int .i64 m, .int .i64 step] w (WentV w F p kn (fun x => .int .i64 x) (efindP c.pg c.st m step kn D)) := by
  obtain ⟨Rr, hRr⟩ : ∃ Rr, efindP c.pg c.st m step kn D = Rr := ⟨_, rfl⟩
  rw [hRr]
  obtain ⟨w1, e1, hb1, hb2, m1, s1⟩ := entry2 w (.cells #[.pointer (some ⟨p, 0, none⟩)] 39) (.cells c.arr 28)
  obtain ⟨w2, e2, hb3, m2, s2⟩ := entry1 w1 (.cells #[.nilFunc] 72)
  rw [s1] at hb3
  unfold efindP at hRr
  have hfw := hv.lt
  unfold W64 at hm hs
  by_cases a0 : m < 1
  · have d0 : decide (m < 1) = true := by simp [a0]
    rw [if_neg (by omega)] at hRr
    have FIN : Hid (WentV w F p kn (fun x : Int => Value.int .i64 x) Rr (.returned (.int .i64 (-1))) w1) := Lib.hid (mid_done (S := fun _ => False) m1 (fun _ q => q.elim) (MidV.begin (hv.more m1) hD) hRr.symm)
    clear hRr hb1 hb2 hb3 e2 m1 m2 hv hD
    go_enter Tryz.func15, Tryz.ntmps15
    go_wp2_with fail
    go_ret
    exact FIN.out
  have d0 : decide (m < 1) = false := by simp; omega
  by_cases a1 : step < 1
  · have d1 : decide (step < 1) = true := by simp [a1]
    rw [if_neg (by omega)] at hRr
    have FIN : Hid (WentV w F p kn (fun x : Int => Value.int .i64 x) Rr (.returned (.int .i64 (-1))) w1) := Lib.hid (mid_done (S := fun _ => False) m1 (fun _ q => q.elim) (MidV.begin (hv.more m1) hD) hRr.symm)
    clear hRr hb1 hb2 hb3 e2 m1 m2 hv hD
    go_enter Tryz.func15, Tryz.ntmps15
    go_wp2_with fail
    go_ret
    exact FIN.out
  have d1 : decide (step < 1) = false := by simp; omega
  rw [if_pos ⟨by omega, by omega⟩] at hRr
  obtain ⟨c3, f3, l3⟩ := box_cells hb3
  have hb3' : (w2.setCell ⟨w.heap.size + 2, 0, none⟩ (.func (.func 39) #[] #[.pointer (some ⟨w.heap.size, 0, none⟩), .pointer (some ⟨w.heap.size + 1, 0, none⟩)])).heap[w.heap.size + 2]? = _ := setCell_one hb3 _
  have t23 : Turned (fun b => b = w.heap.size + 2) w2 (w2.setCell ⟨w.heap.size + 2, 0, none⟩ (.func (.func 39) #[] #[.pointer (some ⟨w.heap.size, 0, none⟩), .pointer (some ⟨w.heap.size + 1, 0, none⟩)])) := Turned.setCell (Turned.refl _ w2) ⟨w.heap.size + 2, 0, none⟩ _ (fun _ => rfl)
  have T23 := Lib.hid t23
  have B3 := Lib.hid hb3'
  have B1 := Lib.hid (m2.block hb1)
  have B2 := Lib.hid (m2.block hb2)
  have M12 := Lib.hid (m1.trans m2)
  have HV := Lib.hid hv
  have HDD := Lib.hid hD
  have HRr := Lib.hid hRr
  clear hRr hb1 hb2 hb3 m1 m2 hv hD hb3' t23
  go_enter Tryz.func15, Tryz.ntmps15
  have rst := run_store Tryz.prog w2 ⟨w.heap.size + 2, 0, none⟩ (.func (.func 39) #[] #[.pointer (some ⟨w.heap.size, 0, none⟩), .pointer (some ⟨w.heap.size + 1, 0, none⟩)]) .plain rfl
  go_wp2_with (refine wpList_load_row rfl 28 _ rfl (w.heap.size + 1) rfl 28 _ _ _ (by have := T23.out.block (w.heap.size + 1) (lt_of_heap B2.out) (by omega); exact this.trans B2.out) Tryz.underlying28 rfl (by kernel_rfl) ?_)
  have h1 := (T23.out.block w.heap.size (lt_of_heap B1.out) (by omega)).trans B1.out
  have h2 := (T23.out.block (w.heap.size + 1) (lt_of_heap B2.out) (by omega)).trans B2.out
  have h3 := B3.out
  have m3 : More w (w2.setCell ⟨w.heap.size + 2, 0, none⟩ (.func (.func 39) #[] #[.pointer (some ⟨w.heap.size, 0, none⟩), .pointer (some ⟨w.heap.size + 1, 0, none⟩)])) := Turned.mono (turned_own (F := fun _ => False) M12.out T23.out (fun b e => .inr (by omega))) (fun _ _ q => q)
  generalize w2.setCell ⟨w.heap.size + 2, 0, none⟩ (.func (.func 39) #[] #[.pointer (some ⟨w.heap.size, 0, none⟩), .pointer (some ⟨w.heap.size + 1, 0, none⟩)]) = w3 at h1 h2 h3 m3 ⊢
  have hv3 := HV.out.more m3
  have HH := Lib.hid H
  have HR := Lib.hid R
  have HK := Lib.hid hk
  have H1 := Lib.hid h1
  have H2 := Lib.hid h2
  have H3 := Lib.hid h3
  have M3 := Lib.hid m3
  have l1 := lt_of_heap h1
  have l2 := lt_of_heap h2
  have l3 := lt_of_heap h3
  have M0 : Hid (MidV w3 w3 F (fun _ => False) p kn n D F) := Lib.hid (MidV.begin hv3 HDD.out)
  have nF : ∀ b, w.heap.size ≤ b → ¬ F b := fun b hb q => by have := hfw b q; omega
  have KEEP : Hid (∀ wr D' F', MidV w3 wr F (fun _ => False) p kn n D' F' → wr.heap[w.heap.size]? = some (.cells #[.pointer (some ⟨p, 0, none⟩)] 39 (0, 0)) ∧ wr.heap[w.heap.size + 1]? = some (.cells c.arr 28 (0, 0)) ∧ wr.heap[w.heap.size + 2]? = some (.cells #[(.func (.func 39) #[] #[.pointer (some ⟨w.heap.size, 0, none⟩), .pointer (some ⟨w.heap.size + 1, 0, none⟩)])] 72 (0, 0))) := Lib.hid fun wr D' F' h =>
    ⟨mid_own h H1.out (nF _ (by omega)) (fun q => q), mid_own h H2.out (nF _ (by omega)) (fun q => q), mid_own h H3.out (nF _ (by omega)) (fun q => q)⟩
  have NEED : Hid (∀ a w2, Rr = .need a → DeadAt w2 p a → Turned (fun b => F b ∨ False) w3 w2 → WentV w F p kn (fun x : Int => Value.int .i64 x) Rr (.panicked (endOf p)) w2) := Lib.hid fun a w2 e hd ht => mid_need M3.out (fun _ q => q.elim) e hd ht
  have DONE : Hid (∀ x w2 D' F', Rr = .ok x D' → MidV w3 w2 F (fun _ => False) p kn n D' F' → WentV w F p kn (fun x : Int => Value.int .i64 x) Rr (.returned (.int .i64 x)) w2) := Lib.hid fun x w2 D' F' e h => mid_done M3.out (fun _ q => q.elim) h e
  have NN : ∀ (w0 wr : World) (F' : Nat → Prop) (b : Nat), w.heap.size ≤ b → b < w0.heap.size → (∀ k, F' k → F k ∨ w0.heap.size ≤ k) → ¬ F' b := fun w0 wr F' b hb hl hn q => by
    rcases hn b q with r | r
    · exact nF b hb r
    · omega
  have LO := e_least HR.out HH.out F p kn D m step (by omega) (by omega) (by omega) (by omega) 40 #[.pointer (some ⟨w.heap.size, 0, none⟩), .pointer (some ⟨w.heap.size + 1, 0, none⟩), .pointer (some ⟨w.heap.size + 2, 0, none⟩)] (eopenP c.pg c.st) w3 hv3 HK.out HDD.out (good_open HH.out) (enters_of Tryz.func40 (by kernel_rfl) rfl)
    (fun wr D' F' q t hn hv' hD' hq => e_open HR.out HH.out F' p kn D' q hq w.heap.size (w.heap.size + 1) (w.heap.size + 2) wr hv' HK.out hD' ((t.block _ l1 (nF _ (by omega))).trans H1.out) ((t.block _ l2 (nF _ (by omega))).trans H2.out) ((t.block _ l3 (nF _ (by omega))).trans H3.out) (NN w3 wr F' _ (by omega) l1 hn) (NN w3 wr F' _ (by omega) l2 hn) (NN w3 wr F' _ (by omega) l3 hn))
  have LF := Lib.hid (fun (w4 : World) (D4 : List KV) (F4 : Nat → Prop) (M4 : MidV w3 w4 F (fun _ => False) p kn n D4 F4) => e_least HR.out HH.out F4 p kn D4 m step (by omega) (by omega) (by omega) (by omega) 39 #[.pointer (some ⟨w.heap.size, 0, none⟩), .pointer (some ⟨w.heap.size + 1, 0, none⟩)] (efreeP c.pg c.st) w4 M4.view HK.out M4.inv (good_free HH.out) (enters_of Tryz.func39 (by kernel_rfl) rfl)
    (fun wr D' F' q t hn hv' hD' hq => e_free HR.out HH.out F' p kn D' q w.heap.size (w.heap.size + 1) wr hv' HK.out hD' ((t.block _ (Nat.lt_of_lt_of_le l1 M4.size) (M4.off l1 (nF _ (by omega)))).trans (KEEP.out _ _ _ M4).1) ((t.block _ (Nat.lt_of_lt_of_le l2 M4.size) (M4.off l2 (nF _ (by omega)))).trans (KEEP.out _ _ _ M4).2.1)))
  have LO := Lib.hid LO
  clear h1 h2 h3 m3 hv3 hm hs R H hk T23 c3 f3 l3 rst e1 e2 NN nF
  go_wp2_with fail
  refine LO.out.mono ?_
  intro e w4 he
  rcases M0.out.step (More.refl _) HK.out (good_seekN2 HH.out (good_open HH.out) m step a0 a1) he with ⟨a', hE, rfl, hd', ht', _⟩ | ⟨x4, D4, F4, hE, rfl, M4, hq4, _, _⟩
  · exact ⟨rfl, NEED.out a' w4 (HRr.out.symm.trans (bindP_need hE)) hd' ht'⟩
  have R4 := (bindP_ok hE).symm.trans HRr.out
  have K4 := KEEP.out _ _ _ M4
  have K42 := Lib.hid K4.2.1
  have c9 := (box_cells K4.2.2).1
  have M4 := Lib.hid M4
  clear he hE LO K4
  by_cases z : x4 = -1
  · rw [if_pos z] at R4
    have e4 : (x4 != -1) = false := by simp [z]
    have LL4 := Lib.hid (LF.out w4 D4 F4 M4.out)
    have R4 := Lib.hid R4
    clear z LF
    go_wp2_with (first | (refine wpList_load_row rfl 28 _ rfl _ rfl 28 _ _ _ K42.out Tryz.underlying28 rfl (by kernel_rfl) ?_) | (refine wpList_load_rowG rfl 28 _ rfl _ rfl 28 _ _ _ K42.out Tryz.underlying28 rfl (by kernel_rfl) ?_))
    refine LL4.out.mono ?_
    intro e w5 he
    rcases M4.out.step (More.refl _) HK.out (good_seekN2 HH.out (good_free HH.out) m step a0 a1) he with ⟨a', hE, rfl, hd', ht', _⟩ | ⟨x5, D5, F5, hE, rfl, M5, hq5, _, _⟩
    · exact ⟨rfl, NEED.out a' w5 (R4.out.symm.trans hE) hd' ht'⟩
    have FIN := Lib.hid (DONE.out x5 w5 D5 F5 (R4.out.symm.trans hE) M5)
    clear he hE M5
    go_wp2_with fail
    go_ret
    exact FIN.out
  · rw [if_neg z] at R4
    have e4 : (x4 != -1) = true := by simp [z]
    have FIN := Lib.hid (DONE.out x4 w4 D4 F4 R4.symm M4.out)
    clear z LF R4 c9
    go_wp2_with fail
    go_ret
    exact FIN.out
end Go.Proofs.YtogfikemodaepaaGreat
