/-
  The landed package extent: looks, and what one page's words are written with.
-/
import Derived.Test.YtogfikemodaepaaGreatExtD
namespace Go.Proofs.YtogfikemodaepaaGreat
open Go.RowKit Go.Sort Go.Maps Go.Shelf
set_option linter.unusedVariables false
set_option linter.unusedSimpArgs false

theorem y_kind {c : Cfg} (R : c.Ok) (w : World) (k : Int) : Calls Tryz.prog 17 #[.agg c.arr, .int .i64 k] w (Gives w (.int .i64 (pageV c.pg c.st 0 k))) := xkind R w k
theorem y_count {c : Cfg} (R : c.Ok) (w : World) (k : Int) : Calls Tryz.prog 76 #[.agg c.arr, .int .i64 k] w (Gives w (.int .i64 (pageV c.pg c.st 1 k))) := xcount R w k
theorem y_bits {c : Cfg} (R : c.Ok) (w : World) (k : Int) : Calls Tryz.prog 77 #[.agg c.arr, .int .i64 k] w (Gives w (.int .i64 (pageV c.pg c.st 2 k))) := xbits R w k

set_option maxRecDepth 100000 in
set_option maxHeartbeats 1000000 in
theorem e_Kind {c : Cfg} (R : c.Ok) {n : Nat} (H : PgIn c.pg c.st n) (F : Nat → Prop) (p : Nat) (kn : Int → Option Int) (D : List KV) (q : Int) (w : World) (hv : ViewAt w F p kn D) (hk : OkK kn) (hD : InvD n D) :
    Calls Tryz.prog 25 #[.pointer (some ⟨p, 0, none⟩), .agg c.arr, .int .i64 q] w (WentV w F p kn (fun x => .int .i64 x) (ekindP c.pg c.st q kn D)) := by
  obtain ⟨Rr, hRr⟩ : ∃ Rr, ekindP c.pg c.st q kn D = Rr := ⟨_, rfl⟩
  rw [hRr]
  obtain ⟨w1, e1, hl1, m1, s1⟩ := entry1 w (.cells c.arr 28)
  have nFl : ¬ F w.heap.size := fun q => by have := hv.lt _ q; omega
  have MM := Lib.hid m1
  have L0 := Lib.hid hl1
  have M0 : Hid (MidV w1 w1 F (fun _ => False) p kn n D F) := Lib.hid (MidV.begin (hv.more m1) hD)
  have KL : Hid (∀ wr D' F', MidV w1 wr F (fun _ => False) p kn n D' F' → wr.heap[w.heap.size]? = some (.cells c.arr 28 (0, 0))) := Lib.hid fun wr D' F' h => mid_own h L0.out nFl (fun q => q)
  have NEED : Hid (∀ a w2, Rr = .need a → DeadAt w2 p a → Turned (fun b => F b ∨ False) w1 w2 → WentV w F p kn (fun x : Int => Value.int .i64 x) Rr (.panicked (endOf p)) w2) := Lib.hid fun a w2 e hd ht => mid_need MM.out (fun _ q => q.elim) e hd ht
  have DONE : Hid (∀ x w2 D' F', Rr = .ok x D' → MidV w1 w2 F (fun _ => False) p kn n D' F' → WentV w F p kn (fun x : Int => Value.int .i64 x) Rr (.returned ((fun x : Int => Value.int .i64 x) x)) w2) := Lib.hid fun x w2 D' F' e h => mid_done MM.out (fun _ q => q.elim) h e
  have HK := Lib.hid hk
  have HR := Lib.hid R
  have HH := Lib.hid H
  clear hl1 m1 hv hD hk R H nFl
  unfold ekindP at hRr
  cases h : isPage c.pg q with
  | false =>
    rw [h] at hRr
    have FIN : Hid (∀ w2, More w1 w2 → WentV w F p kn (fun x : Int => Value.int .i64 x) Rr (.returned (.int .i64 (-1))) w2) := Lib.hid fun w2 m => DONE.out (-1) w2 D F hRr.symm (M0.out.more m)
    clear hRr
    go_enter Tryz.func25, Tryz.ntmps25
    go_wp2_with (first | (refine wpList_load_row rfl 28 _ rfl _ rfl 28 _ _ _ L0.out Tryz.underlying28 rfl (by kernel_rfl) ?_) | (refine wpList_load_rowG rfl 28 _ rfl _ rfl 28 _ _ _ L0.out Tryz.underlying28 rfl (by kernel_rfl) ?_))
    refine (y_kind HR.out _ q).mono ?_
    rw [pageN h]
    rintro e w2 ⟨rfl, h2⟩
    have H2 := Lib.hid h2
    clear h2
    go_wp2_with fail
    go_ret
    exact FIN.out _ H2.out
  | true =>
    rw [h] at hRr
    have hRr2 : readP (kA c.pg c.st q) kn D = Rr := hRr
    obtain ⟨⟨ha, _, hw⟩, _⟩ := page_b HH.out h
    have nz : (kA c.pg c.st q == 0) = false := by simp; omega
    have RA := Lib.hid (fun w2 (m : More w1 w2) => read_any F p kn D (kA c.pg c.st q) w2 (M0.out.view.more m) hw)
    have HRr := Lib.hid hRr2
    clear hRr hRr2 hw ha
    go_enter Tryz.func25, Tryz.ntmps25
    go_wp2_with (first | (refine wpList_load_row rfl 28 _ rfl _ rfl 28 _ _ _ L0.out Tryz.underlying28 rfl (by kernel_rfl) ?_) | (refine wpList_load_rowG rfl 28 _ rfl _ rfl 28 _ _ _ L0.out Tryz.underlying28 rfl (by kernel_rfl) ?_))
    refine (y_kind HR.out _ q).mono ?_
    rw [page0 h]
    rintro e w2 ⟨rfl, h2⟩
    have H2 := Lib.hid h2
    clear h2
    go_wp2_with fail
    refine (RA.out _ H2.out).mono ?_
    rw [HRr.out]
    intro e w3 he
    rcases went_cases he with ⟨a, _, rfl⟩ | ⟨x, D', _, rfl⟩
    · exact ⟨rfl, he.after (MM.out.trans H2.out)⟩
    · have FIN := Lib.hid (he.after (MM.out.trans H2.out))
      clear he
      go_wp2_with fail
      go_ret
      exact FIN.out

set_option maxRecDepth 100000 in
set_option maxHeartbeats 1000000 in
theorem e_put {c : Cfg} (R : c.Ok) {n : Nat} (H : PgIn c.pg c.st n) (hn : n ≤ 10000) (F : Nat → Prop) (p : Nat) (kn : Int → Option Int) (D : List KV) (q k x : Int) (hq : isPage c.pg q = true) (hk' : W64 k) (hx : W64 x) (w : World) (hv : ViewAt w F p kn D) (hk : OkK kn) (hD : InvD n D) :
    Calls Tryz.prog 47 #[.pointer (some ⟨p, 0, none⟩), .agg c.arr, .int .i64 q, .int .i64 k, .int .i64 x] w (WentV w F p kn (fun _ : Unit => .tuple #[]) (eputP c.pg c.st q k x kn D)) := by
  obtain ⟨Rr, hRr⟩ : ∃ Rr, eputP c.pg c.st q k x kn D = Rr := ⟨_, rfl⟩
  rw [hRr]
  obtain ⟨w1, e1, hl1, m1, s1⟩ := entry1 w (.cells c.arr 28)
  have nFl : ¬ F w.heap.size := fun q => by have := hv.lt _ q; omega
  have MM := Lib.hid m1
  have L0 := Lib.hid hl1
  have M0 : Hid (MidV w1 w1 F (fun _ => False) p kn n D F) := Lib.hid (MidV.begin (hv.more m1) hD)
  have KL : Hid (∀ wr D' F', MidV w1 wr F (fun _ => False) p kn n D' F' → wr.heap[w.heap.size]? = some (.cells c.arr 28 (0, 0))) := Lib.hid fun wr D' F' h => mid_own h L0.out nFl (fun q => q)
  have NEED : Hid (∀ a w2, Rr = .need a → DeadAt w2 p a → Turned (fun b => F b ∨ False) w1 w2 → WentV w F p kn (fun _ : Unit => Value.tuple #[]) Rr (.panicked (endOf p)) w2) := Lib.hid fun a w2 e hd ht => mid_need MM.out (fun _ q => q.elim) e hd ht
  have DONE : Hid (∀ x w2 D' F', Rr = .ok x D' → MidV w1 w2 F (fun _ => False) p kn n D' F' → WentV w F p kn (fun _ : Unit => Value.tuple #[]) Rr (.returned ((fun _ : Unit => Value.tuple #[]) x)) w2) := Lib.hid fun x w2 D' F' e h => mid_done MM.out (fun _ q => q.elim) h e
  have HK := Lib.hid hk
  have HR := Lib.hid R
  have HH := Lib.hid H
  clear hl1 m1 hv hD hk R H nFl
  unfold eputP at hRr
  have HRr := Lib.hid hRr
  obtain ⟨⟨_, a1, a2⟩, ⟨_, b1, b2⟩, _, c1, c2⟩ := page_b HH.out hq
  have G0 := Lib.hid (good_write n a2 a1 hk')
  have G1 := Lib.hid (good_write n b2 b1 hx)
  have G2 := Lib.hid (good_write n c2 c1 (show W64 0 by unfold W64; omega))
  have p0 := page0 (st := c.st) hq
  have p1 := page1 (st := c.st) hq
  have p2 := page2 (st := c.st) hq
  have P0 := Lib.hid p0
  have P1 := Lib.hid p1
  have P2 := Lib.hid p2
  clear hRr a1 a2 b1 b2 c1 c2 p0 p1 p2 hk' hx
  go_enter Tryz.func47, Tryz.ntmps47
  go_wp2_with (first | (refine wpList_load_row rfl 28 _ rfl _ rfl 28 _ _ _ L0.out Tryz.underlying28 rfl (by kernel_rfl) ?_) | (refine wpList_load_rowG rfl 28 _ rfl _ rfl 28 _ _ _ L0.out Tryz.underlying28 rfl (by kernel_rfl) ?_))
  refine (y_kind HR.out _ q).mono ?_
  rw [P0.out]
  rintro e w2 ⟨rfl, h2⟩
  have M2 := Lib.hid (M0.out.more h2)
  have L2 := Lib.hid (KL.out _ _ _ M2.out)
  clear h2
  go_wp2_with fail
  refine (write_any F p kn D _ k w2 M2.out.view (by have := M2.out.inv.len; omega)).mono ?_
  intro e w3 he
  rcases M2.out.step (More.refl _) HK.out G0.out he with ⟨a', hE, rfl, hd', ht', _⟩ | ⟨x3, D3, F3, hE, rfl, M3, hq3, _, _⟩
  · exact ⟨rfl, NEED.out a' w3 (HRr.out.symm.trans (bindP_need hE)) hd' ht'⟩
  have L3 := Lib.hid (KL.out _ _ _ M3)
  have R3 := Lib.hid ((bindP_ok hE).symm.trans HRr.out)
  have M3 := Lib.hid M3
  clear he hE
  go_wp2_with (first | (refine wpList_load_row rfl 28 _ rfl _ rfl 28 _ _ _ L3.out Tryz.underlying28 rfl (by kernel_rfl) ?_) | (refine wpList_load_rowG rfl 28 _ rfl _ rfl 28 _ _ _ L3.out Tryz.underlying28 rfl (by kernel_rfl) ?_))
  refine (y_count HR.out _ q).mono ?_
  rw [P1.out]
  rintro e w4 ⟨rfl, h4⟩
  have M4 := Lib.hid (M3.out.more h4)
  have L4 := Lib.hid (KL.out _ _ _ M4.out)
  clear h4
  go_wp2_with fail
  refine (write_any F3 p kn D3 _ x w4 M4.out.view (by have := M4.out.inv.len; omega)).mono ?_
  intro e w5 he
  rcases M4.out.step (More.refl _) HK.out G1.out he with ⟨a', hE, rfl, hd', ht', _⟩ | ⟨x5, D5, F5, hE, rfl, M5, hq5, _, _⟩
  · exact ⟨rfl, NEED.out a' w5 (R3.out.symm.trans (bindP_need hE)) hd' ht'⟩
  have L5 := Lib.hid (KL.out _ _ _ M5)
  have R5 := Lib.hid ((bindP_ok hE).symm.trans R3.out)
  have M5 := Lib.hid M5
  clear he hE
  go_wp2_with (first | (refine wpList_load_row rfl 28 _ rfl _ rfl 28 _ _ _ L5.out Tryz.underlying28 rfl (by kernel_rfl) ?_) | (refine wpList_load_rowG rfl 28 _ rfl _ rfl 28 _ _ _ L5.out Tryz.underlying28 rfl (by kernel_rfl) ?_))
  refine (y_bits HR.out _ q).mono ?_
  rw [P2.out]
  rintro e w6 ⟨rfl, h6⟩
  have M6 := Lib.hid (M5.out.more h6)
  clear h6
  go_wp2_with fail
  refine (write_any F5 p kn D5 _ 0 w6 M6.out.view (by have := M6.out.inv.len; omega)).mono ?_
  intro e w7 he
  rcases M6.out.step (More.refl _) HK.out G2.out he with ⟨a', hE, rfl, hd', ht', _⟩ | ⟨x7, D7, F7, hE, rfl, M7, hq7, _, _⟩
  · exact ⟨rfl, NEED.out a' w7 (R5.out.symm.trans hE) hd' ht'⟩
  have FIN := Lib.hid (DONE.out () w7 D7 F7 (R5.out.symm.trans hE) M7)
  clear he hE M7
  go_wp2_with fail
  go_end0
  exact FIN.out

theorem e_classes (k : Int) (w : World) : Calls Tryz.prog 72 #[.int .i64 k] w (Gives w (.bool (clsB k))) := by
  by_cases h : 1 ≤ k
  · rw [show clsB k = decide (k ≤ 5) by unfold clsB; simp [h]]
    have d0 : decide (1 ≤ k) = true := by simp [h]
    go_enter Tryz.func72, Tryz.ntmps72
    go_wp2_with fail
    go_ret
    exact ⟨rfl, More.refl _⟩
  · rw [show clsB k = false by unfold clsB; simp [h]]
    have d0 : decide (1 ≤ k) = false := by simp [h]
    go_enter Tryz.func72, Tryz.ntmps72
    go_wp2_with fail
    go_ret
    exact ⟨rfl, More.refl _⟩
theorem e_fits (k m : Int) (w : World) : Calls Tryz.prog 44 #[.int .i64 k, .int .i64 m] w (Gives w (.bool (fitB k m))) := by
  by_cases h : k = 6
  · subst h
    rw [show fitB 6 m = true by unfold fitB; simp]
    go_enter Tryz.func44, Tryz.ntmps44
    go_wp2_with fail
    go_ret
    exact ⟨rfl, More.refl _⟩
  · have d0 : (k == 6) = false := by simp [h]
    have d1 : (m == 1) = decide (m = 1) := by by_cases q : m = 1 <;> simp [q]
    cases hc : clsB k with
    | true =>
      rw [show fitB k m = decide (m = 1) by unfold fitB; simp [h, hc]]
      go_enter Tryz.func44, Tryz.ntmps44
      go_wp2_with fail
      refine (e_classes k _).mono ?_
      rw [hc]
      rintro e w2 ⟨rfl, h2⟩
      have H2 := Lib.hid h2
      clear h2
      go_wp2_with fail
      go_ret
      exact ⟨rfl, H2.out⟩
    | false =>
      rw [show fitB k m = false by unfold fitB; simp [h, hc]]
      go_enter Tryz.func44, Tryz.ntmps44
      go_wp2_with fail
      refine (e_classes k _).mono ?_
      rw [hc]
      rintro e w2 ⟨rfl, h2⟩
      have H2 := Lib.hid h2
      clear h2
      go_wp2_with fail
      go_ret
      exact ⟨rfl, H2.out⟩
end Go.Proofs.YtogfikemodaepaaGreat
