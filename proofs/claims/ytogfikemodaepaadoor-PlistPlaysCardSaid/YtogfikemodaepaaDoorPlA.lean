/-
  The landed package plist: what a word leads to, joining two pages.
-/
import Derived.Test.YtogfikemodaepaaDoorPlD
import Derived.Test.YtogfikemodaepaaDoorReg
namespace Go.Proofs.YtogfikemodaepaaDoor
open Go.RowKit Go.Sort Go.Maps Go.Shelf
set_option linter.unusedVariables false
set_option linter.unusedSimpArgs false

theorem y_next {c : Cfg} (R : c.Ok) (w : World) (k : Int) : Calls Tryd.prog 44 #[.agg c.arr, .int .i64 k] w (Gives w (.int .i64 (pageV c.pg c.st 3 k))) := xnext R w k
theorem y_prev {c : Cfg} (R : c.Ok) (w : World) (k : Int) : Calls Tryd.prog 46 #[.agg c.arr, .int .i64 k] w (Gives w (.int .i64 (pageV c.pg c.st 4 k))) := xprev R w k
theorem y_head {c : Cfg} (R : c.Ok) (w : World) (k f : Int) : Calls Tryd.prog 35 #[.agg c.arr, .int .i64 k, .int .i64 f] w (Gives w (.int .i64 (headV c.pg c.st k f))) := xhead R w k f

set_option maxRecDepth 100000 in
theorem pl_there {c : Cfg} (R : c.Ok) {n : Nat} (H : HdIn c.pg c.st n) (q : Int) (w : World) : Calls Tryd.prog 42 #[.agg c.arr, .int .i64 q] w (Gives w (.bool (isPage c.pg q))) := by
  have hz : (pageV c.pg c.st 3 q != 0) = isPage c.pg q := by
    cases h : isPage c.pg q with
    | true => rw [page3 h]; have := (nv_b H h).1.1; simp; omega
    | false => rw [pageN h]; rfl
  obtain ⟨w1, e1, hl1, m1, s1⟩ := entry1 w (.cells c.arr 28)
  have L0 := Lib.hid hl1
  have MM := Lib.hid m1
  have HR := Lib.hid R
  clear hl1 m1 R H
  go_enter Tryd.func42, Tryd.ntmps42
  go_wp2_with (first | (refine wpList_load_row rfl 28 _ rfl _ rfl 28 _ _ _ L0.out Tryd.underlying28 rfl (by kernel_rfl) ?_) | (refine wpList_load_rowG rfl 28 _ rfl _ rfl 28 _ _ _ L0.out Tryd.underlying28 rfl (by kernel_rfl) ?_))
  refine (y_next HR.out _ q).mono ?_
  rintro e w2 ⟨rfl, h2⟩
  have H2 := Lib.hid (MM.out.trans h2)
  clear h2
  go_wp2_with fail
  go_ret
  first
  | exact ⟨rfl, H2.out⟩
  | exact ⟨by rw [← hz], H2.out⟩

set_option maxRecDepth 100000 in
set_option maxHeartbeats 1000000 in
theorem pl_leads {c : Cfg} (R : c.Ok) {n : Nat} (H : HdIn c.pg c.st n) (F : Nat → Prop) (p : Nat) (kn : Int → Option Int) (D : List KV) (a : Int) (ha : W64 a) (hn : a < n) (w : World) (hv : ViewAt w F p kn D) (hk : OkK kn) (hD : InvD n D) :
    Calls Tryd.prog 34 #[.pointer (some ⟨p, 0, none⟩), .agg c.arr, .int .i64 a] w (WentV w F p kn (fun x => .int .i64 x) (plLeadP c.pg a kn D)) := by
  obtain ⟨Rr, hRr⟩ : ∃ Rr, plLeadP c.pg a kn D = Rr := ⟨_, rfl⟩
  rw [hRr]
  obtain ⟨w1, e1, hl1, m1, s1⟩ := entry1 w (.cells c.arr 28)
  have nFl : ¬ F w.heap.size := fun q => by have := hv.lt _ q; omega
  have MM := Lib.hid m1
  have L0 := Lib.hid hl1
  have M0 : Hid (MidV w1 w1 F (fun _ => False) p kn n D F) := Lib.hid (MidV.begin (hv.more m1) hD)
  have KL : Hid (∀ wr D' F', MidV w1 wr F (fun _ => False) p kn n D' F' → wr.heap[w.heap.size]? = some (.cells c.arr 28 (0, 0))) := Lib.hid fun wr D' F' h => mid_own h L0.out nFl (fun q => q)
  have NEED : Hid (∀ a w2, Rr = .need a → DeadAt w2 p a → Turned (fun b => F b ∨ False) w1 w2 → WentV w F p kn (fun x : Int => Value.int .i64 x) Rr (.panicked (endOf p)) w2) := Lib.hid fun a w2 e hd ht => mid_need MM.out (fun _ q => q.elim) e hd ht
  have DONE : Hid (∀ x w2 D' F', Rr = .ok x D' → MidV w1 w2 F (fun _ => False) p kn n D' F' → WentV w F p kn (fun x : Int => Value.int .i64 x) Rr (.returned ((fun x : Int => Value.int .i64 x) x)) w2) := Lib.hid fun x w2 D' F' e h => mid_done MM.out (fun _ q => q.elim) h e
  have HK := Lib.hid hk
  have HR := Lib.hid R
  have HH := Lib.hid H
  clear hl1 m1 hv hD hk R H nFl
  unfold plLeadP at hRr
  by_cases a0 : a = 0
  · rw [if_pos a0] at hRr
    have d0 : (a == 0) = true := by simp [a0]
    have FIN := Lib.hid (DONE.out (-1) w1 D F hRr.symm M0.out)
    clear hRr a0
    go_enter Tryd.func34, Tryd.ntmps34
    go_wp2_with fail
    go_ret
    exact FIN.out
  · rw [if_neg a0] at hRr
    have d0 : (a == 0) = false := by simp [a0]
    have HRr := Lib.hid hRr
    clear hRr a0
    go_enter Tryd.func34, Tryd.ntmps34
    go_wp2_with fail
    refine (read_any F p kn D a w1 M0.out.view ha).mono ?_
    intro e w2 he
    rcases M0.out.step (More.refl _) HK.out (good_read n hn) he with ⟨a', hE, rfl, hd', ht', _⟩ | ⟨x2, D2, F2, hE, rfl, M2, hq2, _, _⟩
    · exact ⟨rfl, NEED.out a' w2 (HRr.out.symm.trans (bindP_need hE)) hd' ht'⟩
    have L2 := Lib.hid (KL.out _ _ _ M2)
    have R2 := Lib.hid ((bindP_ok hE).symm.trans HRr.out)
    have M2 := Lib.hid M2
    clear he hE
    have HV := Lib.hid (show Rr = .ok (plWord c.pg x2) D2 from R2.out.symm)
    clear R2
    unfold plWord at HV
    obtain ⟨y, qy⟩ : ∃ y, IntKind.i64.wrap (x2 - 1) = y := ⟨_, rfl⟩
    rw [qy] at HV
    go_wp2_with (first | (refine wpList_load_row rfl 28 _ rfl _ rfl 28 _ _ _ L2.out Tryd.underlying28 rfl (by kernel_rfl) ?_) | (refine wpList_load_rowG rfl 28 _ rfl _ rfl 28 _ _ _ L2.out Tryd.underlying28 rfl (by kernel_rfl) ?_))
    clear qy
    refine (pl_there HR.out HH.out y _).mono ?_
    rintro e w3 ⟨rfl, h3⟩
    have M3 := Lib.hid (M2.out.more h3)
    clear h3
    cases hb : isPage c.pg y with
    | true =>
      have FIN := Lib.hid (DONE.out y w3 D2 F2 (by have := HV.out; rw [if_pos hb] at this; exact this) M3.out)
      clear HV hb
      go_wp2_with fail
      go_ret
      exact FIN.out
    | false =>
      have FIN := Lib.hid (DONE.out (-1) w3 D2 F2 (by have := HV.out; rw [if_neg (by rw [hb]; simp)] at this; exact this) M3.out)
      clear HV hb
      go_wp2_with fail
      go_ret
      exact FIN.out

set_option maxRecDepth 100000 in
set_option maxHeartbeats 1000000 in
theorem pl_join {c : Cfg} (R : c.Ok) {n : Nat} (H : HdIn c.pg c.st n) (hn : n ≤ 10000) (F : Nat → Prop) (p : Nat) (kn : Int → Option Int) (D : List KV) (h x y : Int) (h1 : W64 h) (h2 : h < n) (hx : x = -1 ∨ isPage c.pg x = true) (hy : y = -1 ∨ isPage c.pg y = true) (w : World) (hv : ViewAt w F p kn D) (hk : OkK kn) (hD : InvD n D) :
    Calls Tryd.prog 43 #[.pointer (some ⟨p, 0, none⟩), .agg c.arr, .int .i64 h, .int .i64 x, .int .i64 y] w (WentV w F p kn (fun _ : Unit => .tuple #[]) (plJoinP c.pg c.st h x y kn D)) := by
  obtain ⟨Rr, hRr⟩ : ∃ Rr, plJoinP c.pg c.st h x y kn D = Rr := ⟨_, rfl⟩
  rw [hRr]
  obtain ⟨w1, e1, hl1, m1, s1⟩ := entry1 w (.cells c.arr 28)
  have nFl : ¬ F w.heap.size := fun q => by have := hv.lt _ q; omega
  have MM := Lib.hid m1
  have L0 := Lib.hid hl1
  have M0 : Hid (MidV w1 w1 F (fun _ => False) p kn n D F) := Lib.hid (MidV.begin (hv.more m1) hD)
  have KL : Hid (∀ wr D' F', MidV w1 wr F (fun _ => False) p kn n D' F' → wr.heap[w.heap.size]? = some (.cells c.arr 28 (0, 0))) := Lib.hid fun wr D' F' h => mid_own h L0.out nFl (fun q => q)
  have NEED : Hid (∀ a w2, Rr = .need a → DeadAt w2 p a → Turned (fun b => F b ∨ False) w1 w2 → WentV w F p kn (fun _ : Unit => Value.tuple #[]) Rr (.panicked (endOf p)) w2) := Lib.hid fun a w2 e hd ht => mid_need MM.out (fun _ q => q.elim) e hd ht
  have DONE : Hid (∀ x w2 D' F', Rr = .ok x D' → MidV w1 w2 F (fun _ => False) p kn n D' F' → WentV w F p kn (fun _ : Unit => Value.tuple #[]) Rr (.returned ((fun _ : Unit => Value.tuple #[]) x)) w2) := Lib.hid fun x w2 D' F' e h => mid_done MM.out (fun _ q => q.elim) h e
  have HK := Lib.hid hk
  have HR := Lib.hid R
  have HH := Lib.hid H
  clear hl1 m1 hv hD hk R H nFl
  unfold plJoinP at hRr
  have pg2 := HR.out.pg2
  have hxw := pageW HH.out hx
  have hyw := pageW HH.out hy
  have qx : IntKind.i64.wrap (x + 1) = x + 1 := wrap_in hxw.1 hxw.2
  have qy : IntKind.i64.wrap (y + 1) = y + 1 := wrap_in hyw.1 hyw.2
  have GX := Lib.hid hxw
  have GY := Lib.hid hyw
  have PX := Lib.hid hx
  have PY := Lib.hid hy
  have PH := Lib.hid (And.intro h1 h2)
  clear hxw hyw hx hy h1 h2
  by_cases ex : x = -1
  · have d0 : (x == -1) = true := by simp [ex]
    rw [if_pos ex] at hRr
    have HRr := Lib.hid hRr
    clear hRr ex
    go_enter Tryd.func43, Tryd.ntmps43
    go_wp2_with fail
    refine (write_any F p kn D h (y + 1) w1 M0.out.view (by have := M0.out.inv.len; omega)).mono ?_
    intro e w2 he
    rcases M0.out.step (More.refl _) HK.out (good_write n PH.out.1 PH.out.2 GY.out) he with ⟨a', hE, rfl, hd', ht', _⟩ | ⟨x2, D2, F2, hE, rfl, M2, hq2, _, _⟩
    · exact ⟨rfl, NEED.out a' w2 (HRr.out.symm.trans (bindP_need hE)) hd' ht'⟩
    have L2 := Lib.hid (KL.out _ _ _ M2)
    have R2 := Lib.hid ((bindP_ok hE).symm.trans HRr.out)
    have M2 := Lib.hid M2
    clear he hE
    by_cases ey : y = -1
    · have d1 : (y != -1) = false := by simp [ey]
      have FIN := Lib.hid (DONE.out () w2 D2 F2 (by have := R2.out; rw [if_pos ey] at this; exact this.symm) M2.out)
      clear R2 ey
      go_wp2_with fail
      go_end0
      exact FIN.out
    · have d1 : (y != -1) = true := by simp [ey]
      have hpy := PY.out.resolve_left ey
      have P4 := Lib.hid (page4 (st := c.st) hpy)
      have NY := Lib.hid (nv_b HH.out hpy)
      have R2' := Lib.hid (by have := R2.out; rw [if_neg ey] at this; exact this)
      clear R2 ey hpy
      go_wp2_with (first | (refine wpList_load_row rfl 28 _ rfl _ rfl 28 _ _ _ L2.out Tryd.underlying28 rfl (by kernel_rfl) ?_) | (refine wpList_load_rowG rfl 28 _ rfl _ rfl 28 _ _ _ L2.out Tryd.underlying28 rfl (by kernel_rfl) ?_))
      refine (y_prev HR.out _ y).mono ?_
      rw [P4.out]
      rintro e w3 ⟨rfl, h3⟩
      have M3 := Lib.hid (M2.out.more h3)
      clear h3
      go_wp2_with fail
      refine (write_any F2 p kn D2 _ (x + 1) w3 M3.out.view (by have := M3.out.inv.len; omega)).mono ?_
      intro e w4 he
      rcases M3.out.step (More.refl _) HK.out (good_write n NY.out.2.2.2 NY.out.2.2.1 GX.out) he with ⟨a', hE, rfl, hd', ht', _⟩ | ⟨x4, D4, F4, hE, rfl, M4, hq4, _, _⟩
      · exact ⟨rfl, NEED.out a' w4 (R2'.out.symm.trans hE) hd' ht'⟩
      have FIN := Lib.hid (DONE.out () w4 D4 F4 (R2'.out.symm.trans hE) M4)
      clear he hE M4
      go_wp2_with fail
      go_end0
      exact FIN.out
  · have d0 : (x == -1) = false := by simp [ex]
    rw [if_neg ex] at hRr
    have hpx := PX.out.resolve_left ex
    have HRr := Lib.hid hRr
    have P3 := Lib.hid (page3 (st := c.st) hpx)
    have NB := Lib.hid (nv_b HH.out hpx)
    clear hRr ex hpx
    go_enter Tryd.func43, Tryd.ntmps43
    go_wp2_with (first | (refine wpList_load_row rfl 28 _ rfl _ rfl 28 _ _ _ L0.out Tryd.underlying28 rfl (by kernel_rfl) ?_) | (refine wpList_load_rowG rfl 28 _ rfl _ rfl 28 _ _ _ L0.out Tryd.underlying28 rfl (by kernel_rfl) ?_))
    refine (y_next HR.out _ x).mono ?_
    rw [P3.out]
    rintro e w5 ⟨rfl, h5⟩
    have M5 := Lib.hid (M0.out.more h5)
    clear h5
    go_wp2_with fail
    refine (write_any F p kn D _ (y + 1) w5 M5.out.view (by have := M5.out.inv.len; omega)).mono ?_
    intro e w2 he
    rcases M5.out.step (More.refl _) HK.out (good_write n NB.out.1.2.2 NB.out.1.2.1 GY.out) he with ⟨a', hE, rfl, hd', ht', _⟩ | ⟨x2, D2, F2, hE, rfl, M2, hq2, _, _⟩
    · exact ⟨rfl, NEED.out a' w2 (HRr.out.symm.trans (bindP_need hE)) hd' ht'⟩
    have L2 := Lib.hid (KL.out _ _ _ M2)
    have R2 := Lib.hid ((bindP_ok hE).symm.trans HRr.out)
    have M2 := Lib.hid M2
    clear he hE
    by_cases ey : y = -1
    · have d1 : (y != -1) = false := by simp [ey]
      have FIN := Lib.hid (DONE.out () w2 D2 F2 (by have := R2.out; rw [if_pos ey] at this; exact this.symm) M2.out)
      clear R2 ey
      go_wp2_with fail
      go_end0
      exact FIN.out
    · have d1 : (y != -1) = true := by simp [ey]
      have hpy := PY.out.resolve_left ey
      have P4 := Lib.hid (page4 (st := c.st) hpy)
      have NY := Lib.hid (nv_b HH.out hpy)
      have R2' := Lib.hid (by have := R2.out; rw [if_neg ey] at this; exact this)
      clear R2 ey hpy
      go_wp2_with (first | (refine wpList_load_row rfl 28 _ rfl _ rfl 28 _ _ _ L2.out Tryd.underlying28 rfl (by kernel_rfl) ?_) | (refine wpList_load_rowG rfl 28 _ rfl _ rfl 28 _ _ _ L2.out Tryd.underlying28 rfl (by kernel_rfl) ?_))
      refine (y_prev HR.out _ y).mono ?_
      rw [P4.out]
      rintro e w3 ⟨rfl, h3⟩
      have M3 := Lib.hid (M2.out.more h3)
      clear h3
      go_wp2_with fail
      refine (write_any F2 p kn D2 _ (x + 1) w3 M3.out.view (by have := M3.out.inv.len; omega)).mono ?_
      intro e w4 he
      rcases M3.out.step (More.refl _) HK.out (good_write n NY.out.2.2.2 NY.out.2.2.1 GX.out) he with ⟨a', hE, rfl, hd', ht', _⟩ | ⟨x4, D4, F4, hE, rfl, M4, hq4, _, _⟩
      · exact ⟨rfl, NEED.out a' w4 (R2'.out.symm.trans hE) hd' ht'⟩
      have FIN := Lib.hid (DONE.out () w4 D4 F4 (R2'.out.symm.trans hE) M4)
      clear he hE M4
      go_wp2_with fail
      go_end0
      exact FIN.out
end Go.Proofs.YtogfikemodaepaaDoor
