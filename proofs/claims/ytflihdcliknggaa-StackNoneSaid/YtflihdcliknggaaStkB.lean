/-
  The landed package stack: pushing, popping, telling how many.
-/
import Derived.Test.YtflihdcliknggaaStkA
namespace Go.Proofs.Ytflihdcliknggaa
open Go.RowKit Go.Sort Go.Maps Go.Shelf
set_option linter.unusedVariables false
set_option linter.unusedSimpArgs false

set_option maxRecDepth 100000 in
theorem st_end0_word (b l : Int) (h : stThere b l = false) (v : Value) (w : World) : Calls Try.prog 21 #[.agg (stArr b l), v, .func (.func 22) #[] #[]] w (Gives w (.tuple #[.int .i64 0, .int .i64 0])) := by
  obtain ⟨w1, e1, h1, m1, s1⟩ := entry1 w (.cells (stArr b l) 52)
  obtain ⟨c0, c1⟩ := box2 h1
  have MM := Lib.hid m1
  have H1 := Lib.hid h1
  have W0 := Lib.hid (fun k => stWord_out (k := k) h)
  have K0 := Lib.hid (st_kept0 b l h v w1)
  clear h1 m1 h
  go_enter Try.func21, Try.ntmps21
  go_wp2_with fail
  refine K0.out.mono ?_
  rintro e w2 ⟨rfl, h2⟩
  obtain ⟨d0, d1⟩ := box2 (h2.block H1.out)
  have M2 := Lib.hid (MM.out.trans h2)
  clear h2 c0 c1
  go_wp2_with fail
  refine (st_word b l _ _).mono ?_
  rw [W0.out]
  rintro e w3 ⟨rfl, h3⟩
  have M3 := Lib.hid (M2.out.trans h3)
  clear h3
  go_wp2_with fail
  go_ret2
  exact ⟨rfl, M3.out⟩
set_option maxRecDepth 100000 in
set_option maxHeartbeats 1000000 in
theorem st_end_word {b l : Int} {n : Nat} (H : StIn b l n) (F : Nat → Prop) (p : Nat) (kn : Int → Option Int) (D : List KV) (w : World) (hv : ViewAt w F p kn D) (hk : OkK kn) (hD : InvD n D) :
    Calls Try.prog 21 #[.agg (stArr b l), .pointer (some ⟨p, 0, none⟩), .func (.func 22) #[] #[]] w (WentV w F p kn (fun x : Int × Int => .tuple #[.int .i64 x.1, .int .i64 x.2]) (stEndP true b l kn D)) := by
  obtain ⟨Rr, hRr⟩ : ∃ Rr, stEndP true b l kn D = Rr := ⟨_, rfl⟩
  rw [hRr]
  obtain ⟨w1, e1, hl1, m1, s1⟩ := entry1 w (.cells (stArr b l) 52)
  obtain ⟨c0, c1⟩ := box2 hl1
  have nFl : ¬ F w.heap.size := fun q => by have := hv.lt _ q; omega
  have MM := Lib.hid m1
  have L0 := Lib.hid hl1
  have M0 : Hid (MidV w1 w1 F (fun _ => False) p kn n D F) := Lib.hid (MidV.begin (hv.more m1) hD)
  have KL : Hid (∀ wr D' F', MidV w1 wr F (fun _ => False) p kn n D' F' → wr.heap[w.heap.size]? = some (.cells (stArr b l) 52 (0, 0))) := Lib.hid fun wr D' F' h => mid_own h L0.out nFl (fun q => q)
  have NEED : Hid (∀ a w2, Rr = .need a → DeadAt w2 p a → Turned (fun b => F b ∨ False) w1 w2 → WentV w F p kn (fun x : Int × Int => Value.tuple #[.int .i64 x.1, .int .i64 x.2]) Rr (.panicked (endOf p)) w2) := Lib.hid fun a w2 e hd ht => mid_need MM.out (fun _ q => q.elim) e hd ht
  have DONE : Hid (∀ (x : Int × Int) w2 D' F', Rr = .ok x D' → MidV w1 w2 F (fun _ => False) p kn n D' F' → WentV w F p kn (fun x : Int × Int => Value.tuple #[.int .i64 x.1, .int .i64 x.2]) Rr (.returned (.tuple #[.int .i64 x.1, .int .i64 x.2])) w2) := Lib.hid fun x w2 D' F' e h => mid_done MM.out (fun _ q => q.elim) h e
  have h1 := H.b1; have h0 := H.l0; have hh := H.hi; have ht := H.top
  have HK := Lib.hid hk
  have HH := Lib.hid H
  have HRr := Lib.hid hRr
  clear hl1 m1 hv hD hk nFl hRr
  go_enter Try.func21, Try.ntmps21
  go_wp2_with fail
  refine (st_kept HH.out F p kn D w1 M0.out.view HK.out M0.out.inv).mono ?_
  intro e w3 he
  rcases M0.out.step (More.refl _) HK.out (good_stKept HH.out) he with ⟨a', hE, rfl, hd', ht', _⟩ | ⟨y, D3, F3, hE, rfl, M3, hq3, _, _⟩
  · exact ⟨rfl, NEED.out a' w3 (HRr.out.symm.trans (bindP_need hE)) hd' ht'⟩
  have DON := Lib.hid (fun w4 (h4 : More w3 w4) => DONE.out (y, stWordV b l (if true then y else y - 1)) w4 D3 F3 (HRr.out.symm.trans (bindP_ok hE)) (M3.more h4))
  obtain ⟨d0, d1⟩ := box2 (KL.out _ _ _ M3)
  have hy0 := hq3.1
  have hy1 := hq3.2
  have W0 := Lib.hid (stWord_in (k := y) HH.out)
  have q1 := w64_in (x := y - 1) (by omega) (by omega)
  clear he hE c0 c1 hq3 M3
  go_wp2_with fail
  refine (st_word b l _ _).mono ?_
  rw [W0.out]
  rintro e w4 ⟨rfl, h4⟩
  have D4 := Lib.hid (DON.out w4 h4)
  clear h4
  go_wp2_with fail
  go_ret2
  exact D4.out

set_option maxRecDepth 100000 in
theorem st_end0_last (b l : Int) (h : stThere b l = false) (v : Value) (w : World) : Calls Try.prog 21 #[.agg (stArr b l), v, .func (.func 24) #[] #[]] w (Gives w (.tuple #[.int .i64 0, .int .i64 0])) := by
  obtain ⟨w1, e1, h1, m1, s1⟩ := entry1 w (.cells (stArr b l) 52)
  obtain ⟨c0, c1⟩ := box2 h1
  have MM := Lib.hid m1
  have H1 := Lib.hid h1
  have W0 := Lib.hid (fun k => stWord_out (k := k) h)
  have K0 := Lib.hid (st_kept0 b l h v w1)
  clear h1 m1 h
  go_enter Try.func21, Try.ntmps21
  go_wp2_with fail
  refine K0.out.mono ?_
  rintro e w2 ⟨rfl, h2⟩
  obtain ⟨d0, d1⟩ := box2 (h2.block H1.out)
  have M2 := Lib.hid (MM.out.trans h2)
  clear h2 c0 c1
  go_wp2_with fail
  refine (st_last b l _ _).mono ?_
  rw [W0.out]
  rintro e w3 ⟨rfl, h3⟩
  have M3 := Lib.hid (M2.out.trans h3)
  clear h3
  go_wp2_with fail
  go_ret2
  exact ⟨rfl, M3.out⟩
set_option maxRecDepth 100000 in
set_option maxHeartbeats 1000000 in
theorem st_end_last {b l : Int} {n : Nat} (H : StIn b l n) (F : Nat → Prop) (p : Nat) (kn : Int → Option Int) (D : List KV) (w : World) (hv : ViewAt w F p kn D) (hk : OkK kn) (hD : InvD n D) :
    Calls Try.prog 21 #[.agg (stArr b l), .pointer (some ⟨p, 0, none⟩), .func (.func 24) #[] #[]] w (WentV w F p kn (fun x : Int × Int => .tuple #[.int .i64 x.1, .int .i64 x.2]) (stEndP false b l kn D)) := by
  obtain ⟨Rr, hRr⟩ : ∃ Rr, stEndP false b l kn D = Rr := ⟨_, rfl⟩
  rw [hRr]
  obtain ⟨w1, e1, hl1, m1, s1⟩ := entry1 w (.cells (stArr b l) 52)
  obtain ⟨c0, c1⟩ := box2 hl1
  have nFl : ¬ F w.heap.size := fun q => by have := hv.lt _ q; omega
  have MM := Lib.hid m1
  have L0 := Lib.hid hl1
  have M0 : Hid (MidV w1 w1 F (fun _ => False) p kn n D F) := Lib.hid (MidV.begin (hv.more m1) hD)
  have KL : Hid (∀ wr D' F', MidV w1 wr F (fun _ => False) p kn n D' F' → wr.heap[w.heap.size]? = some (.cells (stArr b l) 52 (0, 0))) := Lib.hid fun wr D' F' h => mid_own h L0.out nFl (fun q => q)
  have NEED : Hid (∀ a w2, Rr = .need a → DeadAt w2 p a → Turned (fun b => F b ∨ False) w1 w2 → WentV w F p kn (fun x : Int × Int => Value.tuple #[.int .i64 x.1, .int .i64 x.2]) Rr (.panicked (endOf p)) w2) := Lib.hid fun a w2 e hd ht => mid_need MM.out (fun _ q => q.elim) e hd ht
  have DONE : Hid (∀ (x : Int × Int) w2 D' F', Rr = .ok x D' → MidV w1 w2 F (fun _ => False) p kn n D' F' → WentV w F p kn (fun x : Int × Int => Value.tuple #[.int .i64 x.1, .int .i64 x.2]) Rr (.returned (.tuple #[.int .i64 x.1, .int .i64 x.2])) w2) := Lib.hid fun x w2 D' F' e h => mid_done MM.out (fun _ q => q.elim) h e
  have h1 := H.b1; have h0 := H.l0; have hh := H.hi; have ht := H.top
  have HK := Lib.hid hk
  have HH := Lib.hid H
  have HRr := Lib.hid hRr
  clear hl1 m1 hv hD hk nFl hRr
  go_enter Try.func21, Try.ntmps21
  go_wp2_with fail
  refine (st_kept HH.out F p kn D w1 M0.out.view HK.out M0.out.inv).mono ?_
  intro e w3 he
  rcases M0.out.step (More.refl _) HK.out (good_stKept HH.out) he with ⟨a', hE, rfl, hd', ht', _⟩ | ⟨y, D3, F3, hE, rfl, M3, hq3, _, _⟩
  · exact ⟨rfl, NEED.out a' w3 (HRr.out.symm.trans (bindP_need hE)) hd' ht'⟩
  have DON := Lib.hid (fun w4 (h4 : More w3 w4) => DONE.out (y, stWordV b l (if false then y else y - 1)) w4 D3 F3 (HRr.out.symm.trans (bindP_ok hE)) (M3.more h4))
  obtain ⟨d0, d1⟩ := box2 (KL.out _ _ _ M3)
  have hy0 := hq3.1
  have hy1 := hq3.2
  have W0 := Lib.hid (stWord_in (k := y - 1) HH.out)
  have q1 := w64_in (x := y - 1) (by omega) (by omega)
  clear he hE c0 c1 hq3 M3
  go_wp2_with fail
  refine (st_last b l _ _).mono ?_
  rw [q1, W0.out]
  rintro e w4 ⟨rfl, h4⟩
  have D4 := Lib.hid (DON.out w4 h4)
  clear h4
  go_wp2_with fail
  go_ret2
  exact D4.out
end Go.Proofs.Ytflihdcliknggaa
