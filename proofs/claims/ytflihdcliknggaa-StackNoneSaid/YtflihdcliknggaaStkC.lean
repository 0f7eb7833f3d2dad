/-
  The landed package stack: pushing, popping, telling how many.
-/
import Derived.Test.YtflihdcliknggaaStkB
namespace Go.Proofs.Ytflihdcliknggaa
open Go.RowKit Go.Sort Go.Maps Go.Shelf
set_option linter.unusedVariables false
set_option linter.unusedSimpArgs false

set_option maxRecDepth 100000 in
theorem st_Push0 (b l x : Int) (h : stThere b l = false) (v : Value) (w : World) : Calls Try.prog 9 #[v, .int .i64 b, .int .i64 l, .int .i64 x] w (Gives w (.bool false)) := by
  have K0 := Lib.hid (st_end0_word b l h v w)
  clear h
  go_enter Try.func9, Try.ntmps9
  go_wp2_with fail
  refine K0.out.mono ?_
  rintro e w2 ⟨rfl, h2⟩
  have M2 := Lib.hid h2
  clear h2
  go_wp2_with fail
  go_ret
  exact ⟨rfl, M2.out⟩
set_option maxRecDepth 100000 in
theorem st_Pop0 (b l : Int) (h : stThere b l = false) (v : Value) (w : World) : Calls Try.prog 10 #[v, .int .i64 b, .int .i64 l] w (Gives w (.tuple #[.int .i64 0, .bool false])) := by
  have K0 := Lib.hid (st_end0_last b l h v w)
  clear h
  go_enter Try.func10, Try.ntmps10
  go_wp2_with fail
  refine K0.out.mono ?_
  rintro e w2 ⟨rfl, h2⟩
  have M2 := Lib.hid h2
  clear h2
  go_wp2_with fail
  go_ret2
  exact ⟨rfl, M2.out⟩
set_option maxRecDepth 100000 in
theorem st_Len0 (b l : Int) (h : stThere b l = false) (v : Value) (w : World) : Calls Try.prog 11 #[v, .int .i64 b, .int .i64 l] w (Gives w (.int .i64 0)) := by
  have K0 := Lib.hid (st_kept0 b l h v w)
  clear h
  go_enter Try.func11, Try.ntmps11
  go_wp2_with fail
  refine K0.out.mono ?_
  rintro e w2 ⟨rfl, h2⟩
  have M2 := Lib.hid h2
  clear h2
  go_wp2_with fail
  go_ret
  exact ⟨rfl, M2.out⟩
set_option maxRecDepth 100000 in
set_option maxHeartbeats 1000000 in
theorem st_Push {b l : Int} {n : Nat} (H : StIn b l n) (F : Nat → Prop) (p : Nat) (kn : Int → Option Int) (D : List KV) (x : Int) (hx : W64 x) (w : World) (hv : ViewAt w F p kn D) (hk : OkK kn) (hD : InvD n D) :
    Calls Try.prog 9 #[.pointer (some ⟨p, 0, none⟩), .int .i64 b, .int .i64 l, .int .i64 x] w (WentV w F p kn (fun b => .bool b) (stPushP b l x kn D)) := by
  obtain ⟨Rr, hRr⟩ : ∃ Rr, stPushP b l x kn D = Rr := ⟨_, rfl⟩
  rw [hRr]
  have M0 : Hid (MidV w w F (fun _ => False) p kn n D F) := Lib.hid (MidV.begin hv hD)
  have MM := Lib.hid (More.refl w)
  have NEED : Hid (∀ a w2, Rr = .need a → DeadAt w2 p a → Turned (fun b => F b ∨ False) w w2 → WentV w F p kn (fun x : Bool => Value.bool x) Rr (.panicked (endOf p)) w2) := Lib.hid fun a w2 e hd ht => mid_need MM.out (fun _ q => q.elim) e hd ht
  have DONE : Hid (∀ x w2 D' F', Rr = .ok x D' → MidV w w2 F (fun _ => False) p kn n D' F' → WentV w F p kn (fun x : Bool => Value.bool x) Rr (.returned ((fun x : Bool => Value.bool x) x)) w2) := Lib.hid fun x w2 D' F' e h => mid_done MM.out (fun _ q => q.elim) h e
  have h1 := H.b1; have h0 := H.l0; have hh := H.hi; have ht := H.top
  have HX := Lib.hid hx
  have HK := Lib.hid hk
  have HH := Lib.hid H
  have HRr := Lib.hid hRr
  clear hv hD hk hRr hx
  go_enter Try.func9, Try.ntmps9
  go_wp2_with fail
  refine (st_end_word HH.out F p kn D w M0.out.view HK.out M0.out.inv).mono ?_
  intro e w3 he
  rcases M0.out.step (More.refl _) HK.out (good_stEnd HH.out true) he with ⟨a', hE, rfl, hd', ht', _⟩ | ⟨y, D3, F3, hE, rfl, M3, hq3, _, _⟩
  · exact ⟨rfl, NEED.out a' w3 (HRr.out.symm.trans (bindP_need hE)) hd' ht'⟩
  obtain ⟨y, z⟩ := y
  obtain ⟨q0, q1, q2⟩ := hq3
  simp only at q0 q1 q2
  have R3 := Lib.hid ((bindP_ok hE).symm.trans HRr.out)
  have M3 := Lib.hid M3
  clear he hE
  by_cases z0 : z = 0
  · have FIN := Lib.hid (DONE.out false w3 D3 F3 (by have := R3.out; rw [if_pos z0] at this; exact this.symm) M3.out)
    have g0 : (z == 0) = true := by simp [z0]
    clear z0 R3 q2
    go_wp2_with fail
    go_ret
    exact FIN.out
  · have g0 : (z == 0) = false := by simp [z0]
    have R3' := R3.out
    simp only [] at R3'
    rw [if_neg z0] at R3'
    have RB := Lib.hid R3'
    clear R3' R3
    have q3 := Lib.hid (q2.resolve_left z0)
    have q4 := w64_in (x := y + 1) (by omega) (by omega)
    clear z0 q2
    go_wp2_with fail
    refine (write_any F3 p kn D3 z x w3 M3.out.view (by have := M3.out.inv.len; omega)).mono ?_
    intro e w4 he
    rcases M3.out.step (More.refl _) HK.out (good_write n (by have := q3.out; unfold W64; omega) (by have := q3.out; omega) HX.out) he with ⟨a', hE, rfl, hd', ht', _⟩ | ⟨x4, D4, F4, hE, rfl, M4, hq4, _, _⟩
    · exact ⟨rfl, NEED.out a' w4 (RB.out.symm.trans (bindP_need hE)) hd' ht'⟩
    have R4 := Lib.hid ((bindP_ok hE).symm.trans RB.out)
    have M4 := Lib.hid M4
    clear he hE
    go_wp2_with fail
    refine (write_any F4 p kn D4 b (y + 1) w4 M4.out.view (by have := M4.out.inv.len; omega)).mono ?_
    intro e w5 he
    rcases M4.out.step (More.refl _) HK.out (good_write n (by unfold W64; omega) (by omega) (by unfold W64; omega)) he with ⟨a', hE, rfl, hd', ht', _⟩ | ⟨x5, D5, F5, hE, rfl, M5, hq5, _, _⟩
    · exact ⟨rfl, NEED.out a' w5 (R4.out.symm.trans (bindP_need hE)) hd' ht'⟩
    have FIN := Lib.hid (DONE.out true w5 D5 F5 (by have := (bindP_ok hE).symm.trans R4.out; exact this.symm) M5)
    clear he hE
    go_wp2_with fail
    go_ret
    exact FIN.out
set_option maxRecDepth 100000 in
set_option maxHeartbeats 1000000 in
theorem st_Pop {b l : Int} {n : Nat} (H : StIn b l n) (F : Nat → Prop) (p : Nat) (kn : Int → Option Int) (D : List KV) (w : World) (hv : ViewAt w F p kn D) (hk : OkK kn) (hD : InvD n D) :
    Calls Try.prog 10 #[.pointer (some ⟨p, 0, none⟩), .int .i64 b, .int .i64 l] w (WentV w F p kn (fun x : Int × Bool => .tuple #[.int .i64 x.1, .bool x.2]) (stPopP b l kn D)) := by
  obtain ⟨Rr, hRr⟩ : ∃ Rr, stPopP b l kn D = Rr := ⟨_, rfl⟩
  rw [hRr]
  have M0 : Hid (MidV w w F (fun _ => False) p kn n D F) := Lib.hid (MidV.begin hv hD)
  have MM := Lib.hid (More.refl w)
  have NEED : Hid (∀ a w2, Rr = .need a → DeadAt w2 p a → Turned (fun b => F b ∨ False) w w2 → WentV w F p kn (fun x : Int × Bool => Value.tuple #[.int .i64 x.1, .bool x.2]) Rr (.panicked (endOf p)) w2) := Lib.hid fun a w2 e hd ht => mid_need MM.out (fun _ q => q.elim) e hd ht
  have DONE : Hid (∀ (x : Int × Bool) w2 D' F', Rr = .ok x D' → MidV w w2 F (fun _ => False) p kn n D' F' → WentV w F p kn (fun x : Int × Bool => Value.tuple #[.int .i64 x.1, .bool x.2]) Rr (.returned (.tuple #[.int .i64 x.1, .bool x.2])) w2) := Lib.hid fun x w2 D' F' e h => mid_done MM.out (fun _ q => q.elim) h e
  have h1 := H.b1; have h0 := H.l0; have hh := H.hi; have ht := H.top
  have HK := Lib.hid hk
  have HH := Lib.hid H
  have HRr := Lib.hid hRr
  clear hv hD hk hRr
  go_enter Try.func10, Try.ntmps10
  go_wp2_with fail
  refine (st_end_last HH.out F p kn D w M0.out.view HK.out M0.out.inv).mono ?_
  intro e w3 he
  rcases M0.out.step (More.refl _) HK.out (good_stEnd HH.out false) he with ⟨a', hE, rfl, hd', ht', _⟩ | ⟨y, D3, F3, hE, rfl, M3, hq3, _, _⟩
  · exact ⟨rfl, NEED.out a' w3 (HRr.out.symm.trans (bindP_need hE)) hd' ht'⟩
  obtain ⟨y, z⟩ := y
  obtain ⟨q0, q1, q2⟩ := hq3
  simp only at q0 q1 q2
  have R3 := Lib.hid ((bindP_ok hE).symm.trans HRr.out)
  have M3 := Lib.hid M3
  clear he hE
  by_cases z0 : z = 0
  · have FIN := Lib.hid (DONE.out (0, false) w3 D3 F3 (by have := R3.out; rw [if_pos z0] at this; exact this.symm) M3.out)
    have g0 : (z == 0) = true := by simp [z0]
    clear z0 R3 q2
    go_wp2_with fail
    go_ret2
    exact FIN.out
  · have g0 : (z == 0) = false := by simp [z0]
    have R3' := R3.out
    simp only [] at R3'
    rw [if_neg z0] at R3'
    have RB := Lib.hid R3'
    clear R3' R3
    have q3 := Lib.hid (q2.resolve_left z0)
    have q4 := w64_in (x := y - 1) (by omega) (by omega)
    clear z0 q2
    go_wp2_with fail
    refine (read_any F3 p kn D3 z w3 M3.out.view (by have := q3.out; unfold W64; omega)).mono ?_
    intro e w4 he
    rcases M3.out.step (More.refl _) HK.out (good_read n (by have := q3.out; omega)) he with ⟨a', hE, rfl, hd', ht', _⟩ | ⟨x4, D4, F4, hE, rfl, M4, hq4, _, _⟩
    · exact ⟨rfl, NEED.out a' w4 (RB.out.symm.trans (bindP_need hE)) hd' ht'⟩
    have R4 := Lib.hid ((bindP_ok hE).symm.trans RB.out)
    have M4 := Lib.hid M4
    clear he hE
    go_wp2_with fail
    refine (write_any F4 p kn D4 b (y - 1) w4 M4.out.view (by have := M4.out.inv.len; omega)).mono ?_
    intro e w5 he
    rcases M4.out.step (More.refl _) HK.out (good_write n (by unfold W64; omega) (by omega) (by unfold W64; omega)) he with ⟨a', hE, rfl, hd', ht', _⟩ | ⟨x5, D5, F5, hE, rfl, M5, hq5, _, _⟩
    · exact ⟨rfl, NEED.out a' w5 (R4.out.symm.trans (bindP_need hE)) hd' ht'⟩
    have FIN := Lib.hid (DONE.out (x4, true) w5 D5 F5 (by have := (bindP_ok hE).symm.trans R4.out; exact this.symm) M5)
    clear he hE
    go_wp2_with fail
    go_ret2
    exact FIN.out
theorem st_Len {b l : Int} {n : Nat} (H : StIn b l n) (F : Nat → Prop) (p : Nat) (kn : Int → Option Int) (D : List KV) (w : World) (hv : ViewAt w F p kn D) (hk : OkK kn) (hD : InvD n D) :
    Calls Try.prog 11 #[.pointer (some ⟨p, 0, none⟩), .int .i64 b, .int .i64 l] w (WentV w F p kn (fun x => .int .i64 x) (stKeptP b l kn D)) := by
  have K := Lib.hid (st_kept H F p kn D w hv hk hD)
  generalize stKeptP b l kn D = Rr at K ⊢
  clear hv hk hD H
  go_enter Try.func11, Try.ntmps11
  go_wp2_with fail
  refine K.out.mono ?_
  intro e w2 he
  cases Rr with
  | need a =>
    have hE' := he.1
    subst hE'
    exact ⟨rfl, he⟩
  | ok x D' =>
    have hE' := he.1
    subst hE'
    have HEE := Lib.hid he
    clear he K
    go_wp2_with fail
    go_ret
    exact HEE.out
end Go.Proofs.Ytflihdcliknggaa
