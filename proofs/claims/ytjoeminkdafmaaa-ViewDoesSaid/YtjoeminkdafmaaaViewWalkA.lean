/-
  The walk over ViewRuns.
-/
import Derived.Test.YtjoeminkdafmaaaViewLives
namespace Go.Proofs.Ytjoeminkdafmaaa
open Go.RowKit Go.Sort Go.Maps Go.Shelf
set_option linter.unusedVariables false
set_option linter.unusedSimpArgs false

/-- What both runs answer is the same. -/
theorem ran_both {w1 w1' w2 w2' : World} {R : Ran} {e1 e2 : Ending} (h1 : RanR w1 R e1 w1') (h2 : RanR w2 R e2 w2') (m : More w1' w2) :
    ∃ (x : Int) (a1 a2 : Option Addr) (c1 c2 : Nat) (ps : List KV), e1 = .returned (.tuple #[.int .i64 x, .slice a1 ps.length c1]) ∧ e2 = .returned (.tuple #[.int .i64 x, .slice a2 ps.length c2]) ∧ IsPairs w2' a1 ps ∧ IsPairs w2' a2 ps ∧ (∀ D, R = .done D → ps = D) ∧ (∀ a, R = .need a → ps = []) := by
  cases R with
  | need a => exact ⟨a, none, none, 0, 0, [], h1.1, h2.1, .inl rfl, .inl rfl, (fun D e => by cases e), fun _ _ => rfl⟩
  | done D =>
    obtain ⟨v1, r1, p1, m1⟩ := h1
    obtain ⟨v2, r2, p2, m2⟩ := h2
    obtain ⟨a1, c1, rfl, q1, _⟩ := p1.reads
    obtain ⟨a2, c2, rfl, q2, _⟩ := p2.reads
    exact ⟨-1, a1, a2, c1, c2, D, r1, r2, q1.more (m.trans m2), q2, (fun D' e => by cases e; rfl), (fun a e => by cases e)⟩
theorem ranR_more {w w' : World} {R : Ran} {e : Ending} (h : RanR w R e w') : More w w' := by
  cases R with
  | need a => exact h.2
  | done D => obtain ⟨_, _, _, m⟩ := h; exact m
theorem ranR_shape {w w' : World} {R : Ran} {e : Ending} (h : RanR w R e w') : ∃ x a n c, e = .returned (.tuple #[.int .i64 x, .slice a n c]) := by
  cases R with
  | need a => exact ⟨_, _, _, _, h.1⟩
  | done D =>
    obtain ⟨v1, r1, p1, m1⟩ := h
    obtain ⟨a1, c1, rfl, q1, _⟩ := p1.reads
    exact ⟨_, _, _, _, r1⟩

set_option maxRecDepth 100000 in
set_option maxHeartbeats 4000000 in
theorem runs_walk (a0 : Option Addr) (cap0 : Nat) (ps : List KV) (a1 : Option Addr) (cap1 : Nat) (l : List Ins3) (w : World) (h0 : IsPairs w a0 ps) (o0 : OkPs ps) (m0 : ps.length ≤ 9223372036854775807) (h1 : IsIns w a1 l) (o1 : OkP l) (m1 : l.length ≤ 9223372036854775807) :
    Calls Try.prog 3 #[.slice a0 ps.length cap0, .slice a1 l.length cap1] w (Gives w (.bool true)) := by
  have HM : Hid (More w w) := More.refl w
  by_cases hk : ps.length ≤ 100
  · have d0 : decide ((100 : Int) < (ps.length : Int)) = false := by simp; omega
    by_cases hl : l.length ≤ 200
    · have d1 : decide ((200 : Int) < (l.length : Int)) = false := by simp; omega
      obtain ⟨R, hR⟩ : ∃ R, runP (look ps) l false 0 [] = R := ⟨_, rfl⟩
      have R1 := Lib.hid (lruns_ok a0 a1 cap0 cap1 ps l R w h0 h1 (by omega) (by omega) o0 o1 hR)
      have R2 : Hid (∀ w1, More w w1 → Calls Try.prog 11 #[.slice a0 ps.length cap0, .slice a1 l.length cap1] w1 (RanR w1 R)) := Lib.hid fun w1 hm => rrun_ok a0 a1 cap0 cap1 ps l R w1 (h0.more hm) (h1.more hm) (by omega) (by omega) hR
      have hlen : ∀ D, R = .done D → D.length ≤ 1000 := fun D e => by
        have := runP_fine (okK_look o0) l false 0 [] l.length o1 (by unfold W64; omega) okD_nil asc_nil (by simp)
        rw [hR, e] at this
        have := this.2.2; omega
      have HLEN := Lib.hid hlen
      clear h0 h1 o0 o1 hR hlen hk hl
      go_enter Try.func3, Try.ntmps3
      go_wp2_with fail
      refine R1.out.mono ?_
      intro e1 w1 he1
      obtain ⟨x1, y1, n1, z1, rfl⟩ := ranR_shape he1
      have M1 := Lib.hid (ranR_more he1)
      have HE1 := Lib.hid he1
      clear he1
      go_wp2_with fail
      refine (R2.out w1 M1.out).mono ?_
      intro e2 w2 he2
      obtain ⟨x, b1, b2, c1, c2, qs, e1, rfl, q1, q2, k1, k2⟩ := ran_both HE1.out he2 (More.refl w1)
      cases e1
      have M2 := Lib.hid (M1.out.trans (ranR_more he2))
      have hq : qs.length ≤ 1000 := by
        cases R with
        | need a => rw [k2 a rfl]; simp
        | done D => rw [k1 D rfl]; exact HLEN.out D rfl
      have SM := Lib.hid (pairs_same qs y1 b2 z1 c2 w2 (by omega) q1 q2)
      clear he2 q1 q2 k1 k2 R1 R2 HE1
      have b0 : (x1 == x1) = true := by simp
      go_wp2_with fail
      refine SM.out.mono ?_
      rintro e w3 ⟨rfl, hm3⟩
      have M3 := Lib.hid (M2.out.trans hm3)
      clear hm3
      go_wp2_with fail
      refine (lives_ok w3).mono ?_
      rintro e w4 ⟨rfl, hm4⟩
      have M4 := Lib.hid (M3.out.trans hm4)
      clear hm4
      go_wp2_with fail
      go_ret
      exact ⟨rfl, M4.out⟩
    · have d1 : decide ((200 : Int) < (l.length : Int)) = true := by simp; omega
      clear h0 h1 o0 o1 hl hk
      go_enter Try.func3, Try.ntmps3
      go_wp2_with fail
      refine (lives_ok w).mono ?_
      rintro e w3 ⟨rfl, hm3⟩
      have M3 := Lib.hid hm3
      clear hm3
      go_wp2_with fail
      go_ret
      exact ⟨rfl, M3.out⟩
  · have d0 : decide ((100 : Int) < (ps.length : Int)) = true := by simp; omega
    clear h0 h1 o0 o1 hk
    go_enter Try.func3, Try.ntmps3
    go_wp2_with fail
    refine (lives_ok w).mono ?_
    rintro e w3 ⟨rfl, hm3⟩
    have M3 := Lib.hid hm3
    clear hm3
    go_wp2_with fail
    go_ret
    exact ⟨rfl, M3.out⟩
end Go.Proofs.Ytjoeminkdafmaaa
