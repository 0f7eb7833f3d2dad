/-
  The walk over ViewMore.
-/
import Derived.Test.YtjoeminkdafmaaaViewMany
import Derived.Test.YtjoeminkdafmaaaViewWalkA
namespace Go.Proofs.Ytjoeminkdafmaaa
open Go.RowKit Go.Sort Go.Maps Go.Shelf
set_option linter.unusedVariables false
set_option linter.unusedSimpArgs false

/-- What is known besides does not matter to a run that is done. -/
theorem runP_more {kn kn' : Int → Option Int} (hk : ∀ a v, kn a = some v → kn' a = some v) : ∀ (l : List Ins3) (s : Bool) (x : Int) (D E : List KV), runP kn l s x D = .done E → runP kn' l s x D = .done E
  | [], s, x, D, E, h => h
  | i :: r, true, x, D, E, h => runP_more hk r false x D E h
  | (k, a, b) :: r, false, x, D, E, h => by
    have hw : ∀ a y, wordV kn D a = some y → wordV kn' D a = some y := by
      intro a y hy
      unfold wordV at hy ⊢
      split at hy
      · rename_i q; rw [if_pos q]; exact hy
      · rename_i q
        rw [if_neg q]
        cases e : look D a with
        | some v => rw [e] at hy; exact hy
        | none => rw [e] at hy; simp at hy ⊢; exact hk a y hy
    unfold runP at h ⊢
    split
    · rename_i q
      rw [if_pos q] at h
      cases e : wordV kn D a with
      | none => rw [e] at h; cases h
      | some y => rw [e] at h; rw [hw a y e]; exact runP_more hk r false y D E h
    rename_i q0; rw [if_neg q0] at h
    split
    · rename_i q; rw [if_pos q] at h; exact runP_more hk r false x _ E h
    rename_i q1; rw [if_neg q1] at h
    split
    · rename_i q; rw [if_pos q] at h; exact runP_more hk r false x _ E h
    rename_i q2; rw [if_neg q2] at h
    split
    · rename_i q
      rw [if_pos q] at h
      cases e : wordV kn D x with
      | none => rw [e] at h; cases h
      | some y => rw [e] at h; rw [hw x y e]; exact runP_more hk r false y D E h
    rename_i q3; rw [if_neg q3] at h
    split
    · rename_i q; rw [if_pos q] at h; exact runP_more hk r _ x D E h
    · rename_i q4; rw [if_neg q4] at h; exact runP_more hk r false x D E h
theorem look_more (K M : List KV) : ∀ a v, look K a = some v → look (K ++ M) a = some v := fun a v h => by rw [look_append, h]; rfl

set_option maxRecDepth 100000 in
set_option maxHeartbeats 4000000 in
theorem more_walk (a0 : Option Addr) (cap0 : Nat) (ps : List KV) (a1 : Option Addr) (cap1 : Nat) (l : List Ins3) (a2 : Option Addr) (cap2 : Nat) (qs : List KV) (w : World) (h0 : IsPairs w a0 ps) (o0 : OkPs ps) (m0 : ps.length ≤ 9223372036854775807) (h1 : IsIns w a1 l) (o1 : OkP l) (m1 : l.length ≤ 9223372036854775807) (h2 : IsPairs w a2 qs) (o2 : OkPs qs) (m2 : qs.length ≤ 9223372036854775807) :
    Calls Try.prog 7 #[.slice a0 ps.length cap0, .slice a1 l.length cap1, .slice a2 qs.length cap2] w (Gives w (.bool true)) := by
  by_cases hg : ps.length ≤ 60 ∧ qs.length ≤ 60 ∧ l.length ≤ 100
  · obtain ⟨hk, hq, hl⟩ := hg
    have d0 : decide ((60 : Int) < (ps.length : Int)) = false := by simp; omega
    have d1 : decide ((60 : Int) < (qs.length : Int)) = false := by simp; omega
    have d2 : decide ((100 : Int) < (l.length : Int)) = false := by simp; omega
    obtain ⟨R, hR⟩ : ∃ R, runP (look ps) l false 0 [] = R := ⟨_, rfl⟩
    obtain ⟨R', hR'⟩ : ∃ R, runP (look (ps ++ qs)) l false 0 [] = R := ⟨_, rfl⟩
    have hRR : ∀ D, R = .done D → R' = .done D ∧ D.length ≤ 1000 := fun D e => by
      refine ⟨by rw [← hR']; exact runP_more (look_more ps qs) l false 0 [] D (hR.trans e), ?_⟩
      have := runP_fine (okK_look o0) l false 0 [] l.length o1 (by unfold W64; omega) okD_nil asc_nil (by simp)
      rw [hR, e] at this
      have := this.2.2; omega
    have hNN : ∀ a, R = .need a → 0 ≤ a := fun a e => by
      have := runP_fine (okK_look o0) l false 0 [] l.length o1 (by unfold W64; omega) okD_nil asc_nil (by simp)
      rw [hR, e] at this
      exact this.1
    have okq : OkPs (ps ++ qs) := fun p hp => (List.mem_append.1 hp).elim (o0 p) (o2 p)
    have R1 := Lib.hid (lruns_ok a0 a1 cap0 cap1 ps l R w h0 h1 (by omega) (by omega) o0 o1 hR)
    have R2 : Hid (∀ a cap w1, More w w1 → IsPairs w1 a (ps ++ qs) → Calls Try.prog 10 #[.slice a (ps ++ qs).length cap, .slice a1 l.length cap1] w1 (RanR w1 R')) := Lib.hid fun a cap w1 hm hi => lruns_ok a a1 cap cap1 (ps ++ qs) l R' w1 hi (h1.more hm) (by simp; omega) (by omega) okq o1 hR'
    have HRR := Lib.hid hRR
    have HNN := Lib.hid hNN
    have H0 := Lib.hid h0
    have H2 := Lib.hid h2
    clear h0 h1 h2 o0 o1 o2 hR hR' hRR hNN okq
    go_enter Try.func7, Try.ntmps7
    go_wp2_with fail
    refine R1.out.mono ?_
    intro e1 w1 he1
    obtain ⟨x1, y1, n1, z1, rfl⟩ := ranR_shape he1
    have M1 := Lib.hid (ranR_more he1)
    have HE1 := Lib.hid he1
    have hb0 := heap_new w1 (.cells #[] 47)
    have P0 : Hid (PRw w1.heap.size (w1.alloc (.cells #[] 47)) (.slice (some ⟨w1.heap.size, 0, none⟩) 0 0) []) := Lib.hid (World.ownsRow_made w1 #[] 0 (Nat.le_refl _) (by simp only [maxLen]; omega) rfl)
    have M1a : Hid (More w1 (w1.alloc (.cells #[] 47))) := Lib.hid ((More.refl w1).alloc _)
    clear he1 hb0
    go_wp2_with (first
      | (at_builtin; refine wpList_pairs (wa := w1) (g := w1.heap.size) (cap := 0) (ps := []) (qs := ps) (a := a0) (ca := cap0) rfl _ _ rfl rfl P0.out M1a.out rfl (H0.out.more (M1.out.trans M1a.out)) (by simp; omega) ?_; intro g2 c2 w2 p2 t2; have P2 := Lib.hid p2; have T2 := Lib.hid t2; clear p2 t2)
      | (at_builtin; refine wpList_pairs (wa := w1) (g := g2) (cap := c2) (ps := [] ++ ps) (qs := qs) (a := a2) (ca := cap2) rfl _ _ rfl (by simp; rfl) P2.out T2.out rfl (H2.out.more (M1.out.trans T2.out)) (by simp; omega) ?_; intro g3 c3 w3 p3 t3; have P3 := Lib.hid p3; have T3 := Lib.hid t3; clear p3 t3))
    have C2 := R2.out (some ⟨g3, 0, none⟩) c3 w3 (M1.out.trans T3.out) (by have := P3.out; rw [List.nil_append] at this; exact this.isPairs)
    rw [List.length_append] at C2
    have C2 := Lib.hid C2
    refine C2.out.mono ?_
    intro e2 w4 he2
    cases R with
    | need a =>
      have hx : x1 = a ∧ y1 = none ∧ n1 = 0 ∧ z1 = 0 := by have := HE1.out.1; simpa using this
      obtain ⟨rfl, rfl, rfl, rfl⟩ := hx
      have h0 := HNN.out _ rfl
      have d4 : decide (0 ≤ x1) = true := by simpa using h0
      obtain ⟨x2, y2, n2, z2, rfl⟩ := ranR_shape he2
      have M4 := Lib.hid ((M1.out.trans T3.out).trans (ranR_more he2))
      clear he2 C2 R1 R2 HE1 P2 P3 P0
      go_wp2_with fail
      refine (lives_ok w4).mono ?_
      rintro e w5 ⟨rfl, hm5⟩
      have M5 := Lib.hid (M4.out.trans hm5)
      clear hm5
      go_wp2_with fail
      go_ret
      exact ⟨rfl, M5.out⟩
    | done D =>
      obtain ⟨rfl, hDl⟩ := HRR.out D rfl
      obtain ⟨x, b1, b2, c1, c2', rs, e1, rfl, q1, q2, k1, k2⟩ := ran_both HE1.out he2 T3.out
      have hrs := k1 D rfl
      subst hrs
      have hx1 : x1 = -1 := by
        obtain ⟨v, hv, _⟩ := HE1.out
        have := hv; simp at this; exact this.1
      subst hx1
      cases e1
      have M4 := Lib.hid ((M1.out.trans T3.out).trans (ranR_more he2))
      have SM := Lib.hid (pairs_same rs y1 b2 z1 c2' w4 (by omega) q1 q2)
      clear he2 q1 q2 k1 k2 C2 R1 R2 HE1 P2 P3 P0
      go_wp2_with fail
      refine SM.out.mono ?_
      rintro e w5 ⟨rfl, hm5⟩
      have M5 := Lib.hid (M4.out.trans hm5)
      clear hm5
      go_wp2_with fail
      refine (lives_ok w5).mono ?_
      rintro e w6 ⟨rfl, hm6⟩
      have M6 := Lib.hid (M5.out.trans hm6)
      clear hm6
      go_wp2_with fail
      go_ret
      exact ⟨rfl, M6.out⟩
  · have d3 : (decide ((60 : Int) < (ps.length : Int)) = true) ∨ (decide ((60 : Int) < (ps.length : Int)) = false ∧ decide ((60 : Int) < (qs.length : Int)) = true) ∨ (decide ((60 : Int) < (ps.length : Int)) = false ∧ decide ((60 : Int) < (qs.length : Int)) = false ∧ decide ((100 : Int) < (l.length : Int)) = true) := by
      simp; omega
    clear h0 h1 h2 o0 o1 o2 hg
    rcases d3 with d0 | ⟨d0, d1⟩ | ⟨d0, d1, d2⟩
    all_goals
      go_enter Try.func7, Try.ntmps7
      go_wp2_with fail
      refine (lives_ok w).mono ?_
      rintro e w3 ⟨rfl, hm3⟩
      have M3 := Lib.hid hm3
      clear hm3
      go_wp2_with fail
      go_ret
      exact ⟨rfl, M3.out⟩
end Go.Proofs.Ytjoeminkdafmaaa
