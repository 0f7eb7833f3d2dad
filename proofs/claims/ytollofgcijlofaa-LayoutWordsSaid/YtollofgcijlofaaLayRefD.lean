/-
  Contracts of the document's own answers for layout: heads of lists, and which configurations may be.
-/
import Derived.Test.YtollofgcijlofaaLayRefC
namespace Go.Proofs.Ytollofgcijlofaa
open Go.RowKit
set_option linter.unusedVariables false
set_option linter.unusedSimpArgs false

theorem rbetween (n lo hi : Int) (w : World) :
    Calls Try.prog 50 #[.int .i64 n, .int .i64 lo, .int .i64 hi] w fun e w' => e = .returned (.bool (btw n lo hi)) ∧ w' = w := by
  cases c0 : decide (lo ≤ n) with
  | false =>
    rw [show btw n lo hi = false by simp [btw, c0]]
    go_enter Try.func50, Try.ntmps50
    go_wp2
    go_ret
    exact ⟨rfl, rfl⟩
  | true =>
    cases c1 : decide (n ≤ hi) with
    | false =>
      rw [show btw n lo hi = false by simp [btw, c1]]
      go_enter Try.func50, Try.ntmps50
      go_wp2
      go_ret
      exact ⟨rfl, rfl⟩
    | true =>
      rw [show btw n lo hi = true by simp [btw, c0, c1]]
      go_enter Try.func50, Try.ntmps50
      go_wp2
      go_ret
      exact ⟨rfl, rfl⟩

variable (wk cp pg st tr wt ck pr ca bi ba : Int) (w : World)

theorem rhead_none (c f : Int) (h : c < 0 ∨ 4 < c) :
    Calls Try.prog 20 #[.agg #[.int .i64 wk, .int .i64 cp, .int .i64 pg, .int .i64 st, .int .i64 tr, .int .i64 wt, .int .i64 ck, .int .i64 pr, .int .i64 ca, .int .i64 bi, .int .i64 ba], .int .i64 c, .int .i64 f] w (Gives w (.int .i64 (headV pg st c f))) := by
  rw [show headV pg st c f = 0 from if_neg (by omega)]
  by_cases c0 : c < 0
  · have d0 : decide (c < 0) = true := by simp; omega
    clear h
    go_enter Try.func20, Try.ntmps20
    go_wp2_with fail
    go_ret
    exact ⟨rfl, (More.refl _).alloc _⟩
  · have d0 : decide (c < 0) = false := by simp; omega
    have d1 : decide (4 < c) = true := by simp; omega
    clear h
    go_enter Try.func20, Try.ntmps20
    go_wp2_with fail
    go_ret
    exact ⟨rfl, (More.refl _).alloc _⟩


set_option maxHeartbeats 2000000 in
theorem rhead_in (c : Nat) (f : Int) (R : CfgOk wk cp pg st tr wt ck pr ca bi ba) (hc4 : c ≤ 4) (f0 : 1 ≤ f) (f1 : f ≤ slotsV c) :
    Calls Try.prog 20 #[.agg #[.int .i64 wk, .int .i64 cp, .int .i64 pg, .int .i64 st, .int .i64 tr, .int .i64 wt, .int .i64 ck, .int .i64 pr, .int .i64 ca, .int .i64 bi, .int .i64 ba], .int .i64 c, .int .i64 f] w (Gives w (.int .i64 (headV pg st c f))) := by
  rw [show headV pg st c f = headsV st pg + aheadV c + f - 1 from if_pos (by omega)]
  have HR := Lib.hid R
  have b1 := headsB R
  have b2 := slots_lo c (by omega) (by omega)
  have b3 := ahead_b c (by omega) (by omega)
  have d0 : decide ((c : Int) < 0) = false := by simp
  have d1 : decide ((4 : Int) < (c : Int)) = false := by simp; omega
  have t0 : decide ((1 : Int) ≤ f) = true := by simp; omega
  have t1 : decide (f ≤ slotsV c) = true := by simp; omega
  have q0 : IntKind.i64.wrap (headsV st pg + aheadV c) = headsV st pg + aheadV c := wrap_in (by omega) (by omega)
  have q1 : IntKind.i64.wrap (headsV st pg + aheadV c + f) = headsV st pg + aheadV c + f := wrap_in (by omega) (by omega)
  have q2 : IntKind.i64.wrap (headsV st pg + aheadV c + f - 1) = headsV st pg + aheadV c + f - 1 := wrap_in (by omega) (by omega)
  have HC := Lib.hid (cfgAt_new w 37 wk cp pg st tr wt ck pr ca bi ba)
  have HM : Hid (More w (w.alloc (.cells #[.int .i64 wk, .int .i64 cp, .int .i64 pg, .int .i64 st, .int .i64 tr, .int .i64 wt, .int .i64 ck, .int .i64 pr, .int .i64 ca, .int .i64 bi, .int .i64 ba] 37))) := (More.refl w).alloc _
  clear R
  go_enter Try.func20, Try.ntmps20
  go_wp2_with fail
  generalize w.alloc (.cells #[.int .i64 wk, .int .i64 cp, .int .i64 pg, .int .i64 st, .int .i64 tr, .int .i64 wt, .int .i64 ck, .int .i64 pr, .int .i64 ca, .int .i64 bi, .int .i64 ba] 37) = W0 at *
  go_loopw [7, 8] (fun n i wr => ∃ k : Nat, k ≤ c ∧ i = .int .i64 k ∧ n = .int .i64 (aheadV k) ∧ More W0 wr) (fun _ i _ => c - (intOf i).toNat)
  case atStart => exact ⟨0, Nat.zero_le _, rfl, rfl, More.refl _⟩
  case round =>
    obtain ⟨k, hk, rfl, rfl, hm⟩ := hrel
    by_cases hlt : k < c
    · obtain ⟨a1, a2, a3⟩ := ahead_step k (by omega) (by omega)
      have b4 := slots_lo k (by omega) (by omega)
      have HA := Lib.hid a1; clear a1
      have Hm := Lib.hid hm; clear hm
      go_wp2_with fail
      refine (rslots k (by omega) _).mono ?_
      rintro e w1 ⟨rfl, h1⟩
      have H2 := Lib.hid (Hm.out.trans h1); clear h1
      go_wp2_with fail
      go_roundw
      case rel => exact ⟨k + 1, by omega, by go_num, by rw [HA.out]; go_num, H2.out⟩
      case measure => simp [intOf]; omega
    · have he : k = c := by omega
      subst he
      have HMr := Lib.hid hm; clear hm
      have hne : ∃ W, More wr W := ⟨wr, More.refl _⟩
      go_wp2_with fail
      refine wp_region_more (by kernel_rfl) (by kernel_rfl) ?_
      iterate 17
        with_reducible refine wpQuiet_step (fun K hK => ?_)
        go_simp
        first
        | (refine hK _ ?_; clear hK K)
        | (apply Exists.intro
           refine ⟨fun W hW => ?_, hK _ ?_⟩
           first
           | (go_at_call 60; exact Calls.more hW (rheads _ _ _ _ _ _ _ _ _ _ _ _ HR.out))
           | (go_at_call 54; exact Calls.more hW (rat_yes _ _))
           | (go_at_call 59; exact Calls.more hW (rslots k hc4 _))
           | (obtain ⟨e0, e1, e2, e3, e4, e5, e6, e7, e8, e9, e10⟩ := HC.out.cells (HMr.out.trans hW); go_simp; try rfl)
           clear hK K)
      refine wpQuiet_nil ?_
      intro W hW
      have HW := Lib.hid hW
      clear hW
      go_wp2_with fail
      go_ret
      exact ⟨rfl, (HM.out.trans HMr.out).trans HW.out⟩

set_option maxHeartbeats 2000000 in
theorem rhead_low (c : Nat) (f : Int) (R : CfgOk wk cp pg st tr wt ck pr ca bi ba) (hc4 : c ≤ 4) (f0 : ¬ 1 ≤ f) :
    Calls Try.prog 20 #[.agg #[.int .i64 wk, .int .i64 cp, .int .i64 pg, .int .i64 st, .int .i64 tr, .int .i64 wt, .int .i64 ck, .int .i64 pr, .int .i64 ca, .int .i64 bi, .int .i64 ba], .int .i64 c, .int .i64 f] w (Gives w (.int .i64 (headV pg st c f))) := by
  rw [show headV pg st c f = 0 from if_neg (by omega)]
  have HR := Lib.hid R
  have b1 := headsB R
  have b2 := slots_lo c (by omega) (by omega)
  have b3 := ahead_b c (by omega) (by omega)
  have d0 : decide ((c : Int) < 0) = false := by simp
  have d1 : decide ((4 : Int) < (c : Int)) = false := by simp; omega
  have t0 : decide ((1 : Int) ≤ f) = false := by simp; omega
  have HC := Lib.hid (cfgAt_new w 37 wk cp pg st tr wt ck pr ca bi ba)
  have HM : Hid (More w (w.alloc (.cells #[.int .i64 wk, .int .i64 cp, .int .i64 pg, .int .i64 st, .int .i64 tr, .int .i64 wt, .int .i64 ck, .int .i64 pr, .int .i64 ca, .int .i64 bi, .int .i64 ba] 37))) := (More.refl w).alloc _
  clear R
  go_enter Try.func20, Try.ntmps20
  go_wp2_with fail
  generalize w.alloc (.cells #[.int .i64 wk, .int .i64 cp, .int .i64 pg, .int .i64 st, .int .i64 tr, .int .i64 wt, .int .i64 ck, .int .i64 pr, .int .i64 ca, .int .i64 bi, .int .i64 ba] 37) = W0 at *
  go_loopw [7, 8] (fun n i wr => ∃ k : Nat, k ≤ c ∧ i = .int .i64 k ∧ n = .int .i64 (aheadV k) ∧ More W0 wr) (fun _ i _ => c - (intOf i).toNat)
  case atStart => exact ⟨0, Nat.zero_le _, rfl, rfl, More.refl _⟩
  case round =>
    obtain ⟨k, hk, rfl, rfl, hm⟩ := hrel
    by_cases hlt : k < c
    · obtain ⟨a1, a2, a3⟩ := ahead_step k (by omega) (by omega)
      have b4 := slots_lo k (by omega) (by omega)
      have HA := Lib.hid a1; clear a1
      have Hm := Lib.hid hm; clear hm
      go_wp2_with fail
      refine (rslots k (by omega) _).mono ?_
      rintro e w1 ⟨rfl, h1⟩
      have H2 := Lib.hid (Hm.out.trans h1); clear h1
      go_wp2_with fail
      go_roundw
      case rel => exact ⟨k + 1, by omega, by go_num, by rw [HA.out]; go_num, H2.out⟩
      case measure => simp [intOf]; omega
    · have he : k = c := by omega
      subst he
      have HMr := Lib.hid hm; clear hm
      have hne : ∃ W, More wr W := ⟨wr, More.refl _⟩
      go_wp2_with fail
      refine wp_region_more (by kernel_rfl) (by kernel_rfl) ?_
      iterate 17
        with_reducible refine wpQuiet_step (fun K hK => ?_)
        go_simp
        first
        | (refine hK _ ?_; clear hK K)
        | (apply Exists.intro
           refine ⟨fun W hW => ?_, hK _ ?_⟩
           first
           | (go_at_call 60; exact Calls.more hW (rheads _ _ _ _ _ _ _ _ _ _ _ _ HR.out))
           | (go_at_call 54; exact Calls.more hW (rat_no _ _))
           | (go_at_call 59; exact Calls.more hW (rslots k hc4 _))
           | (obtain ⟨e0, e1, e2, e3, e4, e5, e6, e7, e8, e9, e10⟩ := HC.out.cells (HMr.out.trans hW); go_simp; try rfl)
           clear hK K)
      refine wpQuiet_nil ?_
      intro W hW
      have HW := Lib.hid hW
      clear hW
      go_wp2_with fail
      go_ret
      exact ⟨rfl, (HM.out.trans HMr.out).trans HW.out⟩

set_option maxHeartbeats 2000000 in
theorem rhead_high (c : Nat) (f : Int) (R : CfgOk wk cp pg st tr wt ck pr ca bi ba) (hc4 : c ≤ 4) (f0 : 1 ≤ f) (f1 : ¬ f ≤ slotsV c) :
    Calls Try.prog 20 #[.agg #[.int .i64 wk, .int .i64 cp, .int .i64 pg, .int .i64 st, .int .i64 tr, .int .i64 wt, .int .i64 ck, .int .i64 pr, .int .i64 ca, .int .i64 bi, .int .i64 ba], .int .i64 c, .int .i64 f] w (Gives w (.int .i64 (headV pg st c f))) := by
  rw [show headV pg st c f = 0 from if_neg (by omega)]
  have HR := Lib.hid R
  have b1 := headsB R
  have b2 := slots_lo c (by omega) (by omega)
  have b3 := ahead_b c (by omega) (by omega)
  have d0 : decide ((c : Int) < 0) = false := by simp
  have d1 : decide ((4 : Int) < (c : Int)) = false := by simp; omega
  have t0 : decide ((1 : Int) ≤ f) = true := by simp; omega
  have t1 : decide (f ≤ slotsV c) = false := by simp; omega
  have HC := Lib.hid (cfgAt_new w 37 wk cp pg st tr wt ck pr ca bi ba)
  have HM : Hid (More w (w.alloc (.cells #[.int .i64 wk, .int .i64 cp, .int .i64 pg, .int .i64 st, .int .i64 tr, .int .i64 wt, .int .i64 ck, .int .i64 pr, .int .i64 ca, .int .i64 bi, .int .i64 ba] 37))) := (More.refl w).alloc _
  clear R
  go_enter Try.func20, Try.ntmps20
  go_wp2_with fail
  generalize w.alloc (.cells #[.int .i64 wk, .int .i64 cp, .int .i64 pg, .int .i64 st, .int .i64 tr, .int .i64 wt, .int .i64 ck, .int .i64 pr, .int .i64 ca, .int .i64 bi, .int .i64 ba] 37) = W0 at *
  go_loopw [7, 8] (fun n i wr => ∃ k : Nat, k ≤ c ∧ i = .int .i64 k ∧ n = .int .i64 (aheadV k) ∧ More W0 wr) (fun _ i _ => c - (intOf i).toNat)
  case atStart => exact ⟨0, Nat.zero_le _, rfl, rfl, More.refl _⟩
  case round =>
    obtain ⟨k, hk, rfl, rfl, hm⟩ := hrel
    by_cases hlt : k < c
    · obtain ⟨a1, a2, a3⟩ := ahead_step k (by omega) (by omega)
      have b4 := slots_lo k (by omega) (by omega)
      have HA := Lib.hid a1; clear a1
      have Hm := Lib.hid hm; clear hm
      go_wp2_with fail
      refine (rslots k (by omega) _).mono ?_
      rintro e w1 ⟨rfl, h1⟩
      have H2 := Lib.hid (Hm.out.trans h1); clear h1
      go_wp2_with fail
      go_roundw
      case rel => exact ⟨k + 1, by omega, by go_num, by rw [HA.out]; go_num, H2.out⟩
      case measure => simp [intOf]; omega
    · have he : k = c := by omega
      subst he
      have HMr := Lib.hid hm; clear hm
      have hne : ∃ W, More wr W := ⟨wr, More.refl _⟩
      go_wp2_with fail
      refine wp_region_more (by kernel_rfl) (by kernel_rfl) ?_
      iterate 17
        with_reducible refine wpQuiet_step (fun K hK => ?_)
        go_simp
        first
        | (refine hK _ ?_; clear hK K)
        | (apply Exists.intro
           refine ⟨fun W hW => ?_, hK _ ?_⟩
           first
           | (go_at_call 60; exact Calls.more hW (rheads _ _ _ _ _ _ _ _ _ _ _ _ HR.out))
           | (go_at_call 54; exact Calls.more hW (rat_no _ _))
           | (go_at_call 59; exact Calls.more hW (rslots k hc4 _))
           | (obtain ⟨e0, e1, e2, e3, e4, e5, e6, e7, e8, e9, e10⟩ := HC.out.cells (HMr.out.trans hW); go_simp; try rfl)
           clear hK K)
      refine wpQuiet_nil ?_
      intro W hW
      have HW := Lib.hid hW
      clear hW
      go_wp2_with fail
      go_ret
      exact ⟨rfl, (HM.out.trans HMr.out).trans HW.out⟩

theorem rhead (c f : Int) (R : CfgOk wk cp pg st tr wt ck pr ca bi ba) :
    Calls Try.prog 20 #[.agg #[.int .i64 wk, .int .i64 cp, .int .i64 pg, .int .i64 st, .int .i64 tr, .int .i64 wt, .int .i64 ck, .int .i64 pr, .int .i64 ca, .int .i64 bi, .int .i64 ba], .int .i64 c, .int .i64 f] w (Gives w (.int .i64 (headV pg st c f))) := by
  by_cases h : c < 0 ∨ 4 < c
  · exact rhead_none wk cp pg st tr wt ck pr ca bi ba w c f h
  obtain ⟨k, rfl⟩ : ∃ k : Nat, c = k := ⟨c.toNat, by omega⟩
  by_cases f0 : 1 ≤ f
  · by_cases f1 : f ≤ slotsV k
    · exact rhead_in wk cp pg st tr wt ck pr ca bi ba w k f R (by omega) f0 f1
    · exact rhead_high wk cp pg st tr wt ck pr ca bi ba w k f R (by omega) f0 f1
  · exact rhead_low wk cp pg st tr wt ck pr ca bi ba w k f R (by omega) f0

end Go.Proofs.Ytollofgcijlofaa
