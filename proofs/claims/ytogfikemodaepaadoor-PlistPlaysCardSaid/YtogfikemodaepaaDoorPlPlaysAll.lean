/-
  Contracts of the document's own answers for layout: locks, places of user words, slots and heads.
-/
import Derived.Test.YtogfikemodaepaaDoorLayEnd
import Derived.Test.YtogfikemodaepaaDoorPlSem
import Derived.Test.YtogfikemodaepaaDoorPlClF
import Derived.Test.YtogfikemodaepaaDoorChunkEnd
import Derived.Test.YtogfikemodaepaaDoorPlFn
import Derived.Test.YtogfikemodaepaaDoorPlCE
import Derived.Test.YtogfikemodaepaaDoorPlRun
import Derived.Test.YtogfikemodaepaaDoorBeginAt
import Derived.Test.YtogfikemodaepaaDoorViewWords
namespace Go.Proofs.YtogfikemodaepaaDoor
open Go.RowKit
set_option linter.unusedVariables false
set_option linter.unusedSimpArgs false

set_option maxHeartbeats 1000000 in
theorem rslots (c : Nat) (h4 : c ≤ 4) (w : World) :
    Calls Tryd.prog 65 #[.int .i64 c] w (Gives w (.int .i64 (slotsV c))) := by
  go_enter Tryd.func65, Tryd.ntmps65
  go_wp2_with fail
  go_loop [3, 4] (fun n i => ∃ k : Nat, k ≤ c ∧ i = .int .i64 k ∧ n = .int .i64 (slotsV k)) (fun _ i => c - (intOf i).toNat)
  case atStart => exact ⟨0, Nat.zero_le _, rfl, rfl⟩
  case round =>
    obtain ⟨k, hk, rfl, rfl⟩ := hrel
    by_cases hlt : k < c
    · have d5 : decide ((k : Int) < 5) = true := by simp; omega
      obtain ⟨s1, s2, s3⟩ := slots_step k (by omega) (by omega)
      have HS := Lib.hid s1; clear s1
      go_wp2_with fail
      go_round
      case rel => exact ⟨k + 1, by omega, by go_num, by rw [HS.out]; go_num⟩
      case measure => simp [intOf]; omega
    · have he : k = c := by omega
      subst he
      go_wp2_with fail
      go_ret
      exact ⟨rfl, More.refl _⟩

variable (wk cp pg st tr wt ck pr ca bi ba : Int) (w : World)

end Go.Proofs.YtogfikemodaepaaDoor

namespace Go.Proofs.YtogfikemodaepaaDoor
open Go.RowKit
set_option linter.unusedVariables false
set_option linter.unusedSimpArgs false

variable (wk cp pg st tr wt ck pr ca bi ba : Int) (w : World)

theorem rhead_none (c f : Int) (h : c < 0 ∨ 4 < c) :
    Calls Tryd.prog 38 #[.agg #[.int .i64 wk, .int .i64 cp, .int .i64 pg, .int .i64 st, .int .i64 tr, .int .i64 wt, .int .i64 ck, .int .i64 pr, .int .i64 ca, .int .i64 bi, .int .i64 ba], .int .i64 c, .int .i64 f] w (Gives w (.int .i64 (headV pg st c f))) := by
  rw [show headV pg st c f = 0 from if_neg (by omega)]
  by_cases c0 : c < 0
  · have d0 : decide (c < 0) = true := by simp; omega
    clear h
    go_enter Tryd.func38, Tryd.ntmps38
    go_wp2_with fail
    go_ret
    exact ⟨rfl, (More.refl _).alloc _⟩
  · have d0 : decide (c < 0) = false := by simp; omega
    have d1 : decide (4 < c) = true := by simp; omega
    clear h
    go_enter Tryd.func38, Tryd.ntmps38
    go_wp2_with fail
    go_ret
    exact ⟨rfl, (More.refl _).alloc _⟩


set_option maxHeartbeats 2000000 in
theorem rhead_in (c : Nat) (f : Int) (R : CfgOk wk cp pg st tr wt ck pr ca bi ba) (hc4 : c ≤ 4) (f0 : 1 ≤ f) (f1 : f ≤ slotsV c) :
    Calls Tryd.prog 38 #[.agg #[.int .i64 wk, .int .i64 cp, .int .i64 pg, .int .i64 st, .int .i64 tr, .int .i64 wt, .int .i64 ck, .int .i64 pr, .int .i64 ca, .int .i64 bi, .int .i64 ba], .int .i64 c, .int .i64 f] w (Gives w (.int .i64 (headV pg st c f))) := by
  rw [show headV pg st c f = headsV st pg + aheadV c + f - 1 from if_pos (by omega)]
  have HR := Lib.hid R
  have b1 := headsB R
  have b2 := slots_lo c (by omega) (by omega)
  have b3 := ahead_b c (by omega) (by omega)
  have d0 : decide ((c : Int) < 0) = false := by simp
  have d1 : decide ((4 : Int) < (c : Int)) = false := by simp; omega
  have t0 : decide ((1 : Int) ≤ f) = true := by simp; omega
  have t1 : decide (f ≤ slotsV c) = true := by simp; omega
  have q0 : IntKind.i64.wrap (headsV st pg + aheadV c) = headsV st pg + aheadV c := wrap_in (by omega) (by omega)
  have q1 : IntKind.i64.wrap (headsV st pg + aheadV c + f) = headsV st pg + aheadV c + f := wrap_in (by omega) (by omega)
  have q2 : IntKind.i64.wrap (headsV st pg + aheadV c + f - 1) = headsV st pg + aheadV c + f - 1 := wrap_in (by omega) (by omega)
  have HC := Lib.hid (cfgAt_new w 30 wk cp pg st tr wt ck pr ca bi ba)
  have HM : Hid (More w (w.alloc (.cells #[.int .i64 wk, .int .i64 cp, .int .i64 pg, .int .i64 st, .int .i64 tr, .int .i64 wt, .int .i64 ck, .int .i64 pr, .int .i64 ca, .int .i64 bi, .int .i64 ba] 30))) := (More.refl w).alloc _
  clear R
  go_enter Tryd.func38, Tryd.ntmps38
  go_wp2_with fail
  generalize w.alloc (.cells #[.int .i64 wk, .int .i64 cp, .int .i64 pg, .int .i64 st, .int .i64 tr, .int .i64 wt, .int .i64 ck, .int .i64 pr, .int .i64 ca, .int .i64 bi, .int .i64 ba] 30) = W0 at *
  go_loopw [7, 8] (fun n i wr => ∃ k : Nat, k ≤ c ∧ i = .int .i64 k ∧ n = .int .i64 (aheadV k) ∧ More W0 wr) (fun _ i _ => c - (intOf i).toNat)
  case atStart => exact ⟨0, Nat.zero_le _, rfl, rfl, More.refl _⟩
  case round =>
    obtain ⟨k, hk, rfl, rfl, hm⟩ := hrel
    by_cases hlt : k < c
    · obtain ⟨a1, a2, a3⟩ := ahead_step k (by omega) (by omega)
      have b4 := slots_lo k (by omega) (by omega)
      have HA := Lib.hid a1; clear a1
      have Hm := Lib.hid hm; clear hm
      go_wp2_with fail
      refine (rslots k (by omega) _).mono ?_
      rintro e w1 ⟨rfl, h1⟩
      have H2 := Lib.hid (Hm.out.trans h1); clear h1
      go_wp2_with fail
      go_roundw
      case rel => exact ⟨k + 1, by omega, by go_num, by rw [HA.out]; go_num, H2.out⟩
      case measure => simp [intOf]; omega
    · have he : k = c := by omega
      subst he
      have HMr := Lib.hid hm; clear hm
      have hne : ∃ W, More wr W := ⟨wr, More.refl _⟩
      go_wp2_with fail
      refine wp_region_more (by kernel_rfl) (by kernel_rfl) ?_
      iterate 17
        with_reducible refine wpQuiet_step (fun K hK => ?_)
        go_simp
        first
        | (refine hK _ ?_; clear hK K)
        | (apply Exists.intro
           refine ⟨fun W hW => ?_, hK _ ?_⟩
           first
           | (go_at_call 67; exact Calls.more hW (rheads _ _ _ _ _ _ _ _ _ _ _ _ HR.out))
           | (go_at_call 66; exact Calls.more hW (rat_yes _ _))
           | (go_at_call 65; exact Calls.more hW (rslots k hc4 _))
           | (obtain ⟨e0, e1, e2, e3, e4, e5, e6, e7, e8, e9, e10⟩ := HC.out.cells (HMr.out.trans hW); go_simp; try rfl)
           clear hK K)
      refine wpQuiet_nil ?_
      intro W hW
      have HW := Lib.hid hW
      clear hW
      go_wp2_with fail
      go_ret
      exact ⟨rfl, (HM.out.trans HMr.out).trans HW.out⟩

set_option maxHeartbeats 2000000 in
theorem rhead_low (c : Nat) (f : Int) (R : CfgOk wk cp pg st tr wt ck pr ca bi ba) (hc4 : c ≤ 4) (f0 : ¬ 1 ≤ f) :
    Calls Tryd.prog 38 #[.agg #[.int .i64 wk, .int .i64 cp, .int .i64 pg, .int .i64 st, .int .i64 tr, .int .i64 wt, .int .i64 ck, .int .i64 pr, .int .i64 ca, .int .i64 bi, .int .i64 ba], .int .i64 c, .int .i64 f] w (Gives w (.int .i64 (headV pg st c f))) := by
  rw [show headV pg st c f = 0 from if_neg (by omega)]
  have HR := Lib.hid R
  have b1 := headsB R
  have b2 := slots_lo c (by omega) (by omega)
  have b3 := ahead_b c (by omega) (by omega)
  have d0 : decide ((c : Int) < 0) = false := by simp
  have d1 : decide ((4 : Int) < (c : Int)) = false := by simp; omega
  have t0 : decide ((1 : Int) ≤ f) = false := by simp; omega
  have HC := Lib.hid (cfgAt_new w 30 wk cp pg st tr wt ck pr ca bi ba)
  have HM : Hid (More w (w.alloc (.cells #[.int .i64 wk, .int .i64 cp, .int .i64 pg, .int .i64 st, .int .i64 tr, .int .i64 wt, .int .i64 ck, .int .i64 pr, .int .i64 ca, .int .i64 bi, .int .i64 ba] 30))) := (More.refl w).alloc _
  clear R
  go_enter Tryd.func38, Tryd.ntmps38
  go_wp2_with fail
  generalize w.alloc (.cells #[.int .i64 wk, .int .i64 cp, .int .i64 pg, .int .i64 st, .int .i64 tr, .int .i64 wt, .int .i64 ck, .int .i64 pr, .int .i64 ca, .int .i64 bi, .int .i64 ba] 30) = W0 at *
  go_loopw [7, 8] (fun n i wr => ∃ k : Nat, k ≤ c ∧ i = .int .i64 k ∧ n = .int .i64 (aheadV k) ∧ More W0 wr) (fun _ i _ => c - (intOf i).toNat)
  case atStart => exact ⟨0, Nat.zero_le _, rfl, rfl, More.refl _⟩
  case round =>
    obtain ⟨k, hk, rfl, rfl, hm⟩ := hrel
    by_cases hlt : k < c
    · obtain ⟨a1, a2, a3⟩ := ahead_step k (by omega) (by omega)
      have b4 := slots_lo k (by omega) (by omega)
      have HA := Lib.hid a1; clear a1
      have Hm := Lib.hid hm; clear hm
      go_wp2_with fail
      refine (rslots k (by omega) _).mono ?_
      rintro e w1 ⟨rfl, h1⟩
      have H2 := Lib.hid (Hm.out.trans h1); clear h1
      go_wp2_with fail
      go_roundw
      case rel => exact ⟨k + 1, by omega, by go_num, by rw [HA.out]; go_num, H2.out⟩
      case measure => simp [intOf]; omega
    · have he : k = c := by omega
      subst he
      have HMr := Lib.hid hm; clear hm
      have hne : ∃ W, More wr W := ⟨wr, More.refl _⟩
      go_wp2_with fail
      refine wp_region_more (by kernel_rfl) (by kernel_rfl) ?_
      iterate 17
        with_reducible refine wpQuiet_step (fun K hK => ?_)
        go_simp
        first
        | (refine hK _ ?_; clear hK K)
        | (apply Exists.intro
           refine ⟨fun W hW => ?_, hK _ ?_⟩
           first
           | (go_at_call 67; exact Calls.more hW (rheads _ _ _ _ _ _ _ _ _ _ _ _ HR.out))
           | (go_at_call 66; exact Calls.more hW (rat_no _ _))
           | (go_at_call 65; exact Calls.more hW (rslots k hc4 _))
           | (obtain ⟨e0, e1, e2, e3, e4, e5, e6, e7, e8, e9, e10⟩ := HC.out.cells (HMr.out.trans hW); go_simp; try rfl)
           clear hK K)
      refine wpQuiet_nil ?_
      intro W hW
      have HW := Lib.hid hW
      clear hW
      go_wp2_with fail
      go_ret
      exact ⟨rfl, (HM.out.trans HMr.out).trans HW.out⟩

set_option maxHeartbeats 2000000 in
theorem rhead_high (c : Nat) (f : Int) (R : CfgOk wk cp pg st tr wt ck pr ca bi ba) (hc4 : c ≤ 4) (f0 : 1 ≤ f) (f1 : ¬ f ≤ slotsV c) :
    Calls Tryd.prog 38 #[.agg #[.int .i64 wk, .int .i64 cp, .int .i64 pg, .int .i64 st, .int .i64 tr, .int .i64 wt, .int .i64 ck, .int .i64 pr, .int .i64 ca, .int .i64 bi, .int .i64 ba], .int .i64 c, .int .i64 f] w (Gives w (.int .i64 (headV pg st c f))) := by
  rw [show headV pg st c f = 0 from if_neg (by omega)]
  have HR := Lib.hid R
  have b1 := headsB R
  have b2 := slots_lo c (by omega) (by omega)
  have b3 := ahead_b c (by omega) (by omega)
  have d0 : decide ((c : Int) < 0) = false := by simp
  have d1 : decide ((4 : Int) < (c : Int)) = false := by simp; omega
  have t0 : decide ((1 : Int) ≤ f) = true := by simp; omega
  have t1 : decide (f ≤ slotsV c) = false := by simp; omega
  have HC := Lib.hid (cfgAt_new w 30 wk cp pg st tr wt ck pr ca bi ba)
  have HM : Hid (More w (w.alloc (.cells #[.int .i64 wk, .int .i64 cp, .int .i64 pg, .int .i64 st, .int .i64 tr, .int .i64 wt, .int .i64 ck, .int .i64 pr, .int .i64 ca, .int .i64 bi, .int .i64 ba] 30))) := (More.refl w).alloc _
  clear R
  go_enter Tryd.func38, Tryd.ntmps38
  go_wp2_with fail
  generalize w.alloc (.cells #[.int .i64 wk, .int .i64 cp, .int .i64 pg, .int .i64 st, .int .i64 tr, .int .i64 wt, .int .i64 ck, .int .i64 pr, .int .i64 ca, .int .i64 bi, .int .i64 ba] 30) = W0 at *
  go_loopw [7, 8] (fun n i wr => ∃ k : Nat, k ≤ c ∧ i = .int .i64 k ∧ n = .int .i64 (aheadV k) ∧ More W0 wr) (fun _ i _ => c - (intOf i).toNat)
  case atStart => exact ⟨0, Nat.zero_le _, rfl, rfl, More.refl _⟩
  case round =>
    obtain ⟨k, hk, rfl, rfl, hm⟩ := hrel
    by_cases hlt : k < c
    · obtain ⟨a1, a2, a3⟩ := ahead_step k (by omega) (by omega)
      have b4 := slots_lo k (by omega) (by omega)
      have HA := Lib.hid a1; clear a1
      have Hm := Lib.hid hm; clear hm
      go_wp2_with fail
      refine (rslots k (by omega) _).mono ?_
      rintro e w1 ⟨rfl, h1⟩
      have H2 := Lib.hid (Hm.out.trans h1); clear h1
      go_wp2_with fail
      go_roundw
      case rel => exact ⟨k + 1, by omega, by go_num, by rw [HA.out]; go_num, H2.out⟩
      case measure => simp [intOf]; omega
    · have he : k = c := by omega
      subst he
      have HMr := Lib.hid hm; clear hm
      have hne : ∃ W, More wr W := ⟨wr, More.refl _⟩
      go_wp2_with fail
      refine wp_region_more (by kernel_rfl) (by kernel_rfl) ?_
      iterate 17
        with_reducible refine wpQuiet_step (fun K hK => ?_)
        go_simp
        first
        | (refine hK _ ?_; clear hK K)
        | (apply Exists.intro
           refine ⟨fun W hW => ?_, hK _ ?_⟩
           first
           | (go_at_call 67; exact Calls.more hW (rheads _ _ _ _ _ _ _ _ _ _ _ _ HR.out))
           | (go_at_call 66; exact Calls.more hW (rat_no _ _))
           | (go_at_call 65; exact Calls.more hW (rslots k hc4 _))
           | (obtain ⟨e0, e1, e2, e3, e4, e5, e6, e7, e8, e9, e10⟩ := HC.out.cells (HMr.out.trans hW); go_simp; try rfl)
           clear hK K)
      refine wpQuiet_nil ?_
      intro W hW
      have HW := Lib.hid hW
      clear hW
      go_wp2_with fail
      go_ret
      exact ⟨rfl, (HM.out.trans HMr.out).trans HW.out⟩

theorem rhead (c f : Int) (R : CfgOk wk cp pg st tr wt ck pr ca bi ba) :
    Calls Tryd.prog 38 #[.agg #[.int .i64 wk, .int .i64 cp, .int .i64 pg, .int .i64 st, .int .i64 tr, .int .i64 wt, .int .i64 ck, .int .i64 pr, .int .i64 ca, .int .i64 bi, .int .i64 ba], .int .i64 c, .int .i64 f] w (Gives w (.int .i64 (headV pg st c f))) := by
  by_cases h : c < 0 ∨ 4 < c
  · exact rhead_none wk cp pg st tr wt ck pr ca bi ba w c f h
  obtain ⟨k, rfl⟩ : ∃ k : Nat, c = k := ⟨c.toNat, by omega⟩
  by_cases f0 : 1 ≤ f
  · by_cases f1 : f ≤ slotsV k
    · exact rhead_in wk cp pg st tr wt ck pr ca bi ba w k f R (by omega) f0 f1
    · exact rhead_high wk cp pg st tr wt ck pr ca bi ba w k f R (by omega) f0 f1
  · exact rhead_low wk cp pg st tr wt ck pr ca bi ba w k f R (by omega) f0

end Go.Proofs.YtogfikemodaepaaDoor

namespace Go.Proofs.YtogfikemodaepaaDoor
open Go.RowKit Go.Sort Go.Maps Go.Shelf
set_option linter.unusedVariables false
set_option linter.unusedSimpArgs false
set_option linter.unusedSectionVars false

theorem LOff.symm {pg st : Int} {a b : List Int} (h : LOff pg st a b) : LOff pg st b a := ⟨h.len.symm, fun i h0 h1 h2 => (h.off i h0 h1 h2).symm⟩
def layA (pg st h : Int) (ps : List Int) (i : Nat) (ws : List Int) : List Int := (ws.set (nA pg st (ps.getD i 0)).toNat 0).set (vA pg st (ps.getD i 0)).toNat 0
def layB (pg st h : Int) (ps : List Int) (i : Nat) (ws : List Int) : List Int := if i = 0 then ws.set h.toNat (ps.getD i 0 + 1) else ws.set (vA pg st (ps.getD i 0)).toNat (ps.getD (i - 1) 0 + 1)
def layC (pg st h : Int) (ps : List Int) (i : Nat) (ws : List Int) : List Int := if i + 1 < ps.length then ws.set (nA pg st (ps.getD i 0)).toNat (ps.getD (i + 1) 0 + 1) else ws
def layN (pg st h : Int) (ps : List Int) : Nat → List Int → List Int
  | 0, ws => ws.set h.toNat 0
  | i + 1, ws => layC pg st h ps i (layB pg st h ps i (layA pg st h ps i (layN pg st h ps i ws)))
def layV (pg st h : Int) (ps : List Int) (ws : List Int) : List Int := layN pg st h ps ps.length ws
theorem layA_len (pg st h : Int) (ps : List Int) (i : Nat) (ws : List Int) : (layA pg st h ps i ws).length = ws.length := by unfold layA; simp
theorem layB_len (pg st h : Int) (ps : List Int) (i : Nat) (ws : List Int) : (layB pg st h ps i ws).length = ws.length := by unfold layB; split <;> simp
theorem layC_len (pg st h : Int) (ps : List Int) (i : Nat) (ws : List Int) : (layC pg st h ps i ws).length = ws.length := by unfold layC; split <;> simp
theorem layN_len (pg st h : Int) (ps : List Int) (i : Nat) (ws : List Int) : (layN pg st h ps i ws).length = ws.length := by
  induction i with
  | zero => unfold layN; simp
  | succ i ih => unfold layN; rw [layC_len, layB_len, layA_len, ih]
structure LayI (pg st h : Int) (ps : List Int) (ws : List Int) (i : Nat) (ws' : List Int) : Prop where
  hd : wAt ws' h = if i = 0 then 0 else hd1 ps
  nx : ∀ k, k < i → wAt ws' (nA pg st (ps.getD k 0)) = if k + 1 < ps.length then ps.getD (k + 1) 0 + 1 else 0
  pv : ∀ k, k < i → wAt ws' (vA pg st (ps.getD k 0)) = if k = 0 then 0 else ps.getD (k - 1) 0 + 1
  off : ∀ x : Int, 0 ≤ x → x ≠ h → (∀ k, k < i → x ≠ nA pg st (ps.getD k 0) ∧ x ≠ vA pg st (ps.getD k 0)) → wAt ws' x = wAt ws x
theorem getD_mem {l : List Int} {k : Nat} (h : k < l.length) : l.getD k 0 ∈ l := by rw [List.getD_eq_getElem?_getD, List.getElem?_eq_getElem h]; exact List.getElem_mem h
theorem getD_inj {l : List Int} (hd : l.Nodup) {i j : Nat} (hi : i < l.length) (hj : j < l.length) (e : l.getD i 0 = l.getD j 0) : i = j := by
  rw [List.getD_eq_getElem?_getD, List.getD_eq_getElem?_getD, List.getElem?_eq_getElem hi, List.getElem?_eq_getElem hj] at e
  have hp := List.pairwise_iff_getElem.1 hd
  rcases Nat.lt_trichotomy i j with h | h | h
  · exact absurd e (hp i j hi hj h)
  · exact h
  · exact absurd e.symm (hp j i hj hi h)
section
variable {pg st : Int} {n : Nat} (H : HdIn pg st n)
include H
theorem nA_inj {p q : Int} (e : nA pg st p = nA pg st q) : p = q := by unfold nA at e; omega
theorem vA_inj {p q : Int} (e : vA pg st p = vA pg st q) : p = q := by unfold vA at e; omega
theorem layN_is {h : Int} (hh : isHd pg st h) {ps : List Int} (hp : ∀ p ∈ ps, isPage pg p = true) (hd : ps.Nodup) {ws : List Int} (hn : ws.length = n) (i : Nat) : i ≤ ps.length → LayI pg st h ps ws i (layN pg st h ps i ws) := by
  obtain ⟨h0, h1, _⟩ := hd_b H hh
  induction i with
  | zero =>
    intro _
    refine ⟨?_, fun k hk => by omega, fun k hk => by omega, fun x x0 xh _ => ?_⟩
    · show wAt (ws.set h.toNat 0) h = 0
      rw [wAt_set (by omega) (by omega) (by omega), if_pos rfl]
    · show wAt (ws.set h.toNat 0) x = _
      rw [wAt_set (by omega) x0 (by omega), if_neg xh]
  | succ i ih =>
    intro hi
    have I := ih (by omega)
    have hil : i < ps.length := by omega
    have hP := hp _ (getD_mem hil)
    obtain ⟨⟨n0, n1, _⟩, ⟨v0, v1, _⟩⟩ := nv_b H hP
    obtain ⟨hn1, hv1⟩ := hd_nv H hh hP
    have hnv := nv_ne H hP hP
    have hL : (layN pg st h ps i ws).length = n := by rw [layN_len, hn]
    -- what the three steps do with a word
    have hA : ∀ x : Int, 0 ≤ x → wAt (layA pg st h ps i (layN pg st h ps i ws)) x = if x = vA pg st (ps.getD i 0) then 0 else if x = nA pg st (ps.getD i 0) then 0 else wAt (layN pg st h ps i ws) x := fun x x0 => by
      unfold layA
      rw [wAt_set (by omega) x0 (by rw [List.length_set]; omega), wAt_set (by omega) x0 (by omega)]
    have hB : ∀ x : Int, 0 ≤ x → wAt (layB pg st h ps i (layA pg st h ps i (layN pg st h ps i ws))) x = if i = 0 then (if x = h then ps.getD i 0 + 1 else wAt (layA pg st h ps i (layN pg st h ps i ws)) x) else (if x = vA pg st (ps.getD i 0) then ps.getD (i - 1) 0 + 1 else wAt (layA pg st h ps i (layN pg st h ps i ws)) x) := fun x x0 => by
      unfold layB
      split
      · rw [wAt_set (by omega) x0 (by rw [layA_len]; omega)]
      · rw [wAt_set (by omega) x0 (by rw [layA_len]; omega)]
    have hC : ∀ x : Int, 0 ≤ x → wAt (layN pg st h ps (i + 1) ws) x = if i + 1 < ps.length then (if x = nA pg st (ps.getD i 0) then ps.getD (i + 1) 0 + 1 else wAt (layB pg st h ps i (layA pg st h ps i (layN pg st h ps i ws))) x) else wAt (layB pg st h ps i (layA pg st h ps i (layN pg st h ps i ws))) x := fun x x0 => by
      show wAt (layC pg st h ps i _) x = _
      unfold layC
      split
      · rw [wAt_set (by omega) x0 (by rw [layB_len, layA_len]; omega)]
      · rfl
    have key : ∀ x : Int, 0 ≤ x → wAt (layN pg st h ps (i + 1) ws) x = if x = nA pg st (ps.getD i 0) then (if i + 1 < ps.length then ps.getD (i + 1) 0 + 1 else 0) else if x = vA pg st (ps.getD i 0) then (if i = 0 then 0 else ps.getD (i - 1) 0 + 1) else if x = h then (if i = 0 then ps.getD 0 0 + 1 else wAt (layN pg st h ps i ws) h) else wAt (layN pg st h ps i ws) x := fun x x0 => by
      rw [hC x x0, hB x x0, hA x x0]
      by_cases e1 : x = nA pg st (ps.getD i 0)
      · have e2 : x ≠ vA pg st (ps.getD i 0) := by rw [e1]; exact hnv
        have e3 : x ≠ h := by rw [e1]; exact fun q => hn1 q.symm
        simp only [if_pos e1, if_neg e2, if_neg e3, ite_self]
      · by_cases e2 : x = vA pg st (ps.getD i 0)
        · have e3 : x ≠ h := by rw [e2]; exact fun q => hv1 q.symm
          simp only [if_neg e1, if_pos e2, if_neg e3, ite_self]
        · by_cases e3 : x = h
          · by_cases z : i = 0
            · subst z; simp only [if_neg e1, if_neg e2, if_pos e3, ite_self, if_true]
            · rw [e3] at e1 e2 ⊢
              simp only [if_neg e1, if_neg e2, if_true, ite_self, if_neg z]
          · simp only [if_neg e1, if_neg e2, if_neg e3, ite_self]
    refine ⟨?_, fun k hk => ?_, fun k hk => ?_, fun x x0 xh hx => ?_⟩
    · rw [key h (by omega), if_neg hn1, if_neg hv1, if_pos rfl, if_neg (show ¬ (i + 1 = 0) by omega)]
      by_cases z : i = 0
      · rw [if_pos z]
        match ps, hil with
        | y :: l, _ => rfl
      · rw [if_neg z, I.hd, if_neg z]
    · obtain ⟨⟨m0, _, _⟩, _⟩ := nv_b H (hp _ (getD_mem (show k < ps.length by omega)))
      rw [key _ (by omega)]
      by_cases e : k = i
      · rw [e, if_pos rfl]
      · have ne : ps.getD k 0 ≠ ps.getD i 0 := fun q => e (getD_inj hd (by omega) hil q)
        obtain ⟨g1, g2⟩ := hd_nv H hh (hp _ (getD_mem (show k < ps.length by omega)))
        rw [if_neg (fun q => ne (nA_inj H q)), if_neg (nv_ne H (hp _ (getD_mem (show k < ps.length by omega))) hP), if_neg (fun q => g1 q.symm)]
        exact I.nx k (by omega)
    · obtain ⟨_, ⟨m0, _, _⟩⟩ := nv_b H (hp _ (getD_mem (show k < ps.length by omega)))
      rw [key _ (by omega)]
      obtain ⟨g1, g2⟩ := hd_nv H hh (hp _ (getD_mem (show k < ps.length by omega)))
      rw [if_neg (fun q => nv_ne H hP (hp _ (getD_mem (show k < ps.length by omega))) q.symm)]
      by_cases e : k = i
      · rw [e, if_pos rfl]
      · have ne : ps.getD k 0 ≠ ps.getD i 0 := fun q => e (getD_inj hd (by omega) hil q)
        rw [if_neg (fun q => ne (vA_inj H q)), if_neg (fun q => g2 q.symm)]
        exact I.pv k (by omega)
    · have := hx i (by omega)
      rw [key x x0, if_neg this.1, if_neg this.2, if_neg xh]
      exact I.off x x0 xh (fun k hk => hx k (by omega))
theorem nxL_getD {l : List Int} (hd : l.Nodup) {k : Nat} (hk : k < l.length) : nxL l (l.getD k 0) = if k + 1 < l.length then l.getD (k + 1) 0 + 1 else 0 := by
  have hs : l = l.take k ++ l.getD k 0 :: l.drop (k + 1) := by
    rw [List.getD_eq_getElem?_getD, List.getElem?_eq_getElem hk]; simp
  have hnd : l.getD k 0 ∉ l.take k := by
    have hh := hd
    rw [hs] at hh
    intro q
    exact (List.nodup_append.1 hh).2.2 _ q _ (by simp) rfl
  have h1 := nxL_at (l.take k) (l.drop (k + 1)) _ hnd
  rw [← hs] at h1
  rw [h1]
  by_cases h0 : k + 1 < l.length
  · rw [if_pos h0, List.drop_eq_getElem_cons h0, List.getD_eq_getElem?_getD, List.getElem?_eq_getElem h0]; rfl
  · rw [if_neg h0, List.drop_eq_nil_of_le (by omega)]; rfl
theorem pvL_getD {l : List Int} (hd : l.Nodup) {k : Nat} (hk : k < l.length) : pvL 0 l (l.getD k 0) = if k = 0 then 0 else l.getD (k - 1) 0 + 1 := by
  have hs : l = l.take k ++ l.getD k 0 :: l.drop (k + 1) := by
    rw [List.getD_eq_getElem?_getD, List.getElem?_eq_getElem hk]; simp
  have hnd : l.getD k 0 ∉ l.take k := by
    have hh := hd
    rw [hs] at hh
    intro q
    exact (List.nodup_append.1 hh).2.2 _ q _ (by simp) rfl
  have h1 := pvL0_at (l.take k) (l.drop (k + 1)) _ hnd
  rw [← hs] at h1
  rw [h1]
  by_cases h0 : k = 0
  · subst h0; rfl
  · rw [if_neg h0]
    unfold lastO
    have hl : (l.take k).length = k := by simp; omega
    rw [hl, List.getD_eq_getElem?_getD, List.getD_eq_getElem?_getD, List.getElem?_take_of_lt (by omega), List.getElem?_eq_getElem (show k - 1 < l.length by omega)]
    rfl
theorem mem_getD {l : List Int} {p : Int} (h : p ∈ l) : ∃ k, k < l.length ∧ l.getD k 0 = p := by
  obtain ⟨k, hk, e⟩ := List.getElem_of_mem h
  exact ⟨k, hk, by rw [List.getD_eq_getElem?_getD, List.getElem?_eq_getElem hk]; exact e⟩
theorem lay_ln {a : Int} {G : Int → List Int} {ws0 ws : List Int} (L : Ln pg st G ws0) (ha : isHd pg st a) {ps : List Int} (hp : ∀ p ∈ ps, isPage pg p = true) (hd : ps.Nodup) (hn : ws.length = n)
    (hap : ∀ b, isHd pg st b → b ≠ a → ∀ p ∈ G b, p ∉ ps) (hs : ∀ b, isHd pg st b → b ≠ a → wAt ws b = wAt ws0 b ∧ ∀ p ∈ G b, wAt ws (nA pg st p) = wAt ws0 (nA pg st p) ∧ wAt ws (vA pg st p) = wAt ws0 (vA pg st p))
    (hf : ∀ p, isPage pg p = true → p ∉ ps → (∀ b, isHd pg st b → b ≠ a → p ∉ G b) → wAt ws (nA pg st p) = 0 ∧ wAt ws (vA pg st p) = 0) :
    Ln pg st (updG G a ps) (layV pg st a ps ws) ∧ LOff pg st ws (layV pg st a ps ws) := by
  have I := layN_is H ha hp hd hn ps.length (Nat.le_refl _)
  have offp : ∀ q, isPage pg q = true → q ∉ ps → wAt (layV pg st a ps ws) (nA pg st q) = wAt ws (nA pg st q) ∧ wAt (layV pg st a ps ws) (vA pg st q) = wAt ws (vA pg st q) := fun q hq hnq => by
    obtain ⟨⟨m0, _, _⟩, ⟨m1, _, _⟩⟩ := nv_b H hq
    obtain ⟨g1, g2⟩ := hd_nv H ha hq
    refine ⟨I.off _ (by omega) (fun e => g1 e.symm) (fun k hk => ⟨fun e => ?_, ?_⟩), I.off _ (by omega) (fun e => g2 e.symm) (fun k hk => ⟨fun e => ?_, fun e => ?_⟩)⟩
    · exact hnq (by rw [nA_inj H e]; exact getD_mem hk)
    · exact nv_ne H hq (hp _ (getD_mem hk))
    · exact nv_ne H (hp _ (getD_mem hk)) hq e.symm
    · exact hnq (by rw [vA_inj H e]; exact getD_mem hk)
  refine ⟨⟨fun b hb => ?_, fun b hb p hm => ?_, fun b hb => ?_, fun b1 b2 p h1 h2 m1 m2 => ?_, fun b p hb hm => ?_, fun b p hb hm => ?_, fun p hpg hno => ?_⟩, ⟨by unfold layV; rw [layN_len], fun i i0 i1 i2 => I.off i i0 (fun e => i1 (e ▸ ha)) (fun k hk => i2 _ (hp _ (getD_mem hk)))⟩⟩
  · by_cases e : b = a
    · subst e
      rw [updG_at]
      have := I.hd
      by_cases z : ps.length = 0
      · rw [if_pos z] at this
        rw [List.length_eq_zero_iff.1 z]
        have e0 : layV pg st b [] ws = layN pg st b ps ps.length ws := by rw [List.length_eq_zero_iff.1 z]; rfl
        rw [e0]; exact this
      · rw [if_neg z] at this; exact this
    · rw [updG_ne _ _ _ e, ← L.head b hb, ← (hs b hb e).1]
      obtain ⟨b0, _, _⟩ := hd_b H hb
      exact I.off b (by omega) e (fun k hk => hd_nv H hb (hp _ (getD_mem hk)))
  · by_cases e : b = a
    · subst e; rw [updG_at] at hm; exact hp p hm
    · rw [updG_ne _ _ _ e] at hm; exact L.page b hb p hm
  · by_cases e : b = a
    · subst e; rw [updG_at]; exact hd
    · rw [updG_ne _ _ _ e]; exact L.nodup b hb
  · by_cases e1 : b1 = a
    · by_cases e2 : b2 = a
      · rw [e1, e2]
      · subst e1
        rw [updG_at] at m1
        rw [updG_ne _ _ _ e2] at m2
        exact absurd m1 (hap b2 h2 e2 p m2)
    · by_cases e2 : b2 = a
      · subst e2
        rw [updG_at] at m2
        rw [updG_ne _ _ _ e1] at m1
        exact absurd m2 (hap b1 h1 e1 p m1)
      · rw [updG_ne _ _ _ e1] at m1
        rw [updG_ne _ _ _ e2] at m2
        exact L.apart b1 b2 p h1 h2 m1 m2
  · by_cases e : b = a
    · subst e
      rw [updG_at] at hm ⊢
      obtain ⟨k, hk, rfl⟩ := mem_getD H hm
      rw [nxL_getD H hd hk]
      exact I.nx k hk
    · rw [updG_ne _ _ _ e] at hm ⊢
      rw [(offp p (L.page b hb p hm) (hap b hb e p hm)).1, ((hs b hb e).2 p hm).1]
      exact L.next b p hb hm
  · by_cases e : b = a
    · subst e
      rw [updG_at] at hm ⊢
      obtain ⟨k, hk, rfl⟩ := mem_getD H hm
      rw [pvL_getD H hd hk]
      exact I.pv k hk
    · rw [updG_ne _ _ _ e] at hm ⊢
      rw [(offp p (L.page b hb p hm) (hap b hb e p hm)).2, ((hs b hb e).2 p hm).2]
      exact L.prev b p hb hm
  · have hnp : p ∉ ps := fun q => hno a ha (by rw [updG_at]; exact q)
    obtain ⟨o1, o2⟩ := offp p hpg hnp
    obtain ⟨f1, f2⟩ := hf p hpg hnp (fun b hb e q => hno b hb (by rw [updG_ne _ _ _ e]; exact q))
    exact ⟨o1.trans f1, o2.trans f2⟩
/-- Linked by the document's own means, the words are the same. -/
theorem link_same {c f p : Int} {G : Int → List Int} {ws : List Int} (L : Ln pg st G ws) (hn : ws.length = n) (hz : headV pg st c f ≠ 0) (hp : isPage pg p = true) (hf : ∀ a, isHd pg st a → p ∉ G a) : layV pg st (headV pg st c f) (p :: G (headV pg st c f)) ws = (plLinkV pg st p c f ws).2 := by
  have ha := (head_hd hz).1
  obtain ⟨L1, o1⟩ := link_ln H L hn hz hp hf
  obtain ⟨L2, o2⟩ := lay_ln H L ha (ps := p :: G (headV pg st c f)) (fun q hq => by
    rcases List.mem_cons.1 hq with rfl | hq
    · exact hp
    · exact L.page _ ha q hq) (List.nodup_cons.2 ⟨hf _ ha, L.nodup _ ha⟩) hn
    (fun b hb e q hq hm => by
      rcases List.mem_cons.1 hm with rfl | hm
      · exact hf b hb hq
      · exact e (L.apart b _ q hb ha hq hm))
    (fun b hb e => ⟨rfl, fun q hq => ⟨rfl, rfl⟩⟩)
    (fun q hq hm hno => L.free q hq (fun b hb h => by
      by_cases e : b = headV pg st c f
      · subst e; exact hm (List.mem_cons_of_mem _ h)
      · exact hno b hb e h))
  exact L1.uniq L2 (o1.symm.trans o2)
theorem filt_split {s t : List Int} {p : Int} (hs : p ∉ s) (ht : p ∉ t) : (s ++ p :: t).filter (fun x => decide (x ≠ p)) = s ++ t := by
  have h1 : ∀ l : List Int, p ∉ l → l.filter (fun x => decide (x ≠ p)) = l := fun l hl => List.filter_eq_self.2 (fun a ha => by simp; rintro rfl; exact hl ha)
  rw [List.filter_append, List.filter_cons, h1 s hs, h1 t ht]
  simp
/-- And unlinked. -/
theorem unlink_same {c f p : Int} {G : Int → List Int} {ws : List Int} (L : Ln pg st G ws) (hn : ws.length = n) (hz : headV pg st c f ≠ 0) {s t : List Int} (hG : G (headV pg st c f) = s ++ p :: t) (hs : p ∉ s) : layV pg st (headV pg st c f) (s ++ t) ((ws.set (nA pg st p).toNat 0).set (vA pg st p).toNat 0) = (plUnlinkV pg st p c f ws).2 := by
  have ha := (head_hd hz).1
  have hmp : p ∈ G (headV pg st c f) := by rw [hG]; simp
  have hp := L.page _ ha p hmp
  obtain ⟨_, L1, o1⟩ := unlink_ln H L hn hz hG hs
  have hnd := L.nodup _ ha
  have hpg := L.page _ ha
  rw [hG] at hnd hpg
  obtain ⟨⟨n0, n1, _⟩, ⟨v0, v1, _⟩⟩ := nv_b H hp
  have hw : ∀ x : Int, 0 ≤ x → wAt ((ws.set (nA pg st p).toNat 0).set (vA pg st p).toNat 0) x = if x = vA pg st p then 0 else if x = nA pg st p then 0 else wAt ws x := fun x x0 => by
    rw [wAt_set (by omega) x0 (by rw [List.length_set]; omega), wAt_set (by omega) x0 (by omega)]
  have ht : p ∉ t := by
    have := (List.nodup_append.1 hnd).2.1
    exact (List.nodup_cons.1 this).1
  have hsub : ∀ q, q ∈ s ++ t → q ∈ G (headV pg st c f) := fun q hq => by
    rw [hG]
    rcases List.mem_append.1 hq with h | h
    · exact List.mem_append_left _ h
    · exact List.mem_append_right _ (List.mem_cons_of_mem _ h)
  obtain ⟨L2, o2⟩ := lay_ln H L ha (ps := s ++ t) (ws := (ws.set (nA pg st p).toNat 0).set (vA pg st p).toNat 0) (fun q hq => L.page _ ha q (hsub q hq))
    (by
      refine List.nodup_append.2 ⟨(List.nodup_append.1 hnd).1, (List.nodup_cons.1 (List.nodup_append.1 hnd).2.1).2, fun a h1 b h2 => (List.nodup_append.1 hnd).2.2 a h1 b (List.mem_cons_of_mem _ h2)⟩)
    (by simp [hn])
    (fun b hb e q hq hm => e (L.apart b _ q hb ha hq (hsub q hm)))
    (fun b hb e => by
      obtain ⟨b0, _, _⟩ := hd_b H hb
      obtain ⟨g1, g2⟩ := hd_nv H hb hp
      refine ⟨by rw [hw b (by omega), if_neg g2, if_neg g1], fun q hq => ?_⟩
      have hqg := L.page b hb q hq
      obtain ⟨⟨m0, _, _⟩, ⟨m1, _, _⟩⟩ := nv_b H hqg
      have hne : q ≠ p := by rintro rfl; exact e (L.apart b _ q hb ha hq hmp)
      exact ⟨by rw [hw _ (by omega), if_neg (nv_ne H hqg hp), if_neg (fun z => hne (nA_inj H z))], by rw [hw _ (by omega), if_neg (fun z => hne (vA_inj H z)), if_neg (fun z => nv_ne H hp hqg z.symm)]⟩)
    (fun q hq hm hno => by
      obtain ⟨⟨m0, _, _⟩, ⟨m1, _, _⟩⟩ := nv_b H hq
      by_cases e : q = p
      · subst e
        exact ⟨by rw [hw _ (by omega), if_neg (nv_ne H hq hq), if_pos rfl], by rw [hw _ (by omega), if_pos rfl]⟩
      · have hfree := L.free q hq (fun b hb h => by
          by_cases e2 : b = headV pg st c f
          · subst e2
            rw [hG] at h
            rcases List.mem_append.1 h with h | h
            · exact hm (List.mem_append_left _ h)
            · rcases List.mem_cons.1 h with h | h
              · exact e h
              · exact hm (List.mem_append_right _ h)
          · exact hno b hb e2 h)
        exact ⟨by rw [hw _ (by omega), if_neg (nv_ne H hq hp), if_neg (fun z => e (nA_inj H z))]; exact hfree.1, by rw [hw _ (by omega), if_neg (fun z => e (vA_inj H z)), if_neg (fun z => nv_ne H hp hq z.symm)]; exact hfree.2⟩)
  have o3 : LOff pg st ws ((ws.set (nA pg st p).toNat 0).set (vA pg st p).toNat 0) := ⟨by simp, fun i i0 i1 i2 => by rw [hw i i0, if_neg (i2 p hp).2, if_neg (i2 p hp).1]⟩
  exact L1.uniq L2 (o1.symm.trans (o3.trans o2))
end
end Go.Proofs.YtogfikemodaepaaDoor

namespace Go.Proofs.YtogfikemodaepaaDoor
open Go.RowKit Go.Sort Go.Maps Go.Shelf
set_option linter.unusedVariables false
set_option linter.unusedSimpArgs false
set_option linter.unusedSectionVars false

theorem y_rhead {c : Cfg} (R : c.Ok) (w : World) (k f : Int) : Calls Tryd.prog 38 #[.agg c.cells, .int .i64 k, .int .i64 f] w (Gives w (.int .i64 (headV c.pg c.st k f))) := rhead c.wk c.cp c.pg c.st c.tr c.wt c.ck c.pr c.ca c.bi c.ba w k f R
theorem y_rnext {c : Cfg} (R : c.Ok) (w : World) (k : Int) : Calls Tryd.prog 39 #[.agg c.cells, .int .i64 k] w (Gives w (.int .i64 (pageV c.pg c.st 3 k))) := rnext c.wk c.cp c.pg c.st c.tr c.wt c.ck c.pr c.ca c.bi c.ba w k R
theorem y_rprev {c : Cfg} (R : c.Ok) (w : World) (k : Int) : Calls Tryd.prog 64 #[.agg c.cells, .int .i64 k] w (Gives w (.int .i64 (pageV c.pg c.st 4 k))) := rprev c.wk c.cp c.pg c.st c.tr c.wt c.ck c.pr c.ca c.bi c.ba w k R

set_option maxHeartbeats 2000000 in
theorem r10_there {c : Cfg} (R : c.Ok) (q k f : Int) (w : World) : Calls Tryd.prog 62 #[.agg c.cells, .int .i64 q, .int .i64 k, .int .i64 f] w (Gives w (.bool (isPage c.pg q && (headV c.pg c.st k f != 0)))) := by
  have hc := row_new w c.cells 30
  have HC := Lib.hid hc
  have x2 : (w.alloc (.cells c.cells 30)).cell? ⟨w.heap.size, 2, none⟩ = some (.int .i64 c.pg) := cell_more hc (More.refl _) rfl
  have HM : Hid (More w (w.alloc (.cells c.cells 30))) := (More.refl w).alloc _
  have HR := Lib.hid R
  unfold isPage
  clear hc R
  by_cases a : 0 ≤ q
  · have d1 : decide (0 ≤ q) = true := by simpa using a
    by_cases b : q < c.pg
    · have d2 : decide (q < c.pg) = true := by simpa using b
      rw [d1, d2]
      simp only [Bool.true_and]
      clear a b
      go_enter Tryd.func62, Tryd.ntmps62
      go_wp2_with (first | (refine wpList_load_row rfl 30 _ rfl _ rfl 30 _ _ _ HC.out Tryd.underlying30 rfl (by kernel_rfl) ?_) | (refine wpList_load_rowG rfl 30 _ rfl _ rfl 30 _ _ _ HC.out Tryd.underlying30 rfl (by kernel_rfl) ?_))
      refine (y_rhead HR.out _ k f).mono ?_
      rintro e w1 ⟨rfl, h1⟩
      have HM1 := Lib.hid (HM.out.trans h1)
      clear h1
      go_wp2_with fail
      go_ret
      exact ⟨rfl, HM1.out⟩
    · have d2 : decide (q < c.pg) = false := by simpa using b
      rw [d1, d2]
      simp only [Bool.true_and, Bool.false_and]
      clear a b
      go_enter Tryd.func62, Tryd.ntmps62
      go_wp2_with fail
      go_ret
      exact ⟨rfl, HM.out⟩
  · have d1 : decide (0 ≤ q) = false := by simpa using a
    rw [d1]
    simp only [Bool.false_and]
    clear a
    go_enter Tryd.func62, Tryd.ntmps62
    go_wp2_with fail
    go_ret
    exact ⟨rfl, HM.out⟩

theorem nx_drop {l : List Int} (hd : l.Nodup) {k : Nat} (hk : k < l.length) : nxL l (l.getD k 0) = hd1 (l.drop (k + 1)) := by
  have hs : l = l.take k ++ l.getD k 0 :: l.drop (k + 1) := by
    rw [List.getD_eq_getElem?_getD, List.getElem?_eq_getElem hk]; simp
  have hnd : l.getD k 0 ∉ l.take k := by
    have hh := hd
    rw [hs] at hh
    intro q
    exact (List.nodup_append.1 hh).2.2 _ q _ (by simp) rfl
  have h1 := nxL_at (l.take k) (l.drop (k + 1)) _ hnd
  rw [← hs] at h1
  exact h1
theorem drop_cons {l : List Int} {k : Nat} (hk : k < l.length) : l.drop k = l.getD k 0 :: l.drop (k + 1) := by
  rw [List.drop_eq_getElem_cons hk, List.getD_eq_getElem?_getD, List.getElem?_eq_getElem hk]; rfl
theorem take_snoc {l : List Int} {k : Nat} (hk : k < l.length) : l.take (k + 1) = l.take k ++ [l.getD k 0] := by
  rw [List.take_add_one, List.getElem?_eq_getElem hk, List.getD_eq_getElem?_getD, List.getElem?_eq_getElem hk]; rfl
/-- What the document's List hands back: a row of its own; none, where it is empty. -/
def GaveL (w : World) (xs : List Int) (e : Ending) (w' : World) : Prop := ∃ v, e = .returned v ∧ Rw w.heap.size w' v xs ∧ More w w' ∧ (xs = [] → v = .slice none 0 0)
/-- The list of a class and a number. -/
def listG (pg st : Int) (G : Int → List Int) (k f : Int) : List Int := if headV pg st k f = 0 then [] else G (headV pg st k f)

set_option maxRecDepth 100000 in
set_option maxHeartbeats 4000000 in
theorem r10_List {c : Cfg} (R : c.Ok) (ws : List Int) (H : HdIn c.pg c.st ws.length) (hl : ws.length ≤ 1000) {G : Int → List Int} (L : Ln c.pg c.st G ws) (g cap : Nat) (k f : Int) (w : World) (hw : Ws w g cap ws) :
    Calls Tryd.prog 17 #[.agg c.cells, .slice (some ⟨g, 0, none⟩) ws.length cap, .int .i64 k, .int .i64 f] w (GaveL w (listG c.pg c.st G k f)) := by
  have hc := row_new w c.cells 30
  have HC := Lib.hid hc
  have HM : Hid (More w (w.alloc (.cells c.cells 30))) := Lib.hid ((More.refl w).alloc _)
  have HR := Lib.hid R
  have HW := Lib.hid hw
  by_cases hz : headV c.pg c.st k f = 0
  · have YH : Hid (∀ W, Calls Tryd.prog 38 #[.agg c.cells, .int .i64 k, .int .i64 f] W (Gives W (.int .i64 0))) := Lib.hid fun W => by have := y_rhead R W k f; rwa [hz] at this
    rw [show listG c.pg c.st G k f = [] from if_pos hz]
    clear hc R hw hz
    go_enter Tryd.func17, Tryd.ntmps17
    go_wp2_with (first | (refine wpList_load_row rfl 30 _ rfl _ rfl 30 _ _ _ HC.out Tryd.underlying30 rfl (by kernel_rfl) ?_) | (refine wpList_load_rowG rfl 30 _ rfl _ rfl 30 _ _ _ HC.out Tryd.underlying30 rfl (by kernel_rfl) ?_))
    refine (YH.out _).mono ?_
    rintro e w1 ⟨rfl, h1⟩
    have HM1 := Lib.hid (HM.out.trans h1)
    clear h1
    go_wp2_with fail
    go_ret
    exact ⟨_, rfl, Rw.nil _ _, HM1.out, fun _ => rfl⟩
  obtain ⟨ha, k0, k1, f0, f1⟩ := head_hd hz
  obtain ⟨b0, b1, _⟩ := hd_b H ha
  rw [show listG c.pg c.st G k f = G (headV c.pg c.st k f) from if_neg hz]
  have hz' : (headV c.pg c.st k f == 0) = false := by simpa using hz
  have hsh := short H (L.page _ ha) (L.nodup _ ha)
  have hhd := L.head _ ha
  have hpg := L.page _ ha
  have hnx := fun p hp => L.next _ p ha hp
  have hnd := L.nodup _ ha
  have YH : Hid (∀ W, Calls Tryd.prog 38 #[.agg c.cells, .int .i64 k, .int .i64 f] W (Gives W (.int .i64 (headV c.pg c.st k f)))) := Lib.hid fun W => y_rhead R W k f
  obtain ⟨a, hae⟩ : ∃ a, headV c.pg c.st k f = a := ⟨_, rfl⟩
  rw [hae] at b0 b1 hz' hsh hhd hpg hnx hnd YH
  rw [hae]
  obtain ⟨l, hle⟩ : ∃ l, G a = l := ⟨_, rfl⟩
  rw [hle] at hsh hhd hpg hnx hnd
  rw [hle]
  obtain ⟨m, rfl⟩ : ∃ m : Nat, a = (m : Int) := ⟨a.toNat, by omega⟩
  have hm : m < ws.length := by omega
  have CA : Hid (∀ W, More w W → W.cell? ⟨g, m, none⟩ = some (.int .i64 (hd1 l))) := Lib.hid fun W hW => by
    have := (hw.more hW).cell hm
    rw [this]
    have : ws.getD m 0 = hd1 l := hhd
    rw [this]
  have NX : Hid (∀ p, p ∈ l → ∃ b : Nat, nA c.pg c.st p = (b : Int) ∧ b < ws.length ∧ ∀ W, More w W → W.cell? ⟨g, b, none⟩ = some (.int .i64 (nxL l p))) := Lib.hid fun p hp => by
    obtain ⟨⟨q0, q1, _⟩, _⟩ := nv_b H (hpg p hp)
    obtain ⟨b, hb⟩ : ∃ b : Nat, nA c.pg c.st p = (b : Int) := ⟨(nA c.pg c.st p).toNat, by omega⟩
    refine ⟨b, hb, by omega, fun W hW => ?_⟩
    have h1 := (hw.more hW).cell (i := b) (by omega)
    have h2 := hnx p hp
    rw [hb] at h2
    have h2 : ws.getD b 0 = nxL l p := h2
    rw [h1, h2]
  have HPG := Lib.hid hpg
  have HND := Lib.hid hnd
  have pg1 := R.pg1
  have pg2 := R.pg2
  have x2 : (w.alloc (.cells c.cells 30)).cell? ⟨w.heap.size, 2, none⟩ = some (.int .i64 c.pg) := cell_more hc (More.refl _) rfl
  have X2 := Lib.hid x2
  clear hc R hw hz L ha k0 k1 f0 f1 b0 hhd hpg hnx hnd hae hle HW x2 b1
  go_enter Tryd.func17, Tryd.ntmps17
  go_wp2_with (first | (refine wpList_load_row rfl 30 _ rfl _ rfl 30 _ _ _ HC.out Tryd.underlying30 rfl (by kernel_rfl) ?_) | (refine wpList_load_rowG rfl 30 _ rfl _ rfl 30 _ _ _ HC.out Tryd.underlying30 rfl (by kernel_rfl) ?_))
  refine (YH.out _).mono ?_
  rintro e w1 ⟨rfl, h1⟩
  have M1 := Lib.hid (HM.out.trans h1)
  have ca := CA.out _ M1.out
  have HC1 := Lib.hid (h1.block HC.out)
  have X3 := Lib.hid (h1.cell X2.out)
  clear h1 YH CA HC X2
  go_wp2_with fail
  clear ca
  go_loopw [10, 11, 12] (fun v10 v11 v12 wr => ∃ j : Nat, v12 = .int .i64 (j : Int) ∧ j ≤ l.length ∧ v11 = .int .i64 (hd1 (l.drop j)) ∧ Rw w1.heap.size wr v10 (l.take j) ∧ More w1 wr ∧ (j = 0 → v10 = .slice none 0 0)) (fun _ _ v12 _ => l.length - (intOf v12).toNat)
  case atStart => exact ⟨0, rfl, by omega, rfl, Rw.nil _ _, More.refl _, fun _ => rfl⟩
  case round =>
    obtain ⟨j, rfl, hj, rfl, hr, ht, hv0⟩ := hrel
    have q1 : IntKind.i64.wrap ((j : Int) + 1) = (j : Int) + 1 := wrap_in (by omega) (by omega)
    have x3 := ht.cell X3.out
    by_cases hlt : j < l.length
    · have d1 : decide ((j : Int) < c.pg) = true := by simp; omega
      have hmem := getD_mem hlt
      obtain ⟨b, hb, hbl, cb⟩ := NX.out _ hmem
      have hP := isPage_iff.1 (HPG.out _ hmem)
      have P3 := (page3 (st := c.st) (HPG.out _ hmem)).trans hb
      have hnext := nx_drop HND.out hlt
      have hts := take_snoc hlt
      rw [drop_cons hlt]
      obtain ⟨P, hPe⟩ : ∃ P, l.getD j 0 = P := ⟨_, rfl⟩
      rw [hPe] at hb cb hP P3 hnext hts ⊢
      rw [hnext] at cb
      have hd1e : hd1 (P :: l.drop (j + 1)) = P + 1 := rfl
      rw [hd1e]
      have d2 : decide ((0 : Int) < P + 1) = true := by simp; omega
      have q2 : IntKind.i64.wrap (P + 1 - 1) = P := by rw [show P + 1 - 1 = P by omega]; exact wrap_in (by omega) (by omega)
      have CB := Lib.hid cb
      have PP3 := Lib.hid P3
      have HRW := Lib.hid hr
      have HT := Lib.hid ht
      have HTS := Lib.hid hts
      have HX3 := Lib.hid x3
      clear hmem cb P3 hnext hts hPe hr ht hd1e hv0
      go_wp2_with (first | (at_builtin; refine wpList_push _ rfl _ _ rfl rfl HRW.out HT.out (by simp; omega) rfl ?_; intro v' w2 hr2 hm2; have HR2 := Lib.hid hr2; have HM2 := Lib.hid hm2; have HC2 := Lib.hid (hm2.block HC1.out); clear hr2 hm2) | (first | (refine wpList_load_row rfl 30 _ rfl _ rfl 30 _ _ _ HC2.out Tryd.underlying30 rfl (by kernel_rfl) ?_) | (refine wpList_load_rowG rfl 30 _ rfl _ rfl 30 _ _ _ HC2.out Tryd.underlying30 rfl (by kernel_rfl) ?_)))
      refine (y_rnext HR.out _ P).mono ?_
      rw [PP3.out]
      rintro e w3 ⟨rfl, h3⟩
      have HM3 := Lib.hid (HM2.out.trans h3)
      have HR3 := Lib.hid (HR2.out.more h3)
      have cb := CB.out _ (M1.out.trans HM3.out)
      clear h3
      go_wp2_with fail
      go_roundw
      case rel => exact ⟨j + 1, by go_num, by omega, rfl, by rw [HTS.out]; exact HR3.out, HM3.out, fun e => by omega⟩
      case measure => simp [intOf]; omega
    · obtain rfl : j = l.length := by omega
      rw [List.drop_length]
      rw [List.take_length] at hr
      have hd0 : hd1 [] = 0 := rfl
      rw [hd0]
      have FIN := Lib.hid (show GaveL w l (.returned _) wr from ⟨_, rfl, hr.mono M1.out.size, M1.out.trans ht, fun e => hv0 (by rw [e]; rfl)⟩)
      clear hr ht hv0
      by_cases hp : (l.length : Int) < c.pg
      · have d1 : decide ((l.length : Int) < c.pg) = true := by simpa using hp
        clear hp
        go_wp2_with fail
        go_ret
        exact FIN.out
      · have d1 : decide ((l.length : Int) < c.pg) = false := by simpa using hp
        clear hp
        go_wp2_with fail
        go_ret
        exact FIN.out

theorem fst_atR {pg st : Int} {n : Nat} (H : HdIn pg st n) {G : Int → List Int} {ws : List Int} (L : Ln pg st G ws) {q f : Int} (h0 : headV pg st q f ≠ 0) : plLeadV pg (headV pg st q f) ws = fst1 (G (headV pg st q f)) := by
  have ha := (head_hd h0).1
  exact lead_hd H (by have := (hd_b H ha).1; omega) (L.head _ ha) (L.page _ ha)
set_option maxRecDepth 100000 in
set_option maxHeartbeats 4000000 in
theorem r10_First {c : Cfg} (R : c.Ok) (ws : List Int) (H : HdIn c.pg c.st ws.length) (hl : ws.length ≤ 1000) {G : Int → List Int} (L : Ln c.pg c.st G ws) (g cap : Nat) (k : Int) (w : World) (hw : Ws w g cap ws) :
    Calls Tryd.prog 18 #[.agg c.cells, .slice (some ⟨g, 0, none⟩) ws.length cap, .int .i64 k] w (Gives w (.int .i64 (plFirstV c.pg c.st k (slotsC k).toNat 1 ws))) := by
  have hc := row_new w c.cells 30
  have HC := Lib.hid hc
  have HM : Hid (More w (w.alloc (.cells c.cells 30))) := Lib.hid ((More.refl w).alloc _)
  have HR := Lib.hid R
  have HW := Lib.hid hw
  have HH := Lib.hid H
  have HLn := Lib.hid L
  obtain ⟨res, hres⟩ : ∃ res, plFirstV c.pg c.st k (slotsC k).toNat 1 ws = res := ⟨_, rfl⟩
  rw [hres]
  have HRES := Lib.hid hres
  have hsl := slotsC_b k
  obtain ⟨w1, e1⟩ : ∃ w1, w.alloc (.cells c.cells 30) = w1 := ⟨_, rfl⟩
  rw [e1] at HC HM
  clear hc R hw H L hres
  go_enter Tryd.func18, Tryd.ntmps18
  go_wp2_with fail
  clear e1
  go_loopw [7] (fun v7 wr => ∃ f : Int, v7 = .int .i64 f ∧ 1 ≤ f ∧ f ≤ 33 ∧ More w1 wr ∧ plFirstV c.pg c.st k (slotsC k + 1 - f).toNat f ws = res) (fun v7 _ => (33 - intOf v7).toNat)
  case atStart => exact ⟨1, rfl, by omega, by omega, More.refl _, by rw [show slotsC k + 1 - 1 = slotsC k by omega]; exact HRES.out⟩
  case round =>
    clear HRES
    obtain ⟨f, rfl, f1, f2, ht, hrest⟩ := hrel
    have MW := Lib.hid (HM.out.trans ht)
    have HC1 := Lib.hid (ht.block HC.out)
    have HT := Lib.hid ht
    have qf : IntKind.i64.wrap (f + 1) = f + 1 := wrap_in (by omega) (by omega)
    by_cases hf : f ≤ 32
    · have d1 : decide (f ≤ 32) = true := by simpa using hf
      have REST := Lib.hid hrest
      clear ht hrest
      go_wp2_with (first | (refine wpList_load_row rfl 30 _ rfl _ rfl 30 _ _ _ HC1.out Tryd.underlying30 rfl (by kernel_rfl) ?_) | (refine wpList_load_rowG rfl 30 _ rfl _ rfl 30 _ _ _ HC1.out Tryd.underlying30 rfl (by kernel_rfl) ?_))
      refine (r10_List HR.out ws HH.out hl HLn.out g cap k f wr (HW.out.more MW.out)).mono ?_
      rintro e w2 ⟨v, rfl, hr, h2, _⟩
      have MW2 := Lib.hid (MW.out.trans h2)
      have HT2 := Lib.hid (HT.out.trans h2)
      obtain ⟨a1, c1, rfl, hrd⟩ := hr.reads
      clear h2
      have hcase : (listG c.pg c.st G k f = [] ∧ plFirstV c.pg c.st k (slotsC k + 1 - (f + 1)).toNat (f + 1) ws = res) ∨ (0 < (listG c.pg c.st G k f).length ∧ (listG c.pg c.st G k f).getD 0 0 = res) := by
        have hrest := REST.out
        by_cases hz : headV c.pg c.st k f = 0
        · refine .inl ⟨if_pos hz, ?_⟩
          by_cases hm : f ≤ slotsC k
          · obtain ⟨m, hm2⟩ : ∃ m : Nat, (slotsC k + 1 - f).toNat = m + 1 := ⟨(slotsC k - f).toNat, by omega⟩
            rw [hm2] at hrest
            have hrest : (if plLeadV c.pg (headV c.pg c.st k f) ws = -1 then plFirstV c.pg c.st k m (f + 1) ws else plLeadV c.pg (headV c.pg c.st k f) ws) = res := hrest
            rw [hz] at hrest
            have h0 : plLeadV c.pg 0 ws = -1 := if_pos rfl
            rw [if_pos h0] at hrest
            rw [show (slotsC k + 1 - (f + 1)).toNat = m by omega]
            exact hrest
          · rw [show (slotsC k + 1 - f).toNat = 0 by omega] at hrest
            rw [show (slotsC k + 1 - (f + 1)).toNat = 0 by omega]
            exact hrest
        · obtain ⟨ha, k0, k1, _, f3⟩ := head_hd hz
          have hse := slotsC_eq ⟨k0, k1⟩
          obtain ⟨m, hm2⟩ : ∃ m : Nat, (slotsC k + 1 - f).toNat = m + 1 := ⟨(slotsC k - f).toNat, by omega⟩
          rw [hm2] at hrest
          have hrest : (if plLeadV c.pg (headV c.pg c.st k f) ws = -1 then plFirstV c.pg c.st k m (f + 1) ws else plLeadV c.pg (headV c.pg c.st k f) ws) = res := hrest
          rw [fst_atR HH.out HLn.out hz] at hrest
          rw [show listG c.pg c.st G k f = G (headV c.pg c.st k f) from if_neg hz]
          have hpg := HLn.out.page _ ha
          match G (headV c.pg c.st k f), hrest, hpg with
          | [], hrest, _ =>
            refine .inl ⟨rfl, ?_⟩
            rw [show (slotsC k + 1 - (f + 1)).toNat = m by omega]
            simpa [fst1] using hrest
          | x :: l, hrest, hpg =>
            have hx := (isPage_iff.1 (hpg x (by simp))).1
            refine .inr ⟨by simp, ?_⟩
            have hrest : (if x = -1 then plFirstV c.pg c.st k m (f + 1) ws else x) = res := hrest
            rw [if_neg (by omega)] at hrest
            exact hrest
      generalize listG c.pg c.st G k f = l at hcase hrd
      clear REST
      rcases hcase with ⟨h0, hn⟩ | ⟨h0, hn⟩
      · subst h0
        have HN := Lib.hid hn
        clear hn hrd hr
        go_wp2_with fail
        go_roundw
        case rel => exact ⟨f + 1, by go_num, by omega, by omega, HT2.out, HN.out⟩
        case measure => simp [intOf]; omega
      · obtain ⟨ga, rfl, _, _, hcell⟩ := hrd 0 h0
        have ca := hcell 0 h0
        rw [hn] at ca
        have d2 : decide ((0 : Int) < (l.length : Int)) = true := by simp; omega
        have d3 : decide (0 < l.length) = true := by simp; omega
        clear hn hrd hcell hr
        go_wp2_with fail
        go_ret
        exact ⟨rfl, MW2.out⟩
    · have d1 : decide (f ≤ 32) = false := by simpa using hf
      have hres : (-1 : Int) = res := by
        rw [← hrest, show (slotsC k + 1 - f).toNat = 0 by omega]; rfl
      subst hres
      clear hrest ht
      go_wp2_with fail
      go_ret
      exact ⟨rfl, MW.out⟩

set_option maxRecDepth 100000 in
set_option maxHeartbeats 8000000 in
theorem r10_lay {c : Cfg} (R : c.Ok) (ws : List Int) (H : HdIn c.pg c.st ws.length) (hl : ws.length ≤ 1000) (k f : Int) (hz : headV c.pg c.st k f ≠ 0) (ps : List Int) (hp : ∀ p ∈ ps, isPage c.pg p = true) (hpl : ps.length ≤ 1000) (g cap : Nat) (vp : Value) (bp : Nat) (w : World) (hw : Ws w g cap ws) (hr : Rw bp w vp ps) (hno : ∀ kk, vp.ownBlock = some kk → kk ≠ g) :
    Calls Tryd.prog 63 #[.agg c.cells, .slice (some ⟨g, 0, none⟩) ws.length cap, .int .i64 k, .int .i64 f, vp] w (fun e w' => e = .returned (.tuple #[]) ∧ Ws w' g cap (layV c.pg c.st (headV c.pg c.st k f) ps ws) ∧ Turned (fun b => b = g) w w') := by
  have hc := row_new w c.cells 30
  have HR := Lib.hid R
  have hgl := hw.lt
  have HPG := Lib.hid hp
  have pg1 := R.pg1
  have pg2 := R.pg2
  obtain ⟨ha, _, _, _, _⟩ := head_hd hz
  obtain ⟨b0, b1, _⟩ := hd_b H ha
  have YH : Hid (∀ W, Calls Tryd.prog 38 #[.agg c.cells, .int .i64 k, .int .i64 f] W (Gives W (.int .i64 (headV c.pg c.st k f)))) := Lib.hid fun W => y_rhead R W k f
  obtain ⟨h, hhe⟩ : ∃ h, headV c.pg c.st k f = h := ⟨_, rfl⟩
  rw [hhe] at YH b0 b1 ha ⊢
  obtain ⟨m, hm⟩ : ∃ m : Nat, h = (m : Int) := ⟨h.toNat, by omega⟩
  have hml : m < ws.length := by omega
  have NV : Hid (∀ p, isPage c.pg p = true → ∃ b3 b4 : Nat, nA c.pg c.st p = (b3 : Int) ∧ vA c.pg c.st p = (b4 : Int) ∧ b3 < ws.length ∧ b4 < ws.length) := Lib.hid fun p hp => by
    obtain ⟨⟨q0, q1, _⟩, ⟨q2, q3, _⟩⟩ := nv_b H hp
    exact ⟨(nA c.pg c.st p).toNat, (vA c.pg c.st p).toNat, by omega, by omega, by omega, by omega⟩
  obtain ⟨w1, e1⟩ : ∃ w1, w.alloc (.cells c.cells 30) = w1 := ⟨_, rfl⟩
  have m1 : More w w1 := by rw [← e1]; exact (More.refl w).alloc _
  rw [e1] at hc
  have KL : Hid (∀ wr, Turned (fun b => b = g) w1 wr → wr.heap[w.heap.size]? = some (.cells c.cells 30 (0, 0)) ∧ Rw bp wr vp ps) := Lib.hid fun wr t => ⟨(t.block _ (lt_of_heap hc) (by omega)).trans hc, Rw.keepT (Rw.more hr m1) t (fun kk q => hno kk q)⟩
  obtain ⟨ap, cp, rfl, _⟩ := hr.reads
  have X1 := Lib.hid (hw.more m1)
  have T1 : Hid (Turned (fun b => b = g) w1 w1) := Lib.hid (Turned.refl _ _)
  have HC1 := Lib.hid hc
  have M1 := Lib.hid m1
  have HE := Lib.hid hhe
  have HMm := Lib.hid hm
  clear hc R hw hr hno hz H ha hp m1 b0 b1 hhe
  go_enter Tryd.func63, Tryd.ntmps63
  go_wp2_with (first | (refine wpList_load_row rfl 30 _ rfl _ rfl 30 _ _ _ HC1.out Tryd.underlying30 rfl (by kernel_rfl) ?_) | (refine wpList_load_rowG rfl 30 _ rfl _ rfl 30 _ _ _ HC1.out Tryd.underlying30 rfl (by kernel_rfl) ?_))
  clear e1
  rw [hm] at YH
  refine (YH.out _).mono ?_
  rintro e w2 ⟨rfl, h2⟩
  have T2 : Hid (Turned (fun b => b = g) w1 w2) := Lib.hid (Turned.mono h2 (fun _ _ q => q.elim))
  have X2 := Lib.hid (X1.out.more h2)
  clear h2
  have c3 := X2.out.cell (i := m) hml
  have f3 := X2.out.froz m
  have l3 := X2.out.lt
  obtain ⟨w3, e3⟩ : ∃ w3, World.setCell w2 ⟨g, m, none⟩ (.int .i64 0) = w3 := ⟨_, rfl⟩
  have X3 : Hid (Ws w3 g cap (ws.set m 0)) := Lib.hid (by rw [← e3]; exact X2.out.set hml _)
  have T3 : Hid (Turned (fun b => b = g) w1 w3) := Lib.hid (by rw [← e3]; exact Turned.setCell T2.out _ _ (fun _ => rfl))
  go_wp2_with fail
  clear c3 f3 l3 e3
  have START := Lib.hid (show Ws w3 g cap (layN c.pg c.st h ps 0 ws) from by
    have : layN c.pg c.st h ps 0 ws = ws.set m 0 := by unfold layN; rw [HMm.out]; rfl
    rw [this]; exact X3.out)
  go_loopw [10] (fun v10 wr => ∃ j : Nat, v10 = .int .i64 (j : Int) ∧ j ≤ ps.length ∧ Ws wr g cap (layN c.pg c.st h ps j ws) ∧ Turned (fun b => b = g) w1 wr) (fun v10 _ => ps.length - (intOf v10).toNat)
  case atStart => exact ⟨0, rfl, by omega, START.out, T3.out⟩
  case round =>
    clear START X3 T3 X2 T2 X1 T1
    obtain ⟨j, rfl, hj, hX, hT⟩ := hrel
    have X := Lib.hid hX
    have T := Lib.hid hT
    have q1 : IntKind.i64.wrap ((j : Int) + 1) = (j : Int) + 1 := wrap_in (by omega) (by omega)
    obtain ⟨hL, hR⟩ := KL.out _ hT
    by_cases hlt : j < ps.length
    · have d1 : decide ((j : Int) < (ps.length : Int)) = true := by simp; omega
      obtain ⟨ap', cp', e', hrd⟩ := hR.reads
      simp only [Value.slice.injEq] at e'
      obtain ⟨rfl, _, rfl⟩ := e'
      obtain ⟨gp, rfl, _, _, hcell⟩ := hrd j hlt
      have KR : Hid (∀ wx, Turned (fun b => b = g) w1 wx → ∀ i, i < ps.length → wx.cell? ⟨gp, i, none⟩ = some (.int .i64 (ps.getD i 0))) := Lib.hid fun wx t i hi => by
        obtain ⟨ap', cp', e', hrd'⟩ := (KL.out _ t).2.reads
        simp only [Value.slice.injEq] at e'
        obtain ⟨ea, _, _⟩ := e'
        obtain ⟨g2, e2, _, _, hc2⟩ := hrd' i hi
        rw [← ea] at e2
        simp only [Option.some.injEq, Addr.mk.injEq, and_true] at e2
        rw [e2]
        exact hc2 i hi
      have cP := hcell j hlt
      have HCELL := Lib.hid hcell
      clear hcell
      have hmem := getD_mem hlt
      obtain ⟨P, hPe⟩ : ∃ P, ps.getD j 0 = P := ⟨_, rfl⟩
      rw [hPe] at cP hmem
      obtain ⟨b3, b4, hb3, hb4, l3, l4⟩ := NV.out P (HPG.out P hmem)
      have P3 := Lib.hid ((page3 (st := c.st) (HPG.out P hmem)).trans hb3)
      have P4 := Lib.hid ((page4 (st := c.st) (HPG.out P hmem)).trans hb4)
      have HL := Lib.hid hL
      have hPp := isPage_iff.1 (HPG.out P hmem)
      have qP : IntKind.i64.wrap (P + 1) = P + 1 := wrap_in (by omega) (by omega)
      obtain ⟨xs, hxs⟩ : ∃ xs, layN c.pg c.st h ps j ws = xs := ⟨_, rfl⟩
      have hxl : xs.length = ws.length := by rw [← hxs]; exact layN_len _ _ _ _ _ _
      have hnext : layN c.pg c.st h ps (j + 1) ws = layC c.pg c.st h ps j (layB c.pg c.st h ps j ((xs.set b3 0).set b4 0)) := by
        show layC c.pg c.st h ps j (layB c.pg c.st h ps j (layA c.pg c.st h ps j (layN c.pg c.st h ps j ws))) = _
        rw [hxs]; unfold layA; rw [hPe, hb3, hb4]; rfl
      rw [hxs] at X
      clear hX hT hL hR hrd hxs
      go_wp2_with (first | (refine wpList_load_row rfl 30 _ rfl _ rfl 30 _ _ _ HL.out Tryd.underlying30 rfl (by kernel_rfl) ?_) | (refine wpList_load_rowG rfl 30 _ rfl _ rfl 30 _ _ _ HL.out Tryd.underlying30 rfl (by kernel_rfl) ?_))
      refine (y_rnext HR.out _ P).mono ?_
      rw [P3.out]
      rintro e wa ⟨rfl, ha⟩
      have Ta : Hid (Turned (fun b => b = g) w1 wa) := Lib.hid (T.out.trans (Turned.mono ha (fun _ _ q => q.elim)))
      have Xa := Lib.hid (X.out.more ha)
      clear ha
      have cb := Xa.out.cell (i := b3) (by omega)
      have fb := Xa.out.froz b3
      have lb := Xa.out.lt
      obtain ⟨wb, eb⟩ : ∃ wb, World.setCell wa ⟨g, b3, none⟩ (.int .i64 0) = wb := ⟨_, rfl⟩
      have Xb : Hid (Ws wb g cap (xs.set b3 0)) := Lib.hid (by rw [← eb]; exact Xa.out.set (by omega) _)
      have Tb : Hid (Turned (fun b => b = g) w1 wb) := Lib.hid (by rw [← eb]; exact Turned.setCell Ta.out _ _ (fun _ => rfl))
      have HLb := Lib.hid (KL.out _ Tb.out).1
      clear cP
      go_wp2_with (first | (refine wpList_load_row rfl 30 _ rfl _ rfl 30 _ _ _ HLb.out Tryd.underlying30 rfl (by kernel_rfl) ?_) | (refine wpList_load_rowG rfl 30 _ rfl _ rfl 30 _ _ _ HLb.out Tryd.underlying30 rfl (by kernel_rfl) ?_))
      clear cb fb lb eb
      refine (y_rprev HR.out _ P).mono ?_
      rw [P4.out]
      rintro e wc ⟨rfl, hc⟩
      have Tc : Hid (Turned (fun b => b = g) w1 wc) := Lib.hid (Tb.out.trans (Turned.mono hc (fun _ _ q => q.elim)))
      have Xc := Lib.hid (Xb.out.more hc)
      clear hc
      have cd := Xc.out.cell (i := b4) (by simp; omega)
      have fd := Xc.out.froz b4
      have ld := Xc.out.lt
      obtain ⟨wd, ed⟩ : ∃ wd, World.setCell wc ⟨g, b4, none⟩ (.int .i64 0) = wd := ⟨_, rfl⟩
      have Xd : Hid (Ws wd g cap ((xs.set b3 0).set b4 0)) := Lib.hid (by rw [← ed]; exact Xc.out.set (by simp; omega) _)
      have Td : Hid (Turned (fun b => b = g) w1 wd) := Lib.hid (by rw [← ed]; exact Turned.setCell Tc.out _ _ (fun _ => rfl))
      have HLd := Lib.hid (KL.out _ Td.out).1
      by_cases hj0 : j = 0
      · have dj : ((j : Int) == 0) = true := by simp [hj0]
        have hB : layB c.pg c.st h ps j ((xs.set b3 0).set b4 0) = ((xs.set b3 0).set b4 0).set m (P + 1) := by unfold layB; rw [if_pos hj0, hPe, HMm.out]; rfl
        rw [hB] at hnext
        have HN := Lib.hid hnext
        clear hj0 hB hnext
        go_wp2_with (first | (refine wpList_load_row rfl 30 _ rfl _ rfl 30 _ _ _ HLd.out Tryd.underlying30 rfl (by kernel_rfl) ?_) | (refine wpList_load_rowG rfl 30 _ rfl _ rfl 30 _ _ _ HLd.out Tryd.underlying30 rfl (by kernel_rfl) ?_))
        clear cd fd ld ed
        refine (YH.out _).mono ?_
        rintro e we ⟨rfl, he⟩
        have Te : Hid (Turned (fun b => b = g) w1 we) := Lib.hid (Td.out.trans (Turned.mono he (fun _ _ q => q.elim)))
        have Xe := Lib.hid (Xd.out.more he)
        clear he
        have ck := Xe.out.cell (i := m) (by simp; omega)
        have fk := Xe.out.froz m
        have lk := Xe.out.lt
        obtain ⟨wk, ek⟩ : ∃ wk, World.setCell we ⟨g, m, none⟩ (.int .i64 (P + 1)) = wk := ⟨_, rfl⟩
        have Xk : Hid (Ws wk g cap (((xs.set b3 0).set b4 0).set m (P + 1))) := Lib.hid (by rw [← ek]; exact Xe.out.set (by simp; omega) _)
        have Tk : Hid (Turned (fun b => b = g) w1 wk) := Lib.hid (by rw [← ek]; exact Turned.setCell Te.out _ _ (fun _ => rfl))
        by_cases hlast : j + 1 < ps.length
        · have d8 : decide (((j : Int) + 1) < (ps.length : Int)) = true := by simp; omega
          have cz5 := KR.out _ Tk.out (j + 1) hlast
          obtain ⟨zv, hzv⟩ : ∃ zv, ps.getD (j + 1) 0 = zv := ⟨_, rfl⟩
          rw [hzv] at cz5
          have hzp := isPage_iff.1 (HPG.out zv (by rw [← hzv]; exact getD_mem hlast))
          have qz : IntKind.i64.wrap (zv + 1) = zv + 1 := wrap_in (by omega) (by omega)
          have hC : layC c.pg c.st h ps j ((((xs.set b3 0).set b4 0).set m (P + 1))) = ((((xs.set b3 0).set b4 0).set m (P + 1))).set b3 (zv + 1) := by unfold layC; rw [if_pos hlast, hPe, hb3, hzv]; rfl
          have HC' := Lib.hid hC
          have HL5 := Lib.hid (KL.out _ Tk.out).1
          have hjx : (j : Int) + 1 < (ps.length : Int) := by omega
          have hjy : (0 : Int) ≤ (j : Int) + 1 := by omega
          clear hC hlast hzv
          go_wp2_with fail
          refine wp_region_more_tail 11 (by kernel_rfl) (by kernel_rfl) ?_
          simp only [List.take_succ_cons, List.take_zero, List.drop_succ_cons, List.drop_zero]
          iterate 1
            with_reducible refine wpQuiet_step (fun K hK => ?_)
            go_simp
            first
            | (refine hK _ ?_; clear hK K)
            | (apply Exists.intro
               refine ⟨fun W hW => ?_, hK _ ?_⟩
               first
               | (go_simp; try rfl)
               clear hK K)
          refine wpQuiet_load_row rfl 30 _ rfl _ rfl 30 _ _ _ (fun W hW => hW.block HL5.out) Tryd.underlying30 rfl (by kernel_rfl) ?_
          iterate 9
            with_reducible refine wpQuiet_step (fun K hK => ?_)
            go_simp
            first
            | (refine hK _ ?_; clear hK K)
            | (apply Exists.intro
               refine ⟨fun W hW => ?_, hK _ ?_⟩
               first
               | (go_at_call 39; have := y_rnext HR.out W P; rw [P3.out] at this; exact Calls.more hW this)
               | (have cz' := hW.cell cz5; go_simp; try rfl)
               clear hK K)
          refine wpQuiet_nil ?_
          intro w6 m6
          have T6 : Hid (Turned (fun b => b = g) w1 w6) := Lib.hid (Tk.out.trans (Turned.mono m6 (fun _ _ q => q.elim)))
          have X6 := Lib.hid (Xk.out.more m6)
          clear m6
          have c7 := X6.out.cell (i := b3) (by simp; omega)
          have f7 := X6.out.froz b3
          have l7 := X6.out.lt
          obtain ⟨w7, e7⟩ : ∃ w7, World.setCell w6 ⟨g, b3, none⟩ (.int .i64 (zv + 1)) = w7 := ⟨_, rfl⟩
          have X7 : Hid (Ws w7 g cap (((((xs.set b3 0).set b4 0).set m (P + 1))).set b3 (zv + 1))) := Lib.hid (by rw [← e7]; exact X6.out.set (by simp; omega) _)
          have T7 : Hid (Turned (fun b => b = g) w1 w7) := Lib.hid (by rw [← e7]; exact Turned.setCell T6.out _ _ (fun _ => rfl))
          go_wp2_with fail
          clear c7 f7 l7 e7
          go_roundw
          case rel => exact ⟨j + 1, by go_num, by omega, by rw [HN.out, HC'.out]; exact X7.out, T7.out⟩
          case measure => simp [intOf]; omega
        · have d8 : decide (((j : Int) + 1) < (ps.length : Int)) = false := by simp; omega
          have hC : layC c.pg c.st h ps j ((((xs.set b3 0).set b4 0).set m (P + 1))) = (((xs.set b3 0).set b4 0).set m (P + 1)) := by unfold layC; rw [if_neg hlast]
          have HC' := Lib.hid hC
          clear hC hlast
          go_wp2_with fail
          go_roundw
          case rel => exact ⟨j + 1, by go_num, by omega, by rw [HN.out, HC'.out]; exact Xk.out, Tk.out⟩
          case measure => simp [intOf]; omega
      · have dj : ((j : Int) == 0) = false := by simpa using hj0
        have dj2 : decide ((j : Int) = 0) = false := by simpa using hj0
        obtain ⟨j1, hj1⟩ : ∃ j1, j - 1 = j1 := ⟨_, rfl⟩
        have cy5 := KR.out _ Td.out j1 (by omega)
        obtain ⟨yv, hyv⟩ : ∃ yv, ps.getD j1 0 = yv := ⟨_, rfl⟩
        rw [hyv] at cy5
        have hyp := isPage_iff.1 (HPG.out yv (by rw [← hyv]; exact getD_mem (by omega)))
        have qy : IntKind.i64.wrap (yv + 1) = yv + 1 := wrap_in (by omega) (by omega)
        have qj1 : IntKind.i64.wrap ((j : Int) - 1) = (j1 : Int) := by rw [wrap_in (by omega) (by omega)]; omega
        have hj1x : (j1 : Int) < (ps.length : Int) := by omega
        have hj1n : j1 < ps.length := by omega
        have hB : layB c.pg c.st h ps j ((xs.set b3 0).set b4 0) = ((xs.set b3 0).set b4 0).set b4 (yv + 1) := by unfold layB; rw [if_neg hj0, hPe, hb4, hj1, hyv]; rfl
        rw [hB] at hnext
        have HN := Lib.hid hnext
        clear hj0 hB hnext hj1 hyv
        go_wp2_with fail
        clear cd fd ld ed
        refine wp_region_more_tail 11 (by kernel_rfl) (by kernel_rfl) ?_
        simp only [List.take_succ_cons, List.take_zero, List.drop_succ_cons, List.drop_zero]
        iterate 1
          with_reducible refine wpQuiet_step (fun K hK => ?_)
          go_simp
          first
          | (refine hK _ ?_; clear hK K)
          | (apply Exists.intro
             refine ⟨fun W hW => ?_, hK _ ?_⟩
             first
             | (go_simp; try rfl)
             clear hK K)
        refine wpQuiet_load_row rfl 30 _ rfl _ rfl 30 _ _ _ (fun W hW => hW.block HLd.out) Tryd.underlying30 rfl (by kernel_rfl) ?_
        iterate 9
          with_reducible refine wpQuiet_step (fun K hK => ?_)
          go_simp
          first
          | (refine hK _ ?_; clear hK K)
          | (apply Exists.intro
             refine ⟨fun W hW => ?_, hK _ ?_⟩
             first
             | (go_at_call 64; have := y_rprev HR.out W P; rw [P4.out] at this; exact Calls.more hW this)
             | (have cy' := hW.cell cy5; go_simp; try rfl)
             clear hK K)
        refine wpQuiet_nil ?_
        intro we me
        have Te : Hid (Turned (fun b => b = g) w1 we) := Lib.hid (Td.out.trans (Turned.mono me (fun _ _ q => q.elim)))
        have Xe := Lib.hid (Xd.out.more me)
        clear me cy5
        have ck := Xe.out.cell (i := b4) (by simp; omega)
        have fk := Xe.out.froz b4
        have lk := Xe.out.lt
        obtain ⟨wk, ek⟩ : ∃ wk, World.setCell we ⟨g, b4, none⟩ (.int .i64 (yv + 1)) = wk := ⟨_, rfl⟩
        have Xk : Hid (Ws wk g cap (((xs.set b3 0).set b4 0).set b4 (yv + 1))) := Lib.hid (by rw [← ek]; exact Xe.out.set (by simp; omega) _)
        have Tk : Hid (Turned (fun b => b = g) w1 wk) := Lib.hid (by rw [← ek]; exact Turned.setCell Te.out _ _ (fun _ => rfl))
        by_cases hlast : j + 1 < ps.length
        · have d8 : decide (((j : Int) + 1) < (ps.length : Int)) = true := by simp; omega
          have cz5 := KR.out _ Tk.out (j + 1) hlast
          obtain ⟨zv, hzv⟩ : ∃ zv, ps.getD (j + 1) 0 = zv := ⟨_, rfl⟩
          rw [hzv] at cz5
          have hzp := isPage_iff.1 (HPG.out zv (by rw [← hzv]; exact getD_mem hlast))
          have qz : IntKind.i64.wrap (zv + 1) = zv + 1 := wrap_in (by omega) (by omega)
          have hC : layC c.pg c.st h ps j ((((xs.set b3 0).set b4 0).set b4 (yv + 1))) = ((((xs.set b3 0).set b4 0).set b4 (yv + 1))).set b3 (zv + 1) := by unfold layC; rw [if_pos hlast, hPe, hb3, hzv]; rfl
          have HC' := Lib.hid hC
          have HL5 := Lib.hid (KL.out _ Tk.out).1
          have hjx : (j : Int) + 1 < (ps.length : Int) := by omega
          have hjy : (0 : Int) ≤ (j : Int) + 1 := by omega
          clear hC hlast hzv
          go_wp2_with fail
          refine wp_region_more_tail 11 (by kernel_rfl) (by kernel_rfl) ?_
          simp only [List.take_succ_cons, List.take_zero, List.drop_succ_cons, List.drop_zero]
          iterate 1
            with_reducible refine wpQuiet_step (fun K hK => ?_)
            go_simp
            first
            | (refine hK _ ?_; clear hK K)
            | (apply Exists.intro
               refine ⟨fun W hW => ?_, hK _ ?_⟩
               first
               | (go_simp; try rfl)
               clear hK K)
          refine wpQuiet_load_row rfl 30 _ rfl _ rfl 30 _ _ _ (fun W hW => hW.block HL5.out) Tryd.underlying30 rfl (by kernel_rfl) ?_
          iterate 9
            with_reducible refine wpQuiet_step (fun K hK => ?_)
            go_simp
            first
            | (refine hK _ ?_; clear hK K)
            | (apply Exists.intro
               refine ⟨fun W hW => ?_, hK _ ?_⟩
               first
               | (go_at_call 39; have := y_rnext HR.out W P; rw [P3.out] at this; exact Calls.more hW this)
               | (have cz' := hW.cell cz5; go_simp; try rfl)
               clear hK K)
          refine wpQuiet_nil ?_
          intro w6 m6
          have T6 : Hid (Turned (fun b => b = g) w1 w6) := Lib.hid (Tk.out.trans (Turned.mono m6 (fun _ _ q => q.elim)))
          have X6 := Lib.hid (Xk.out.more m6)
          clear m6
          have c7 := X6.out.cell (i := b3) (by simp; omega)
          have f7 := X6.out.froz b3
          have l7 := X6.out.lt
          obtain ⟨w7, e7⟩ : ∃ w7, World.setCell w6 ⟨g, b3, none⟩ (.int .i64 (zv + 1)) = w7 := ⟨_, rfl⟩
          have X7 : Hid (Ws w7 g cap (((((xs.set b3 0).set b4 0).set b4 (yv + 1))).set b3 (zv + 1))) := Lib.hid (by rw [← e7]; exact X6.out.set (by simp; omega) _)
          have T7 : Hid (Turned (fun b => b = g) w1 w7) := Lib.hid (by rw [← e7]; exact Turned.setCell T6.out _ _ (fun _ => rfl))
          go_wp2_with fail
          clear c7 f7 l7 e7
          go_roundw
          case rel => exact ⟨j + 1, by go_num, by omega, by rw [HN.out, HC'.out]; exact X7.out, T7.out⟩
          case measure => simp [intOf]; omega
        · have d8 : decide (((j : Int) + 1) < (ps.length : Int)) = false := by simp; omega
          have hC : layC c.pg c.st h ps j ((((xs.set b3 0).set b4 0).set b4 (yv + 1))) = (((xs.set b3 0).set b4 0).set b4 (yv + 1)) := by unfold layC; rw [if_neg hlast]
          have HC' := Lib.hid hC
          clear hC hlast
          go_wp2_with fail
          go_roundw
          case rel => exact ⟨j + 1, by go_num, by omega, by rw [HN.out, HC'.out]; exact Xk.out, Tk.out⟩
          case measure => simp [intOf]; omega
    · obtain rfl : j = ps.length := by omega
      have d1 : decide ((ps.length : Int) < (ps.length : Int)) = false := by simp
      have FIN := Lib.hid (And.intro hX (Turned.trans (Turned.mono M1.out (fun _ _ q => q.elim)) hT))
      clear hX hT hL hR
      go_wp2_with fail
      go_end0
      exact ⟨rfl, FIN.out.1, FIN.out.2⟩

theorem RowP.turn {w w1 w2 : World} {g : Nat} (m : More w w1) (t : Turned (fun b => b = g) w1 w2) : Turned (fun b => b = g) w w2 := (Turned.mono m (fun _ _ q => q.elim)).trans t
/-- append of a row to one thing. -/
theorem wp_pushrow {o : Oper} {a : Act} {K : Act → World → Prop} {Q : Exit → Act → World → Prop} {w : World} {base b2 : Nat} {v v2 : Value} {xs ys : List Int} (s x : Operand)
    (ho : o.op = .call { callee := .builtin .append, args := #[s, x], argTypes := #[31, 31] })
    (hs : a.eval s = v) (hn : Rw base w v xs) (hb : base ≤ w.heap.size) (hl : xs.length ≤ 1000000)
    (hx : a.eval x = v2) (hr : Rw b2 w v2 ys) (hy : 0 < ys.length ∧ ys.length ≤ 1000000)
    (h : ∀ v' w', Rw base w' v' (xs ++ ys) → Turned (fun k => v.ownBlock = some k) w w' → (∀ k, v'.ownBlock = some k → v.ownBlock = some k ∨ k = w.heap.size) → K (a.put o.dst v') w') : o.wp Tryd.prog a w K Q := by
  obtain ⟨i, i1, i2, i3, i4⟩ := int_info
  obtain ⟨ax, cx, rfl, hrd⟩ := hr.reads
  obtain ⟨gx, rfl, _, _, hc⟩ := hrd 0 hy.1
  refine wp_append_lies w s x 31 ho base 3 i _ 1 8 Tryd.underlying31 i1 i2 i3 i4 rfl (by omega) v xs.length _ hs hn ⟨gx, 0, none⟩ ys.length cx (ys.map (Value.int .i64)) hx (by simp)
    (fun j u hu => ?_) (by intro u hu; obtain ⟨z, _, rfl⟩ := List.mem_map.1 hu; rfl) hy.1 (by simp only [maxLen]; omega) (by omega) hb _ rfl ?_
  · rw [List.getElem?_map] at hu
    by_cases hj : j < ys.length
    · rw [List.getElem?_eq_getElem hj] at hu
      simp only [Option.map_some, Option.some.injEq] at hu
      rw [addr_add, Nat.zero_add, hc j hj, ← hu, List.getD_eq_getElem?_getD, List.getElem?_eq_getElem hj]; rfl
    · rw [List.getElem?_eq_none (by omega)] at hu; cases hu
  · intro g' cap w1 hown hgrow h4 _
    have ht : Turned (fun k => v.ownBlock = some k) w w1 := ⟨hgrow.os, hgrow.tape, hgrow.output, hgrow.size, fun k hk hne => hgrow.block k hk (fun e => hne e.symm)⟩
    refine h _ w1 ?_ ht (fun k q => ?_)
    · unfold Rw
      rw [List.length_append, List.map_append]
      exact hown
    · have : k = g' := by simpa [Value.ownBlock, eq_comm] using q
      subst this
      exact h4

theorem rw_oneR (w : World) (a : Int) : Rw 0 (w.alloc (.cells #[.int .i64 a] 3)) (.slice (some ⟨w.heap.size, 0, none⟩) 1 1) [a] := by
  have h := heap_new w (.cells #[.int .i64 a] 3)
  exact Ws.rw' (base := 0) (zs := [a]) (cap := 1) ⟨_, h, Nat.le_refl _, by unfold maxLen; omega, rfl, fun i hi => by
    match i, hi with
    | 0, _ => rfl⟩ (Nat.zero_le _)
theorem put_comm {a : Act} {i j : Nat} {x y : Value} (h : i ≠ j) : Act.put (Act.put a (some i) x) (some j) y = Act.put (Act.put a (some j) y) (some i) x := by
  simp only [Act.put, Act.mk.injEq, and_true]
  exact Array.setIfInBounds_comm _ _ h
theorem wp_push0 {o : Oper} {a : Act} {K : Act → World → Prop} {Q : Exit → Act → World → Prop} {w : World} {g n cap : Nat} (s x : Operand)
    (ho : o.op = .call { callee := .builtin .append, args := #[s, x], argTypes := #[31, 31] })
    (hs : a.eval s = .slice (some ⟨g, 0, none⟩) n cap) (hx : a.eval x = .slice none 0 0) (hn : n ≤ cap)
    (h : K (a.put o.dst (.slice (some ⟨g, 0, none⟩) n cap)) w) : o.wp Tryd.prog a w K Q := by
  unfold Oper.wp execOp
  generalize a.eval = ρ at hs hx ⊢
  simp only [ho, resolve, invoke, builtin, Sem.run_bind, Sem.run_pure, Result.andThen_ok, List.map_toArray, List.map_cons, List.map_nil, hs, hx]
  go_simp
  exact h

theorem link_ok {c : Cfg} {ws : List Int} (H : HdIn c.pg c.st ws.length) {G : Int → List Int} (L : Ln c.pg c.st G ws) {q k f : Int} (hq : isPage c.pg q = true) (hz : headV c.pg c.st k f ≠ 0) (hf : ∀ a, isHd c.pg c.st a → q ∉ G a) : plLinkV c.pg c.st q k f ws = (true, layV c.pg c.st (headV c.pg c.st k f) (q :: listG c.pg c.st G k f) ws) := by
  have := link_same H L rfl hz hq hf
  rw [show listG c.pg c.st G k f = G (headV c.pg c.st k f) from if_neg hz, this]
  unfold plLinkV
  rw [if_pos ⟨hz, hq⟩]
set_option maxRecDepth 100000 in
set_option maxHeartbeats 8000000 in
theorem r10_Link {c : Cfg} (R : c.Ok) (ws : List Int) (H : HdIn c.pg c.st ws.length) (hl : ws.length ≤ 1000) {G : Int → List Int} (L : Ln c.pg c.st G ws) (q k f : Int) (hf : isPage c.pg q = true → ∀ a, isHd c.pg c.st a → q ∉ G a) (g cap : Nat) (w : World) (hw : Ws w g cap ws) :
    Calls Tryd.prog 36 #[.agg c.cells, .slice (some ⟨g, 0, none⟩) ws.length cap, .int .i64 q, .int .i64 k, .int .i64 f] w (fun e w' => e = .returned (.bool (plLinkV c.pg c.st q k f ws).1) ∧ Ws w' g cap (plLinkV c.pg c.st q k f ws).2 ∧ Turned (fun b => b = g) w w') := by
  have hc := row_new w c.cells 30
  have HC := Lib.hid hc
  have HM : Hid (More w (w.alloc (.cells c.cells 30))) := Lib.hid ((More.refl w).alloc _)
  have HR := Lib.hid R
  have HW := Lib.hid hw
  have HH := Lib.hid H
  have HLn := Lib.hid L
  have hgl := hw.lt
  obtain ⟨w1, e1⟩ : ∃ w1, w.alloc (.cells c.cells 30) = w1 := ⟨_, rfl⟩
  rw [e1] at HC HM
  by_cases hth : isPage c.pg q = true ∧ headV c.pg c.st k f ≠ 0
  · obtain ⟨hq, hz⟩ := hth
    have hr := link_ok H L hq hz (hf hq)
    obtain ⟨ha, _, _, _, _⟩ := head_hd hz
    have hsh := short H (L.page _ ha) (L.nodup _ ha)
    have pg1 := R.pg1
    have pg2 := R.pg2
    have hll : (listG c.pg c.st G k f).length ≤ 256 := by rw [show listG c.pg c.st G k f = G (headV c.pg c.st k f) from if_neg hz]; omega
    have HPS : Hid (∀ p ∈ q :: listG c.pg c.st G k f, isPage c.pg p = true) := Lib.hid fun p hp => by
      rcases List.mem_cons.1 hp with rfl | hp
      · exact hq
      · rw [show listG c.pg c.st G k f = G (headV c.pg c.st k f) from if_neg hz] at hp
        exact L.page _ ha p hp
    have hcond : (isPage c.pg q && (headV c.pg c.st k f != 0)) = true := by simp [hq, hz]
    have YT : Hid (∀ W, Calls Tryd.prog 62 #[.agg c.cells, .int .i64 q, .int .i64 k, .int .i64 f] W (Gives W (.bool true))) := Lib.hid fun W => by have := r10_there R q k f W; rwa [hcond] at this
    have HRES := Lib.hid hr
    rw [e1] at hc
    have KC : Hid (∀ W, More w1 W → W.heap[w.heap.size]? = some (.cells c.cells 30 (0, 0))) := Lib.hid fun W t => t.block hc
    have KT : Hid (∀ W, Turned (fun b => b = g) w1 W → W.heap[w.heap.size]? = some (.cells c.cells 30 (0, 0))) := Lib.hid fun W t => (t.block _ (lt_of_heap hc) (by omega)).trans hc
    have HW1 := Lib.hid (HW.out.more HM.out)
    have s1 := HM.out.size
    have MM := HM
    clear hc R hw H L hf hr ha hsh pg1 pg2 hcond hq
    go_enter Tryd.func36, Tryd.ntmps36
    go_wp2_with (first | (refine wpList_load_row rfl 30 _ rfl _ rfl 30 _ _ _ HC.out Tryd.underlying30 rfl (by kernel_rfl) ?_) | (refine wpList_load_rowG rfl 30 _ rfl _ rfl 30 _ _ _ HC.out Tryd.underlying30 rfl (by kernel_rfl) ?_))
    clear e1
    refine (YT.out _).mono ?_
    rintro e w3 ⟨rfl, h3⟩
    have M3 := Lib.hid h3
    clear h3
    go_wp2_with fail
    clear HM HW HC
    refine wp_region_anyC (fun W => W.heap[w.heap.size]? = some (.cells c.cells 30 (0, 0))) (by kernel_rfl) ?_
    have MR := Lib.hid (M3.out.trans ((More.refl w3).drewN 1))
    change anyC _ _ _ _ _ _ _ _ (w3.drewN 1)
    generalize w3.drewN 1 = wq at MR ⊢
    generalize hA : Act.mk _ _ = A
    have HF : AG 30 A [(1, .slice (some ⟨g, 0, none⟩) ws.length cap), (2, .int .i64 q), (3, .int .i64 k), (4, .int .i64 f), (5, .pointer (some ⟨w.heap.size, 0, none⟩))] := by
      rw [← hA]
      refine ⟨⟨Nat.le_of_ble_eq_true rfl, rfl⟩, ?_⟩
      intro z hz; simp only [List.mem_cons, List.not_mem_nil, or_false] at hz; rcases hz with rfl | rfl | rfl | rfl | rfl <;> rfl
    refine anyC_start (fun a W => ∃ (u17 u18 u19 u20 u21 u23 u24 u25 u26 u22 u27 u28 u29 : Value), a = (Act.put (Act.put (Act.put (Act.put (Act.put (Act.put (Act.put (Act.put (Act.put (Act.put (Act.put (Act.put (Act.put A (some 17) u17) (some 18) u18) (some 19) u19) (some 20) u20) (some 21) u21) (some 23) u23) (some 24) u24) (some 25) u25) (some 26) u26) (some 22) u22) (some 27) u27) (some 28) u28) (some 29) u29) ∧ Ws W g cap (layV c.pg c.st (headV c.pg c.st k f) (q :: listG c.pg c.st G k f) ws) ∧ Turned (fun b => b = g) w1 W) (fun _ => False) [] (fun a W hd h => h.elim) (fun _ _ _ _ _ h => h) ?_ ?_
    · skip
      rintro a wa ⟨u17, u18, u19, u20, u21, u23, u24, u25, u26, u22, u27, u28, u29, rfl, hX, hT⟩
      rw [← hA]
      have FIN := Lib.hid (And.intro hX hT)
      clear HF hA MR hX hT
      go_simp
      go_wp2_with fail
      go_ret
      exact ⟨by rw [HRES.out]; rfl, by rw [HRES.out]; exact FIN.out.1, RowP.turn MM.out FIN.out.2⟩
    intro QQ FINE FIND FINQ
    clear hA
    refine anyC_takeD (i := 0) (v := .agg c.cells) (some 17) rfl rfl (by kernel_rfl) (by kernel_rfl) (by kernel_rfl) (fun c a w => FINQ c a _ _ w) (KC.out _ MR.out) (by exact yieldsC_row (C := (fun W => W.heap[w.heap.size]? = some (.cells c.cells 30 (0, 0)))) (wanted_none rfl) 30 _ rfl w.heap.size (HF.get 4 rfl) 30 _ _ _ (fun W hW => hW) Tryd.underlying30 rfl (by kernel_rfl)) ?_
    replace HF := HF.put 17 (.agg c.cells) (by decide) rfl
    generalize hB1_17 : Act.put _ _ _ = A at HF ⊢
    refine anyC_takeD (i := 1) (v := .slice (some ⟨g, 0, none⟩) ws.length cap) (some 18) rfl rfl (by kernel_rfl) (by kernel_rfl) (by kernel_rfl) (fun c a w => FINQ c a _ _ w) (KC.out _ MR.out) (by exact yieldsC_moveG (wanted_none rfl) _ rfl (HF.get 1 rfl)) ?_
    replace HF := HF.put 18 (.slice (some ⟨g, 0, none⟩) ws.length cap) (by decide) rfl
    generalize hB2_18 : Act.put _ _ _ = A at HF ⊢
    refine anyC_takeD (i := 2) (v := .int .i64 k) (some 19) rfl rfl (by kernel_rfl) (by kernel_rfl) (by kernel_rfl) (fun c a w => FINQ c a _ _ w) (KC.out _ MR.out) (by exact yieldsC_moveG (wanted_none rfl) _ rfl (HF.get 4 rfl)) ?_
    replace HF := HF.put 19 (.int .i64 k) (by decide) rfl
    generalize hB3_19 : Act.put _ _ _ = A at HF ⊢
    refine anyC_takeD (i := 3) (v := .int .i64 f) (some 20) rfl rfl (by kernel_rfl) (by kernel_rfl) (by kernel_rfl) (fun c a w => FINQ c a _ _ w) (KC.out _ MR.out) (by exact yieldsC_moveG (wanted_none rfl) _ rfl (HF.get 6 rfl)) ?_
    replace HF := HF.put 20 (.int .i64 f) (by decide) rfl
    generalize hB4_20 : Act.put _ _ _ = A at HF ⊢
    refine anyC_takeD (i := 4) (v := .int .i64 q) (some 21) rfl rfl (by kernel_rfl) (by kernel_rfl) (by kernel_rfl) (fun c a w => FINQ c a _ _ w) (KC.out _ MR.out) (by exact yieldsC_moveG (wanted_none rfl) _ rfl (HF.get 5 rfl)) ?_
    replace HF := HF.put 21 (.int .i64 q) (by decide) rfl
    generalize hB5_21 : Act.put _ _ _ = A at HF ⊢
    refine anyC_takeD (i := 6) (v := .agg c.cells) (some 23) rfl rfl (by kernel_rfl) (by kernel_rfl) (by kernel_rfl) (fun c a w => FINQ c a _ _ w) (KC.out _ MR.out) (by exact yieldsC_row (C := (fun W => W.heap[w.heap.size]? = some (.cells c.cells 30 (0, 0)))) (wanted_none rfl) 30 _ rfl w.heap.size (HF.get 9 rfl) 30 _ _ _ (fun W hW => hW) Tryd.underlying30 rfl (by kernel_rfl)) ?_
    replace HF := HF.put 23 (.agg c.cells) (by decide) rfl
    generalize hB6_23 : Act.put _ _ _ = A at HF ⊢
    refine anyC_takeD (i := 7) (v := .slice (some ⟨g, 0, none⟩) ws.length cap) (some 24) rfl rfl (by kernel_rfl) (by kernel_rfl) (by kernel_rfl) (fun c a w => FINQ c a _ _ w) (KC.out _ MR.out) (by exact yieldsC_moveG (wanted_none rfl) _ rfl (HF.get 6 rfl)) ?_
    replace HF := HF.put 24 (.slice (some ⟨g, 0, none⟩) ws.length cap) (by decide) rfl
    generalize hB7_24 : Act.put _ _ _ = A at HF ⊢
    refine anyC_takeD (i := 8) (v := .int .i64 k) (some 25) rfl rfl (by kernel_rfl) (by kernel_rfl) (by kernel_rfl) (fun c a w => FINQ c a _ _ w) (KC.out _ MR.out) (by exact yieldsC_moveG (wanted_none rfl) _ rfl (HF.get 9 rfl)) ?_
    replace HF := HF.put 25 (.int .i64 k) (by decide) rfl
    generalize hB8_25 : Act.put _ _ _ = A at HF ⊢
    refine anyC_takeD (i := 9) (v := .int .i64 f) (some 26) rfl rfl (by kernel_rfl) (by kernel_rfl) (by kernel_rfl) (fun c a w => FINQ c a _ _ w) (KC.out _ MR.out) (by exact yieldsC_moveG (wanted_none rfl) _ rfl (HF.get 11 rfl)) ?_
    replace HF := HF.put 26 (.int .i64 f) (by decide) rfl
    generalize hB9_26 : Act.put _ _ _ = A at HF ⊢
    refine anyC_two (i := 5) (j := 10) (some 22) (some 27) (by kernel_rfl) rfl rfl (wanted_none rfl) (wanted_none rfl) rfl rfl (fun K hK => ?_) (fun K hK => ?_)
    · refine wp_build1 rfl q (HF.get 4 rfl) ?_
      obtain ⟨w4, e4⟩ : ∃ w4, wq.alloc (.cells #[.int .i64 q] 3) = w4 := ⟨_, rfl⟩
      have m4 : More wq w4 := by rw [← e4]; exact (More.refl _).alloc _
      have RB : Hid (Rw 0 w4 (.slice (some ⟨wq.heap.size, 0, none⟩) 1 1) [q]) := Lib.hid (by rw [← e4]; exact rw_oneR wq q)
      have M4 := Lib.hid (MR.out.trans m4)
      have hgb : w1.heap.size ≤ wq.heap.size := MR.out.size
      rw [e4]
      refine hK _ _ (KC.out _ M4.out) ?_
      clear hK K
      replace HF := HF.put 22 (.slice (some ⟨wq.heap.size, 0, none⟩) 1 1) (by decide) rfl
      generalize hB10_22 : Act.put _ _ _ = A at HF ⊢
      refine anyC_oneK (i := 10) (some 27) (by kernel_rfl) rfl (wanted_none rfl) rfl (fun K hK => ?_)
      refine wp_call4 (v0 := .agg c.cells) (v1 := .slice (some ⟨g, 0, none⟩) ws.length cap) (v2 := .int .i64 k) (v3 := .int .i64 f) rfl (HF.get 4 rfl) (HF.get 3 rfl) (HF.get 2 rfl) (HF.get 1 rfl) (enters_of Tryd.func17 (by kernel_rfl) rfl) ?_
      refine (r10_List HR.out ws HH.out hl HLn.out g cap k f w4 (HW1.out.more M4.out)).mono ?_
      rintro e w5 ⟨vl, rfl, hrl, m5, hnil⟩
      have RL := Lib.hid hrl
      have M5 := Lib.hid (M4.out.trans m5)
      have HNIL := Lib.hid hnil
      clear hrl hnil
      replace RB := Lib.hid (Rw.more RB.out m5)
      refine hK _ _ (KC.out _ M5.out) ?_
      clear hK K
      replace HF := HF.put 27 (vl) (by decide) rfl
      generalize hB11_27 : Act.put _ _ _ = A at HF ⊢
      by_cases hl0 : listG c.pg c.st G k f = []
      · have hv := HNIL.out hl0
        subst hv
        refine anyC_oneK (i := 11) (some 28) (by kernel_rfl) rfl (wanted_none rfl) rfl (fun K hK => ?_)
        refine wp_push0 _ _ rfl (HF.get 1 rfl) (HF.get 0 rfl) (Nat.le_refl _) ?_
        refine hK _ _ (KC.out _ M5.out) ?_
        clear hK K
        replace HF := HF.put 28 (.slice (some ⟨wq.heap.size, 0, none⟩) 1 1) (by decide) rfl
        generalize hB12_28 : Act.put _ _ _ = A at HF ⊢
        have RP : Hid (Rw 0 w5 (.slice (some ⟨wq.heap.size, 0, none⟩) 1 1) (q :: listG c.pg c.st G k f)) := Lib.hid (by rw [hl0]; exact RB.out)
        have NP : Hid (∀ kk, (Value.slice (some ⟨wq.heap.size, 0, none⟩) 1 1).ownBlock = some kk → kk ≠ g) := Lib.hid (fun kk e => by have hh : kk = wq.heap.size := (by simpa [Value.ownBlock, eq_comm] using e); omega)
        have TP : Hid (Turned (fun b => b = g) w1 w5) := Lib.hid (Turned.mono M5.out (fun _ _ z => z.elim))
        refine anyC_oneK (i := 12) (some 29) (by kernel_rfl) rfl (wanted_none rfl) rfl (fun K hK => ?_)
        refine wp_call5 (v0 := .agg c.cells) (v1 := .slice (some ⟨g, 0, none⟩) ws.length cap) (v2 := .int .i64 k) (v3 := .int .i64 f) (v4 := .slice (some ⟨wq.heap.size, 0, none⟩) 1 1) rfl (HF.get 11 rfl) (HF.get 10 rfl) (HF.get 9 rfl) (HF.get 8 rfl) (HF.get 0 rfl) (enters_of Tryd.func63 (by kernel_rfl) rfl) ?_
        refine (r10_lay HR.out ws HH.out hl k f hz (q :: listG c.pg c.st G k f) HPS.out (by simp; omega) g cap _ 0 w5 (HW1.out.more M5.out) RP.out NP.out).mono ?_
        rintro e w8 ⟨rfl, hw8, ht8⟩
        have T8 := TP.out.trans ht8
        refine hK _ _ (KT.out _ T8) ?_
        clear hK K
        replace HF := HF.put 29 (.tuple #[]) (by decide) rfl
        generalize hB13_29 : Act.put _ _ _ = A at HF ⊢
        exact anyC_done (by kernel_rfl) (FINE _ _ ⟨(.agg c.cells), (.slice (some ⟨g, 0, none⟩) ws.length cap), (.int .i64 k), (.int .i64 f), (.int .i64 q), (.agg c.cells), (.slice (some ⟨g, 0, none⟩) ws.length cap), (.int .i64 k), (.int .i64 f), (.slice (some ⟨wq.heap.size, 0, none⟩) 1 1), (.slice none 0 0), (.slice (some ⟨wq.heap.size, 0, none⟩) 1 1), (.tuple #[]), by rw [← hB13_29, ← hB12_28, ← hB11_27, ← hB10_22, ← hB9_26, ← hB8_25, ← hB7_24, ← hB6_23, ← hB5_21, ← hB4_20, ← hB3_19, ← hB2_18, ← hB1_17], hw8, T8⟩)
      · refine anyC_oneK (i := 11) (some 28) (by kernel_rfl) rfl (wanted_none rfl) rfl (fun K hK => ?_)
        refine wp_pushrow _ _ rfl (HF.get 1 rfl) RB.out (Nat.zero_le _) (by simp) (HF.get 0 rfl) RL.out ⟨List.length_pos_iff.2 hl0, by omega⟩ ?_
        intro vp wp hrp htp hvp
        have TP : Hid (Turned (fun b => b = g) w1 wp) := Lib.hid (turned_own (Turned.mono M5.out (fun _ _ z => z.elim)) htp (fun kk e => .inr (by have hh : kk = wq.heap.size := (by simpa [Value.ownBlock, eq_comm] using e); omega)))
        have RP : Hid (Rw 0 wp vp (q :: listG c.pg c.st G k f)) := Lib.hid hrp
        have hsz := M5.out.size
        have NP : Hid (∀ kk, vp.ownBlock = some kk → kk ≠ g) := Lib.hid (fun kk e => by
          rcases hvp kk e with z | z
          · have : kk = wq.heap.size := by simpa [Value.ownBlock, eq_comm] using z
            omega
          · omega)
        have HTP := Lib.hid htp
        have HGP : Hid (¬ (Value.slice (some ⟨wq.heap.size, 0, none⟩) 1 1).ownBlock = some g) := Lib.hid (fun e => by have hh : g = wq.heap.size := (by simpa [Value.ownBlock, eq_comm] using e); omega)
        clear hrp htp hvp
        refine hK _ _ (KT.out _ TP.out) ?_
        clear hK K
        replace HF := HF.put 28 (vp) (by decide) rfl
        generalize hB12_28 : Act.put _ _ _ = A at HF ⊢
        refine anyC_oneK (i := 12) (some 29) (by kernel_rfl) rfl (wanted_none rfl) rfl (fun K hK => ?_)
        refine wp_call5 (v0 := .agg c.cells) (v1 := .slice (some ⟨g, 0, none⟩) ws.length cap) (v2 := .int .i64 k) (v3 := .int .i64 f) (v4 := vp) rfl (HF.get 11 rfl) (HF.get 10 rfl) (HF.get 9 rfl) (HF.get 8 rfl) (HF.get 0 rfl) (enters_of Tryd.func63 (by kernel_rfl) rfl) ?_
        refine (r10_lay HR.out ws HH.out hl k f hz (q :: listG c.pg c.st G k f) HPS.out (by simp; omega) g cap _ 0 wp ((HW1.out.more M5.out).keep (Turned.mono HTP.out (fun _ _ z => z)) HGP.out) RP.out NP.out).mono ?_
        rintro e w8 ⟨rfl, hw8, ht8⟩
        have T8 := TP.out.trans ht8
        refine hK _ _ (KT.out _ T8) ?_
        clear hK K
        replace HF := HF.put 29 (.tuple #[]) (by decide) rfl
        generalize hB13_29 : Act.put _ _ _ = A at HF ⊢
        exact anyC_done (by kernel_rfl) (FINE _ _ ⟨(.agg c.cells), (.slice (some ⟨g, 0, none⟩) ws.length cap), (.int .i64 k), (.int .i64 f), (.int .i64 q), (.agg c.cells), (.slice (some ⟨g, 0, none⟩) ws.length cap), (.int .i64 k), (.int .i64 f), (.slice (some ⟨wq.heap.size, 0, none⟩) 1 1), (vl), (vp), (.tuple #[]), by rw [← hB13_29, ← hB12_28, ← hB11_27, ← hB10_22, ← hB9_26, ← hB8_25, ← hB7_24, ← hB6_23, ← hB5_21, ← hB4_20, ← hB3_19, ← hB2_18, ← hB1_17], hw8, T8⟩)
    · refine wp_call4 (v0 := .agg c.cells) (v1 := .slice (some ⟨g, 0, none⟩) ws.length cap) (v2 := .int .i64 k) (v3 := .int .i64 f) rfl (HF.get 3 rfl) (HF.get 2 rfl) (HF.get 1 rfl) (HF.get 0 rfl) (enters_of Tryd.func17 (by kernel_rfl) rfl) ?_
      refine (r10_List HR.out ws HH.out hl HLn.out g cap k f wq (HW1.out.more MR.out)).mono ?_
      rintro e w4 ⟨vl, rfl, hrl, m4, hnil⟩
      have RL := Lib.hid hrl
      have M4 := Lib.hid (MR.out.trans m4)
      have HNIL := Lib.hid hnil
      clear hrl hnil
      refine hK _ _ (KC.out _ M4.out) ?_
      clear hK K
      replace HF := HF.put 27 (vl) (by decide) rfl
      generalize hB10_27 : Act.put _ _ _ = A at HF ⊢
      refine anyC_oneK (i := 5) (some 22) (by kernel_rfl) rfl (wanted_none rfl) rfl (fun K hK => ?_)
      refine wp_build1 rfl q (HF.get 5 rfl) ?_
      obtain ⟨w5, e5⟩ : ∃ w5, w4.alloc (.cells #[.int .i64 q] 3) = w5 := ⟨_, rfl⟩
      have m5 : More w4 w5 := by rw [← e5]; exact (More.refl _).alloc _
      have RB : Hid (Rw 0 w5 (.slice (some ⟨w4.heap.size, 0, none⟩) 1 1) [q]) := Lib.hid (by rw [← e5]; exact rw_oneR w4 q)
      have M5 := Lib.hid (M4.out.trans m5)
      have hgb : w1.heap.size ≤ w4.heap.size := M4.out.size
      rw [e5]
      replace RL := Lib.hid (Rw.more RL.out m5)
      refine hK _ _ (KC.out _ M5.out) ?_
      clear hK K
      replace HF := HF.put 22 (.slice (some ⟨w4.heap.size, 0, none⟩) 1 1) (by decide) rfl
      generalize hB11_22 : Act.put _ _ _ = A at HF ⊢
      by_cases hl0 : listG c.pg c.st G k f = []
      · have hv := HNIL.out hl0
        subst hv
        refine anyC_oneK (i := 11) (some 28) (by kernel_rfl) rfl (wanted_none rfl) rfl (fun K hK => ?_)
        refine wp_push0 _ _ rfl (HF.get 0 rfl) (HF.get 1 rfl) (Nat.le_refl _) ?_
        refine hK _ _ (KC.out _ M5.out) ?_
        clear hK K
        replace HF := HF.put 28 (.slice (some ⟨w4.heap.size, 0, none⟩) 1 1) (by decide) rfl
        generalize hB12_28 : Act.put _ _ _ = A at HF ⊢
        have RP : Hid (Rw 0 w5 (.slice (some ⟨w4.heap.size, 0, none⟩) 1 1) (q :: listG c.pg c.st G k f)) := Lib.hid (by rw [hl0]; exact RB.out)
        have NP : Hid (∀ kk, (Value.slice (some ⟨w4.heap.size, 0, none⟩) 1 1).ownBlock = some kk → kk ≠ g) := Lib.hid (fun kk e => by have hh : kk = w4.heap.size := (by simpa [Value.ownBlock, eq_comm] using e); omega)
        have TP : Hid (Turned (fun b => b = g) w1 w5) := Lib.hid (Turned.mono M5.out (fun _ _ z => z.elim))
        refine anyC_oneK (i := 12) (some 29) (by kernel_rfl) rfl (wanted_none rfl) rfl (fun K hK => ?_)
        refine wp_call5 (v0 := .agg c.cells) (v1 := .slice (some ⟨g, 0, none⟩) ws.length cap) (v2 := .int .i64 k) (v3 := .int .i64 f) (v4 := .slice (some ⟨w4.heap.size, 0, none⟩) 1 1) rfl (HF.get 11 rfl) (HF.get 10 rfl) (HF.get 9 rfl) (HF.get 8 rfl) (HF.get 0 rfl) (enters_of Tryd.func63 (by kernel_rfl) rfl) ?_
        refine (r10_lay HR.out ws HH.out hl k f hz (q :: listG c.pg c.st G k f) HPS.out (by simp; omega) g cap _ 0 w5 (HW1.out.more M5.out) RP.out NP.out).mono ?_
        rintro e w8 ⟨rfl, hw8, ht8⟩
        have T8 := TP.out.trans ht8
        refine hK _ _ (KT.out _ T8) ?_
        clear hK K
        replace HF := HF.put 29 (.tuple #[]) (by decide) rfl
        generalize hB13_29 : Act.put _ _ _ = A at HF ⊢
        exact anyC_done (by kernel_rfl) (FINE _ _ ⟨(.agg c.cells), (.slice (some ⟨g, 0, none⟩) ws.length cap), (.int .i64 k), (.int .i64 f), (.int .i64 q), (.agg c.cells), (.slice (some ⟨g, 0, none⟩) ws.length cap), (.int .i64 k), (.int .i64 f), (.slice (some ⟨w4.heap.size, 0, none⟩) 1 1), (.slice none 0 0), (.slice (some ⟨w4.heap.size, 0, none⟩) 1 1), (.tuple #[]), by rw [← hB13_29, ← hB12_28, ← hB11_22, ← hB10_27, ← hB9_26, ← hB8_25, ← hB7_24, ← hB6_23, ← hB5_21, ← hB4_20, ← hB3_19, ← hB2_18, ← hB1_17]; rw [put_comm (i := 27) (j := 22) (by decide)], hw8, T8⟩)
      · refine anyC_oneK (i := 11) (some 28) (by kernel_rfl) rfl (wanted_none rfl) rfl (fun K hK => ?_)
        refine wp_pushrow _ _ rfl (HF.get 0 rfl) RB.out (Nat.zero_le _) (by simp) (HF.get 1 rfl) RL.out ⟨List.length_pos_iff.2 hl0, by omega⟩ ?_
        intro vp wp hrp htp hvp
        have TP : Hid (Turned (fun b => b = g) w1 wp) := Lib.hid (turned_own (Turned.mono M5.out (fun _ _ z => z.elim)) htp (fun kk e => .inr (by have hh : kk = w4.heap.size := (by simpa [Value.ownBlock, eq_comm] using e); omega)))
        have RP : Hid (Rw 0 wp vp (q :: listG c.pg c.st G k f)) := Lib.hid hrp
        have hsz := M5.out.size
        have NP : Hid (∀ kk, vp.ownBlock = some kk → kk ≠ g) := Lib.hid (fun kk e => by
          rcases hvp kk e with z | z
          · have : kk = w4.heap.size := by simpa [Value.ownBlock, eq_comm] using z
            omega
          · omega)
        have HTP := Lib.hid htp
        have HGP : Hid (¬ (Value.slice (some ⟨w4.heap.size, 0, none⟩) 1 1).ownBlock = some g) := Lib.hid (fun e => by have hh : g = w4.heap.size := (by simpa [Value.ownBlock, eq_comm] using e); omega)
        clear hrp htp hvp
        refine hK _ _ (KT.out _ TP.out) ?_
        clear hK K
        replace HF := HF.put 28 (vp) (by decide) rfl
        generalize hB12_28 : Act.put _ _ _ = A at HF ⊢
        refine anyC_oneK (i := 12) (some 29) (by kernel_rfl) rfl (wanted_none rfl) rfl (fun K hK => ?_)
        refine wp_call5 (v0 := .agg c.cells) (v1 := .slice (some ⟨g, 0, none⟩) ws.length cap) (v2 := .int .i64 k) (v3 := .int .i64 f) (v4 := vp) rfl (HF.get 11 rfl) (HF.get 10 rfl) (HF.get 9 rfl) (HF.get 8 rfl) (HF.get 0 rfl) (enters_of Tryd.func63 (by kernel_rfl) rfl) ?_
        refine (r10_lay HR.out ws HH.out hl k f hz (q :: listG c.pg c.st G k f) HPS.out (by simp; omega) g cap _ 0 wp ((HW1.out.more M5.out).keep (Turned.mono HTP.out (fun _ _ z => z)) HGP.out) RP.out NP.out).mono ?_
        rintro e w8 ⟨rfl, hw8, ht8⟩
        have T8 := TP.out.trans ht8
        refine hK _ _ (KT.out _ T8) ?_
        clear hK K
        replace HF := HF.put 29 (.tuple #[]) (by decide) rfl
        generalize hB13_29 : Act.put _ _ _ = A at HF ⊢
        exact anyC_done (by kernel_rfl) (FINE _ _ ⟨(.agg c.cells), (.slice (some ⟨g, 0, none⟩) ws.length cap), (.int .i64 k), (.int .i64 f), (.int .i64 q), (.agg c.cells), (.slice (some ⟨g, 0, none⟩) ws.length cap), (.int .i64 k), (.int .i64 f), (.slice (some ⟨w4.heap.size, 0, none⟩) 1 1), (vl), (vp), (.tuple #[]), by rw [← hB13_29, ← hB12_28, ← hB11_22, ← hB10_27, ← hB9_26, ← hB8_25, ← hB7_24, ← hB6_23, ← hB5_21, ← hB4_20, ← hB3_19, ← hB2_18, ← hB1_17]; rw [put_comm (i := 27) (j := 22) (by decide)], hw8, T8⟩)
  · have hcond : (isPage c.pg q && (headV c.pg c.st k f != 0)) = false := by
      cases e : isPage c.pg q with
      | false => rfl
      | true =>
        have : headV c.pg c.st k f = 0 := Classical.byContradiction fun z => hth ⟨e, z⟩
        simp [this]
    have YT : Hid (∀ W, Calls Tryd.prog 62 #[.agg c.cells, .int .i64 q, .int .i64 k, .int .i64 f] W (Gives W (.bool false))) := Lib.hid fun W => by have := r10_there R q k f W; rwa [hcond] at this
    have hr : plLinkV c.pg c.st q k f ws = (false, ws) := by unfold plLinkV; rw [if_neg (fun z => hth ⟨z.2, z.1⟩)]
    rw [hr]
    clear hc R hw H L hf hcond hth hr
    go_enter Tryd.func36, Tryd.ntmps36
    go_wp2_with (first | (refine wpList_load_row rfl 30 _ rfl _ rfl 30 _ _ _ HC.out Tryd.underlying30 rfl (by kernel_rfl) ?_) | (refine wpList_load_rowG rfl 30 _ rfl _ rfl 30 _ _ _ HC.out Tryd.underlying30 rfl (by kernel_rfl) ?_))
    clear e1
    refine (YT.out _).mono ?_
    rintro e w3 ⟨rfl, h3⟩
    have M3 := Lib.hid (HM.out.trans h3)
    clear h3
    go_wp2_with fail
    go_ret
    exact ⟨rfl, HW.out.more M3.out, Turned.mono M3.out (fun _ _ z => z.elim)⟩

theorem unl_yes {c : Cfg} {ws : List Int} (H : HdIn c.pg c.st ws.length) {G : Int → List Int} (L : Ln c.pg c.st G ws) {q k f : Int} (hz : headV c.pg c.st k f ≠ 0) {s t : List Int} (hG : G (headV c.pg c.st k f) = s ++ q :: t) (hs : q ∉ s) : plUnlinkV c.pg c.st q k f ws = (true, layV c.pg c.st (headV c.pg c.st k f) (s ++ t) ((ws.set (nA c.pg c.st q).toNat 0).set (vA c.pg c.st q).toNat 0)) := by
  rw [unlink_same H L rfl hz hG hs]
  exact Prod.ext (unlink_ln H L rfl hz hG hs).1 rfl
/-- What stays of a list. -/
def restL (l : List Int) (q : Int) : List Int := l.filter (fun x => decide (x ≠ q))
theorem restL_take {l : List Int} {q : Int} {j : Nat} (hj : j < l.length) : restL (l.take (j + 1)) q = if l.getD j 0 = q then restL (l.take j) q else restL (l.take j) q ++ [l.getD j 0] := by
  rw [take_snoc hj]
  unfold restL
  rw [List.filter_append]
  by_cases e : l.getD j 0 = q
  · rw [if_pos e, e]; simp
  · rw [if_neg e]; simp only [List.filter_cons, List.filter_nil]
    have : decide (l.getD j 0 ≠ q) = true := by simpa using e
    rw [if_pos this]
theorem restL_le (l : List Int) (q : Int) : (restL l q).length ≤ l.length := List.length_filter_le _ _
set_option maxRecDepth 100000 in
set_option maxHeartbeats 8000000 in
theorem r10_Unlink {c : Cfg} (R : c.Ok) (ws : List Int) (H : HdIn c.pg c.st ws.length) (hl : ws.length ≤ 1000) {G : Int → List Int} (L : Ln c.pg c.st G ws) (q k f : Int) (g cap : Nat) (w : World) (hw : Ws w g cap ws) :
    Calls Tryd.prog 37 #[.agg c.cells, .slice (some ⟨g, 0, none⟩) ws.length cap, .int .i64 q, .int .i64 k, .int .i64 f] w (fun e w' => e = .returned (.bool (plUnlinkV c.pg c.st q k f ws).1) ∧ Ws w' g cap (plUnlinkV c.pg c.st q k f ws).2 ∧ Turned (fun b => b = g) w w') := by
  have hc := row_new w c.cells 30
  have HC := Lib.hid hc
  have HM : Hid (More w (w.alloc (.cells c.cells 30))) := Lib.hid ((More.refl w).alloc _)
  have HR := Lib.hid R
  have HW := Lib.hid hw
  have HH := Lib.hid H
  have HLn := Lib.hid L
  have hgl := hw.lt
  obtain ⟨w1, e1⟩ : ∃ w1, w.alloc (.cells c.cells 30) = w1 := ⟨_, rfl⟩
  rw [e1] at HC HM
  by_cases hth : isPage c.pg q = true ∧ headV c.pg c.st k f ≠ 0
  · obtain ⟨hq, hz⟩ := hth
    obtain ⟨ha, _, _, _, _⟩ := head_hd hz
    have hsh := short H (L.page _ ha) (L.nodup _ ha)
    have pg1 := R.pg1
    have pg2 := R.pg2
    have hlG : listG c.pg c.st G k f = G (headV c.pg c.st k f) := if_neg hz
    have hll : (listG c.pg c.st G k f).length ≤ 256 := by rw [hlG]; omega
    have hcond : (isPage c.pg q && (headV c.pg c.st k f != 0)) = true := by simp [hq, hz]
    have YT : Hid (∀ W, Calls Tryd.prog 62 #[.agg c.cells, .int .i64 q, .int .i64 k, .int .i64 f] W (Gives W (.bool true))) := Lib.hid fun W => by have := r10_there R q k f W; rwa [hcond] at this
    rw [e1] at hc
    have hdec : (q ∉ G (headV c.pg c.st k f) ∧ restL (listG c.pg c.st G k f) q = listG c.pg c.st G k f ∧ plUnlinkV c.pg c.st q k f ws = (false, ws)) ∨
        ((restL (listG c.pg c.st G k f) q).length < (listG c.pg c.st G k f).length ∧ plUnlinkV c.pg c.st q k f ws = (true, layV c.pg c.st (headV c.pg c.st k f) (restL (listG c.pg c.st G k f) q) ((ws.set (nA c.pg c.st q).toNat 0).set (vA c.pg c.st q).toNat 0))) := by
      rw [hlG]
      by_cases hm : q ∈ G (headV c.pg c.st k f)
      · obtain ⟨s, t, hG, hs⟩ := split_mem hm
        have hnd := L.nodup _ ha
        rw [hG] at hnd
        have ht : q ∉ t := (List.nodup_cons.1 (List.nodup_append.1 hnd).2.1).1
        refine .inr ?_
        have hr : restL (G (headV c.pg c.st k f)) q = s ++ t := by rw [hG]; exact filt_split H hs ht
        rw [hr, unl_yes H L hz hG hs, hG]
        exact ⟨by simp, rfl⟩
      · exact .inl ⟨hm, List.filter_eq_self.2 (fun a h => by simp; rintro rfl; exact hm h), unlink_no H L (fun _ _ => hm)⟩
    have HPS : Hid (∀ p ∈ restL (listG c.pg c.st G k f) q, isPage c.pg p = true) := Lib.hid fun p hp => by
      have := (List.mem_filter.1 hp).1
      rw [hlG] at this
      exact L.page _ ha p this
    obtain ⟨⟨q0, q1, _⟩, ⟨q2, q3, _⟩⟩ := nv_b H hq
    obtain ⟨b3, hb3⟩ : ∃ b : Nat, nA c.pg c.st q = (b : Int) := ⟨(nA c.pg c.st q).toNat, by omega⟩
    obtain ⟨b4, hb4⟩ : ∃ b : Nat, vA c.pg c.st q = (b : Int) := ⟨(vA c.pg c.st q).toNat, by omega⟩
    have l3 : b3 < ws.length := by omega
    have l4 : b4 < ws.length := by omega
    have P3 := Lib.hid ((page3 (st := c.st) hq).trans hb3)
    have P4 := Lib.hid ((page4 (st := c.st) hq).trans hb4)
    have HS : Hid ((ws.set (nA c.pg c.st q).toNat 0).set (vA c.pg c.st q).toNat 0 = (ws.set b3 0).set b4 0) := Lib.hid (by rw [hb3, hb4]; rfl)
    have KC : Hid (∀ W, Turned (fun b => b = g) w1 W → W.heap[w.heap.size]? = some (.cells c.cells 30 (0, 0))) := Lib.hid fun W t => (t.block _ (lt_of_heap hc) (by omega)).trans hc
    have HW1 := Lib.hid (HW.out.more HM.out)
    have s1 := HM.out.size
    have MM := HM
    have HDEC := Lib.hid hdec
    clear hc R hw H L ha hsh pg1 pg2 hcond hq hdec hlG hb3 hb4 q0 q1 q2 q3
    go_enter Tryd.func37, Tryd.ntmps37
    go_wp2_with (first | (refine wpList_load_row rfl 30 _ rfl _ rfl 30 _ _ _ HC.out Tryd.underlying30 rfl (by kernel_rfl) ?_) | (refine wpList_load_rowG rfl 30 _ rfl _ rfl 30 _ _ _ HC.out Tryd.underlying30 rfl (by kernel_rfl) ?_))
    clear e1
    refine (YT.out _).mono ?_
    rintro e w3 ⟨rfl, h3⟩
    have M3 := Lib.hid h3
    have HC3 := Lib.hid (h3.block HC.out)
    clear h3
    go_wp2_with (first | (refine wpList_load_row rfl 30 _ rfl _ rfl 30 _ _ _ HC3.out Tryd.underlying30 rfl (by kernel_rfl) ?_) | (refine wpList_load_rowG rfl 30 _ rfl _ rfl 30 _ _ _ HC3.out Tryd.underlying30 rfl (by kernel_rfl) ?_))
    refine (r10_List HR.out ws HH.out hl HLn.out g cap k f w3 (HW1.out.more M3.out)).mono ?_
    rintro e w4 ⟨vl, rfl, hrl, m4, _⟩
    have RL := Lib.hid hrl
    have M4 := Lib.hid (M3.out.trans m4)
    obtain ⟨l, hle⟩ : ∃ l, listG c.pg c.st G k f = l := ⟨_, rfl⟩
    rw [hle] at hll HDEC HPS RL
    obtain ⟨al, cl, rfl, hrd⟩ := RL.out.reads
    have HRD := Lib.hid hrd
    clear hrl m4 hle hrd HC HC3 HM HW
    go_wp2_with fail
    go_loopw [11, 13] (fun v11 v13 wr => ∃ j : Nat, v13 = .int .i64 (j : Int) ∧ j ≤ l.length ∧ Rw w4.heap.size wr v11 (restL (l.take j) q) ∧ More w4 wr) (fun _ v13 _ => l.length - (intOf v13).toNat)
    case atStart => exact ⟨0, rfl, by omega, Rw.nil _ _, More.refl _⟩
    case round =>
      obtain ⟨j, rfl, hj, hr, ht⟩ := hrel
      have q1 : IntKind.i64.wrap ((j : Int) + 1) = (j : Int) + 1 := wrap_in (by omega) (by omega)
      have HRW := Lib.hid hr
      have HT := Lib.hid ht
      clear hr ht
      by_cases hlt : j < l.length
      · have d1 : decide ((j : Int) < (l.length : Int)) = true := by simp; omega
        obtain ⟨ga, rfl, _, _, hcell⟩ := HRD.out j hlt
        have ca := HT.out.cell (hcell j hlt)
        have hrt := restL_take (q := q) hlt
        have hrl := restL_le (l.take j) q
        have hlx : (l.take j).length ≤ 256 := by simp; omega
        obtain ⟨y, hy⟩ : ∃ y, l.getD j 0 = y := ⟨_, rfl⟩
        rw [hy] at ca hrt
        have HRT := Lib.hid hrt
        have hjx : (j : Int) < (l.length : Int) := by omega
        clear hcell hy hrt
        by_cases e : y = q
        · have d2 : (y != q) = false := by simp [e]
          have HE := Lib.hid e
          clear e
          go_wp2_with fail
          go_roundw
          case rel => exact ⟨j + 1, by go_num, by omega, by rw [HRT.out, if_pos HE.out]; exact HRW.out, HT.out⟩
          case measure => simp [intOf]; omega
        · have d2 : (y != q) = true := by simpa using e
          have HE := Lib.hid e
          clear e
          go_wp2_with (first | (at_builtin; refine wpList_push _ rfl _ _ rfl rfl HRW.out HT.out (by omega) rfl ?_; intro v' w5 hr5 hm5; have HR5 := Lib.hid hr5; have HM5 := Lib.hid hm5; clear hr5 hm5))
          go_roundw
          case rel => exact ⟨j + 1, by go_num, by omega, by rw [HRT.out, if_neg HE.out]; exact HR5.out, HM5.out⟩
          case measure => simp [intOf]; omega
      · obtain rfl : j = l.length := by omega
        have d1 : decide ((l.length : Int) < (l.length : Int)) = false := by simp
        rw [List.take_length] at HRW
        obtain ⟨ax, cx, rfl, _⟩ := HRW.out.reads
        have FW := Lib.hid (HW1.out.more (M4.out.trans HT.out))
        have FT := Lib.hid (M4.out.trans HT.out)
        rcases HDEC.out with ⟨_, hre, hres⟩ | ⟨hre, hres⟩
        · rw [hre] at HRW ⊢
          have HRS := Lib.hid hres
          clear hre hres
          go_wp2_with fail
          go_ret
          exact ⟨by rw [HRS.out]; rfl, by rw [HRS.out]; exact FW.out, RowP.turn MM.out (Turned.mono FT.out (fun _ _ z => z.elim))⟩
        · have HRS := Lib.hid hres
          have d2 : (((restL l q).length : Int) == (l.length : Int)) = false := by simpa using (show ¬ ((restL l q).length : Int) = (l.length : Int) by omega)
          have d3 : ((restL l q).length == l.length) = false := by simpa using (show ¬ (restL l q).length = l.length by omega)
          have d4 : decide ((restL l q).length = l.length) = false := by simpa using (show ¬ (restL l q).length = l.length by omega)
          have hrl := restL_le l q
          obtain ⟨rs, hrs⟩ : ∃ rs, restL l q = rs := ⟨_, rfl⟩
          rw [hrs] at HRW d2 d3 d4 hrl HRS HPS
          rw [hrs]
          have T4 : Hid (Turned (fun b => b = g) w1 wr) := Lib.hid (Turned.mono FT.out (fun _ _ z => z.elim))
          have HL4 := Lib.hid (KC.out _ T4.out)
          have UR : Hid (Turned (fun b => b = g) wr wr) := Lib.hid (Turned.refl _ _)
          clear hre hres hrs
          go_wp2_with (first | (refine wpList_load_row rfl 30 _ rfl _ rfl 30 _ _ _ HL4.out Tryd.underlying30 rfl (by kernel_rfl) ?_) | (refine wpList_load_rowG rfl 30 _ rfl _ rfl 30 _ _ _ HL4.out Tryd.underlying30 rfl (by kernel_rfl) ?_))
          refine (y_rnext HR.out _ q).mono ?_
          rw [P3.out]
          rintro e wa ⟨rfl, ha⟩
          have Ta : Hid (Turned (fun b => b = g) w1 wa) := Lib.hid (T4.out.trans (Turned.mono ha (fun _ _ q => q.elim)))
          have Ua : Hid (Turned (fun b => b = g) wr wa) := Lib.hid (UR.out.trans (Turned.mono ha (fun _ _ q => q.elim)))
          have Xa := Lib.hid (FW.out.more ha)
          clear ha
          have cb := Xa.out.cell (i := b3) l3
          have fb := Xa.out.froz b3
          have lb := Xa.out.lt
          obtain ⟨wb, eb⟩ : ∃ wb, World.setCell wa ⟨g, b3, none⟩ (.int .i64 0) = wb := ⟨_, rfl⟩
          have Xb : Hid (Ws wb g cap (ws.set b3 0)) := Lib.hid (by rw [← eb]; exact Xa.out.set l3 _)
          have Tb : Hid (Turned (fun b => b = g) w1 wb) := Lib.hid (by rw [← eb]; exact Turned.setCell Ta.out _ _ (fun _ => rfl))
          have HLb := Lib.hid (KC.out _ Tb.out)
          have Ub : Hid (Turned (fun b => b = g) wr wb) := Lib.hid (by rw [← eb]; exact Turned.setCell Ua.out _ _ (fun _ => rfl))
          go_wp2_with (first | (refine wpList_load_row rfl 30 _ rfl _ rfl 30 _ _ _ HLb.out Tryd.underlying30 rfl (by kernel_rfl) ?_) | (refine wpList_load_rowG rfl 30 _ rfl _ rfl 30 _ _ _ HLb.out Tryd.underlying30 rfl (by kernel_rfl) ?_))
          clear cb fb lb eb
          refine (y_rprev HR.out _ q).mono ?_
          rw [P4.out]
          rintro e wc ⟨rfl, hc⟩
          have Tc : Hid (Turned (fun b => b = g) w1 wc) := Lib.hid (Tb.out.trans (Turned.mono hc (fun _ _ q => q.elim)))
          have Uc : Hid (Turned (fun b => b = g) wr wc) := Lib.hid (Ub.out.trans (Turned.mono hc (fun _ _ q => q.elim)))
          have Xc := Lib.hid (Xb.out.more hc)
          clear hc
          have cd := Xc.out.cell (i := b4) (by simp; omega)
          have fd := Xc.out.froz b4
          have ld := Xc.out.lt
          obtain ⟨wd, ed⟩ : ∃ wd, World.setCell wc ⟨g, b4, none⟩ (.int .i64 0) = wd := ⟨_, rfl⟩
          have Xd : Hid (Ws wd g cap ((ws.set b3 0).set b4 0)) := Lib.hid (by rw [← ed]; exact Xc.out.set (by simp; omega) _)
          have Td : Hid (Turned (fun b => b = g) w1 wd) := Lib.hid (by rw [← ed]; exact Turned.setCell Tc.out _ _ (fun _ => rfl))
          have HLd := Lib.hid (KC.out _ Td.out)
          have NP : Hid (∀ kk, (Value.slice ax rs.length cx).ownBlock = some kk → kk ≠ g ∧ w4.heap.size ≤ kk) := Lib.hid fun kk e => by
            have := (Rw.own HRW.out e).1
            have := M4.out.size
            omega
          have RD : Hid (Rw w4.heap.size wd (.slice ax rs.length cx) rs) := Lib.hid (by
            have t0 : Turned (fun b => b = g) wr wd := by
              rw [← ed]
              refine Turned.setCell ?_ _ _ (fun _ => rfl)
              exact Uc.out
            exact HRW.out.keepT t0 (fun kk e => (NP.out kk e).1))
          go_wp2_with (first | (refine wpList_load_row rfl 30 _ rfl _ rfl 30 _ _ _ HLd.out Tryd.underlying30 rfl (by kernel_rfl) ?_) | (refine wpList_load_rowG rfl 30 _ rfl _ rfl 30 _ _ _ HLd.out Tryd.underlying30 rfl (by kernel_rfl) ?_))
          clear cd fd ld ed
          have lay := r10_lay HR.out ((ws.set b3 0).set b4 0) (by simpa using HH.out) (by simpa using hl) k f hz rs HPS.out (by omega) g cap _ _ wd Xd.out RD.out (fun kk e => (NP.out kk e).1)
          have hlen2 : ((ws.set b3 0).set b4 0).length = ws.length := by simp
          rw [hlen2] at lay
          refine lay.mono ?_
          rintro e w9 ⟨rfl, h9, t9⟩
          have F9 := Lib.hid h9
          have G9 := Lib.hid (Td.out.trans t9)
          clear h9 t9 lay
          go_wp2_with fail
          go_ret
          exact ⟨by rw [HRS.out]; rfl, by rw [HRS.out, HS.out]; exact F9.out, RowP.turn MM.out G9.out⟩
  · have hcond : (isPage c.pg q && (headV c.pg c.st k f != 0)) = false := by
      cases e : isPage c.pg q with
      | false => rfl
      | true =>
        have : headV c.pg c.st k f = 0 := Classical.byContradiction fun z => hth ⟨e, z⟩
        simp [this]
    have YT : Hid (∀ W, Calls Tryd.prog 62 #[.agg c.cells, .int .i64 q, .int .i64 k, .int .i64 f] W (Gives W (.bool false))) := Lib.hid fun W => by have := r10_there R q k f W; rwa [hcond] at this
    have hr := unlink_no H L (c := k) (f := f) (p := q) (fun a b => absurd ⟨a, b⟩ hth)
    rw [hr]
    clear hc R hw H L hcond hth hr
    go_enter Tryd.func37, Tryd.ntmps37
    go_wp2_with (first | (refine wpList_load_row rfl 30 _ rfl _ rfl 30 _ _ _ HC.out Tryd.underlying30 rfl (by kernel_rfl) ?_) | (refine wpList_load_rowG rfl 30 _ rfl _ rfl 30 _ _ _ HC.out Tryd.underlying30 rfl (by kernel_rfl) ?_))
    clear e1
    refine (YT.out _).mono ?_
    rintro e w3 ⟨rfl, h3⟩
    have M3 := Lib.hid (HM.out.trans h3)
    clear h3
    go_wp2_with fail
    go_ret
    exact ⟨rfl, HW.out.more M3.out, Turned.mono M3.out (fun _ _ z => z.elim)⟩

set_option maxRecDepth 100000 in
set_option maxHeartbeats 4000000 in
theorem fn_told {c : Cfg} (R : c.Ok) (ws : List Int) (H : HdIn c.pg c.st ws.length) (hl : ws.length ≤ 1000) {G : Int → List Int} (L : Ln c.pg c.st G ws) (kd q k f : Int) (hf : kd < 2 → isPage c.pg q = true → ∀ a, isHd c.pg c.st a → q ∉ G a) (g cap : Nat) (w : World) (hw : Ws w g cap ws) :
    Calls Tryd.prog 14 #[.agg c.cells, .slice (some ⟨g, 0, none⟩) ws.length cap, .agg #[.int .i64 kd, .int .i64 q, .int .i64 k, .int .i64 f]] w (fun e w' => e = .returned (.bool (pdoneV c.pg c.st kd q k f ws).1) ∧ Ws w' g cap (pdoneV c.pg c.st kd q k f ws).2 ∧ Turned (fun b => b = g) w w') := by
  obtain ⟨w2, e2, h1, h2, m2, s2⟩ := entry2 w (.cells c.cells 30) (.cells #[.int .i64 kd, .int .i64 q, .int .i64 k, .int .i64 f] 36)
  have HC := Lib.hid h1
  obtain ⟨y0, y1, y2, y3⟩ := box4 h2
  have MM := Lib.hid m2
  have HW := Lib.hid (hw.more m2)
  have HR := Lib.hid R
  have HH := Lib.hid H
  have HLn := Lib.hid L
  have HF := Lib.hid hf
  clear R hw H L hf h1 h2 m2
  by_cases hk : kd < 2
  · have d1 : decide (kd < 2) = true := by simpa using hk
    have e0 : pdoneV c.pg c.st kd q k f ws = plLinkV c.pg c.st q k f ws := by unfold pdoneV; rw [if_pos hk]
    rw [e0]
    clear e0
    go_enter Tryd.func14, Tryd.ntmps14
    go_wp2_with (first | (refine wpList_load_row rfl 30 _ rfl _ rfl 30 _ _ _ HC.out Tryd.underlying30 rfl (by kernel_rfl) ?_) | (refine wpList_load_rowG rfl 30 _ rfl _ rfl 30 _ _ _ HC.out Tryd.underlying30 rfl (by kernel_rfl) ?_))
    refine (r10_Link HR.out ws HH.out hl HLn.out q k f (HF.out hk) g cap w2 HW.out).mono ?_
    rintro e w3 ⟨rfl, h3, t3⟩
    have H3 := Lib.hid h3
    have T3 := Lib.hid t3
    clear h3 t3
    go_wp2_with fail
    go_ret
    exact ⟨rfl, H3.out, RowP.turn MM.out T3.out⟩
  · have d1 : decide (kd < 2) = false := by simpa using hk
    have e0 : pdoneV c.pg c.st kd q k f ws = plUnlinkV c.pg c.st q k f ws := by unfold pdoneV; rw [if_neg hk]
    rw [e0]
    clear e0
    go_enter Tryd.func14, Tryd.ntmps14
    go_wp2_with (first | (refine wpList_load_row rfl 30 _ rfl _ rfl 30 _ _ _ HC.out Tryd.underlying30 rfl (by kernel_rfl) ?_) | (refine wpList_load_rowG rfl 30 _ rfl _ rfl 30 _ _ _ HC.out Tryd.underlying30 rfl (by kernel_rfl) ?_))
    refine (r10_Unlink HR.out ws HH.out hl HLn.out q k f g cap w2 HW.out).mono ?_
    rintro e w3 ⟨rfl, h3, t3⟩
    have H3 := Lib.hid h3
    have T3 := Lib.hid t3
    clear h3 t3
    go_wp2_with fail
    go_ret
    exact ⟨rfl, H3.out, RowP.turn MM.out T3.out⟩
end Go.Proofs.YtogfikemodaepaaDoor

namespace Go.Proofs.YtogfikemodaepaaDoor
open Go.RowKit Go.Sort Go.Maps Go.Shelf
set_option linter.unusedVariables false
set_option linter.unusedSimpArgs false
set_option linter.unusedSectionVars false

def ppP (pg st kd p k f q : Int) : Prg (Bool × List Int × Int) := bindP (pdoneP pg st kd p k f) fun x => bindP (plListP pg st k f) fun all => bindP (plFirstN pg st q (slotsC q).toNat 1) fun fs => pureP (x, all, fs)
theorem sound_pp (pg st kd p k f q : Int) : Sound (ppP pg st kd p k f q) := sound_bind (sound_pdone _ _ _ _ _ _) (fun _ => sound_bind (sound_plList _ _ _ _) (fun _ => sound_bind (sound_plFirstN _ _ _ _ _) (fun _ => sound_pure _)))
theorem good_pp {pg st : Int} {n : Nat} (H : HdIn pg st n) (kd p k f q : Int) : Good n (fun _ => True) (ppP pg st kd p k f q) := good_bind (good_pdone H _ _ _ _) (fun _ _ => good_bind (good_plList H _ _) (fun _ _ => good_bind (good_plFirstN H _ _ _) (fun _ _ => good_pure n trivial)))
theorem flat_pp {pg st : Int} {n : Nat} (H : HdIn pg st n) (kd p k f q : Int) : Flat n (ppP pg st kd p k f q) (fun ws => (((pdoneV pg st kd p k f ws).1, plListV pg st k f (pdoneV pg st kd p k f ws).2, plFirstV pg st q (slotsC q).toNat 1 (pdoneV pg st kd p k f ws).2), (pdoneV pg st kd p k f ws).2)) :=
  flat_bind (flat_pdone H kd p k f) (fun _ => flat_bind (flat_plList H k f) (fun _ => flat_bind (flat_plFirstN H q _ 1) (fun _ => flat_pure n _)))
def BoxN (g : Nat) (w : World) (z : Int) : Prop := w.heap[g]? = some (.cells #[.int .i64 z] 3 (0, 0))
structure PpK (c : Cfg) (g1 g2 g5 bt : Nat) (kd p k f q : Int) (w : World) : Prop where
  h1 : w.heap[g1]? = some (.cells c.arr 28 (0, 0))
  h2 : w.heap[g2]? = some (.cells #[.int .i64 kd, .int .i64 p, .int .i64 k, .int .i64 f] 36 (0, 0))
  h5 : w.heap[g5]? = some (.cells #[.int .i64 q] 3 (0, 0))
  sz : SzAt bt w
def PpB (g1 g2 g5 bt k : Nat) : Prop := k = g1 ∨ k = g2 ∨ k = g5 ∨ k = 0 ∨ k = bt
theorem PpK.keep {c : Cfg} {g1 g2 g5 bt : Nat} {kd p k f q : Int} {S : Nat → Prop} {w w' : World} (h : PpK c g1 g2 g5 bt kd p k f q w) (t : Turned S w w') (n : ∀ b, PpB g1 g2 g5 bt b → ¬ S b) : PpK c g1 g2 g5 bt kd p k f q w' :=
  ⟨(t.block _ (lt_of_heap h.h1) (n _ (.inl rfl))).trans h.h1, (t.block _ (lt_of_heap h.h2) (n _ (.inr (.inl rfl)))).trans h.h2, (t.block _ (lt_of_heap h.h5) (n _ (.inr (.inr (.inl rfl))))).trans h.h5, h.sz.keep t (n _ (.inr (.inr (.inr (.inl rfl))))) (n _ (.inr (.inr (.inr (.inr rfl)))))⟩
theorem PpK.lt {c : Cfg} {g1 g2 g5 bt : Nat} {kd p k f q : Int} {w : World} (h : PpK c g1 g2 g5 bt kd p k f q w) {b : Nat} (hk : PpB g1 g2 g5 bt b) : b < w.heap.size := by
  rcases hk with rfl | rfl | rfl | rfl | rfl
  · exact lt_of_heap h.h1
  · exact lt_of_heap h.h2
  · exact lt_of_heap h.h5
  · exact h.sz.lt0
  · exact h.sz.lt
structure PpY (c : Cfg) (g1 g2 g3 g4 g5 g6 bt : Nat) (kd p k f q : Int) (w : World) : Prop where
  k : PpK c g1 g2 g5 bt kd p k f q w
  h3 : ∃ r, BoxB g3 w r
  h4 : ∃ v, BoxV g4 w v
  h6 : ∃ z, BoxN g6 w z
def PpX (g3 g4 g6 : Nat) (x : Bool) (all : List Int) (fs : Int) (b : Nat) (w : World) : Prop := BoxB g3 w x ∧ BoxS b g4 w all ∧ BoxN g6 w fs
set_option maxRecDepth 100000 in
set_option maxHeartbeats 8000000 in
theorem pp_clo {c : Cfg} (R : c.Ok) {n : Nat} (H : HdIn c.pg c.st n) (hn : n ≤ 10000) (F : Nat → Prop) (p g1 g2 g3 g4 g5 g6 bt : Nat) (kn : Int → Option Int) (kd P k f q : Int) (x0 : Bool) (all0 : List Int) (fs0 : Int) (W0 : World) (hv : ViewAt W0 F p kn []) (hk : OkK kn) (hY : PpY c g1 g2 g3 g4 g5 g6 bt kd P k f q W0) (nF : ∀ k, PpB g1 g2 g5 bt k → ¬ F k) (n3 : ¬ F g3) (n4 : ¬ F g4) (n6 : ¬ F g6) (nE : ∀ k, PpB g1 g2 g5 bt k → k ≠ g3 ∧ k ≠ g4 ∧ k ≠ g6) (ne : g3 ≠ g4 ∧ g3 ≠ g6 ∧ g4 ≠ g6)
    (ht : ∀ x D, ppP c.pg c.st kd P k f q kn [] = .ok x D → x = (x0, all0, fs0)) :
    Calls Tryd.prog 10 #[.pointer (some ⟨p, 0, none⟩), .pointer (some ⟨g1, 0, none⟩), .pointer (some ⟨g2, 0, none⟩), .pointer (some ⟨g3, 0, none⟩), .pointer (some ⟨g4, 0, none⟩), .pointer (some ⟨g5, 0, none⟩), .pointer (some ⟨g6, 0, none⟩)] W0 (WentY W0 F (fun b => b = g3 ∨ b = g4 ∨ b = g6) (fun w' => PpY c g1 g2 g3 g4 g5 g6 bt kd P k f q w') (fun w' => PpX g3 g4 g6 x0 all0 fs0 W0.heap.size w') p kn (ranOf (ppP c.pg c.st kd P k f q kn []))) := by
  obtain ⟨Rr, hR⟩ : ∃ Rr, ppP c.pg c.st kd P k f q kn [] = Rr := ⟨_, rfl⟩
  rw [hR] at ht ⊢
  obtain ⟨hK, ⟨r0, h3⟩, ⟨v0, h4⟩, ⟨z0, h6⟩⟩ := hY
  have l3 := lt_of_heap h3
  have l4 := lt_of_heap h4
  have l6 := lt_of_heap h6
  have HK := Lib.hid hk
  have HR := Lib.hid R
  have HH := Lib.hid H
  have HRr := Lib.hid (show bindP (pdoneP c.pg c.st kd P k f) (fun x => bindP (plListP c.pg c.st k f) fun all => bindP (plFirstN c.pg c.st q (slotsC q).toNat 1) fun fs => pureP (x, all, fs)) kn [] = Rr from hR)
  have M0 : Hid (MidV W0 W0 F (fun b => b = g3 ∨ b = g4 ∨ b = g6) p kn n [] F) := Lib.hid (MidV.begin hv (invD_nil n))
  have B0 := Lib.hid (And.intro h3 (And.intro h4 h6))
  have KT : Hid (∀ wr, Turned (fun b => F b ∨ (b = g3 ∨ b = g4 ∨ b = g6)) W0 wr → PpK c g1 g2 g5 bt kd P k f q wr) := Lib.hid fun wr t => hK.keep t (fun k hk => by
    obtain ⟨e1, e2, e3⟩ := nE k hk
    rintro (z | z | z | z); exact nF k hk z; exact e1 z; exact e2 z; exact e3 z)
  have KL : Hid (∀ wr D' F', MidV W0 wr F (fun b => b = g3 ∨ b = g4 ∨ b = g6) p kn n D' F' → PpK c g1 g2 g5 bt kd P k f q wr) := Lib.hid fun wr D' F' h => KT.out _ h.turn
  have NF : Hid (∀ wr D' F', MidV W0 wr F (fun b => b = g3 ∨ b = g4 ∨ b = g6) p kn n D' F' → ¬ F' g3 ∧ ¬ F' g4 ∧ ¬ F' g6) := Lib.hid fun wr D' F' h => ⟨h.off l3 n3, h.off l4 n4, h.off l6 n6⟩
  have NB : Hid (∀ wr D' F', MidV W0 wr F (fun b => b = g3 ∨ b = g4 ∨ b = g6) p kn n D' F' → ∀ k, PpB g1 g2 g5 bt k → ¬ F' k) := Lib.hid fun wr D' F' h k hk => h.off (hK.lt hk) (nF k hk)
  have NEED : Hid (∀ a w2 (b : Bool) v z, Rr = .need a → DeadAt w2 p a → Turned (fun b => F b ∨ (b = g3 ∨ b = g4 ∨ b = g6)) W0 w2 → BoxB g3 w2 b → BoxV g4 w2 v → BoxN g6 w2 z → WentY W0 F (fun b => b = g3 ∨ b = g4 ∨ b = g6) (fun w' => PpY c g1 g2 g3 g4 g5 g6 bt kd P k f q w') (fun w' => PpX g3 g4 g6 x0 all0 fs0 W0.heap.size w') p kn (ranOf Rr) (.panicked (endOf p)) w2) := Lib.hid fun a w2 b v z e hd ht' q1 q2 q3 => wy_need (ranOf_need e) hd ht' ⟨KT.out _ ht', ⟨b, q1⟩, ⟨v, q2⟩, ⟨z, q3⟩⟩
  have HT := Lib.hid ht
  have L0 := Lib.hid (KL.out _ _ _ M0.out).h1
  have J0 := Lib.hid (KL.out _ _ _ M0.out).h2
  obtain ⟨y00, y10, y20, y30⟩ := box4 J0.out
  have c50 := (box_cells (KL.out _ _ _ M0.out).h5).1
  clear hv hk R H n3 n4 n6 nF nE ht hR KT hK h3 h4 h6
  go_enter Tryd.func10, Tryd.ntmps10
  go_wp2_with (first | (first | (refine wpList_load_row rfl 28 _ rfl _ rfl 28 _ _ _ L0.out Tryd.underlying28 rfl (by kernel_rfl) ?_) | (refine wpList_load_rowG rfl 28 _ rfl _ rfl 28 _ _ _ L0.out Tryd.underlying28 rfl (by kernel_rfl) ?_)) | (refine wpList_load_row rfl 36 _ rfl _ rfl 36 _ _ _ J0.out Tryd.underlying36 rfl (by kernel_rfl) ?_))
  refine (fn_done HR.out HH.out hn F p kn [] kd P k f W0 M0.out.view HK.out M0.out.inv).mono ?_
  intro e w1 he
  rcases M0.out.step (More.refl _) HK.out (good_pdone HH.out _ _ _ _) he with ⟨a', hE, rfl, hd', ht', hk'⟩ | ⟨x1, D1, F1, hE, rfl, M1, hq1, hk', hf'⟩
  · exact ⟨rfl, NEED.out a' w1 _ _ _ (HRr.out.symm.trans (bindP_need hE)) hd' ht' (hk' _ _ (NF.out _ _ _ M0.out).1 B0.out.1) (hk' _ _ (NF.out _ _ _ M0.out).2.1 B0.out.2.1) (hk' _ _ (NF.out _ _ _ M0.out).2.2 B0.out.2.2)⟩
  have B1 := Lib.hid (And.intro (hk' _ _ (NF.out _ _ _ M0.out).1 B0.out.1) (And.intro (hk' _ _ (NF.out _ _ _ M0.out).2.1 B0.out.2.1) (hk' _ _ (NF.out _ _ _ M0.out).2.2 B0.out.2.2)))
  have R1 := Lib.hid ((bindP_ok hE).symm.trans HRr.out)
  have M1 := Lib.hid M1
  skip
  clear he hE hk' hf'
  obtain ⟨cr1, fr1, kr1⟩ := box_cells B1.out.1
  obtain ⟨w2, e2⟩ : ∃ w2, w1.setCell ⟨g3, 0, none⟩ (.bool x1) = w2 := ⟨_, rfl⟩
  have M2 : Hid (MidV W0 w2 F (fun b => b = g3 ∨ b = g4 ∨ b = g6) p kn n D1 F1) := Lib.hid (by rw [← e2]; exact M1.out.box (fun _ => .inl rfl) (NF.out _ _ _ M1.out).1 _ B1.out.1)
  have B2 : Hid (BoxB g3 w2 x1 ∧ BoxV g4 w2 v0 ∧ BoxN g6 w2 z0) := Lib.hid (by rw [← e2]; exact ⟨boxB_set B1.out.1 _, set_oth B1.out.2.1 (Ne.symm ne.1), set_oth B1.out.2.2 (Ne.symm ne.2.1)⟩)
  have L2 := Lib.hid (KL.out _ _ _ M2.out).h1
  have J2 := Lib.hid (KL.out _ _ _ M2.out).h2
  obtain ⟨y02, y12, y22, y32⟩ := box4 J2.out
  have c52 := (box_cells (KL.out _ _ _ M2.out).h5).1
  clear y00 y10 y20 y30 c50 L0 J0 hq1
  go_wp2_with (first | (refine wpList_load_row rfl 28 _ rfl _ rfl 28 _ _ _ L2.out Tryd.underlying28 rfl (by kernel_rfl) ?_) | (refine wpList_load_rowG rfl 28 _ rfl _ rfl 28 _ _ _ L2.out Tryd.underlying28 rfl (by kernel_rfl) ?_))
  clear cr1 fr1 kr1 e2
  refine (pl_List HR.out HH.out F1 p kn D1 k f w2 M2.out.view HK.out M2.out.inv).mono ?_
  intro e w3 he
  rcases M2.out.stepR (More.refl _) HK.out (good_plList HH.out _ _) he with ⟨a', hE, rfl, hd', ht', hk'⟩ | ⟨avs, D3, F3, va, hE, rfl, hp3, M3, hq3, hk', hf'⟩
  · exact ⟨rfl, NEED.out a' w3 _ _ _ (R1.out.symm.trans (bindP_need hE)) hd' ht' (hk' _ _ (NF.out _ _ _ M2.out).1 B2.out.1) (hk' _ _ (NF.out _ _ _ M2.out).2.1 B2.out.2.1) (hk' _ _ (NF.out _ _ _ M2.out).2.2 B2.out.2.2)⟩
  have B3 := Lib.hid (And.intro (hk' _ _ (NF.out _ _ _ M2.out).1 B2.out.1) (And.intro (hk' _ _ (NF.out _ _ _ M2.out).2.1 B2.out.2.1) (hk' _ _ (NF.out _ _ _ M2.out).2.2 B2.out.2.2)))
  have hp3 : OwnR w2.heap.size F3 w3 va avs := hp3
  have P3 := Lib.hid (OwnR.mono hp3 (show W0.heap.size ≤ _ from M2.out.size))
  have R3 := Lib.hid ((bindP_ok hE).symm.trans R1.out)
  have M3 := Lib.hid M3
  obtain ⟨a1, c1, rfl, _⟩ := P3.out.1.reads
  obtain ⟨cr3, fr3, kr3⟩ := box_cells B3.out.2.1
  obtain ⟨w4, e4⟩ : ∃ w4, w3.setCell ⟨g4, 0, none⟩ (.slice a1 avs.length c1) = w4 := ⟨_, rfl⟩
  have M4 : Hid (MidV W0 w4 F (fun b => b = g3 ∨ b = g4 ∨ b = g6) p kn n D3 F3) := Lib.hid (by rw [← e4]; exact M3.out.box (fun _ => .inr (.inl rfl)) (NF.out _ _ _ M3.out).2.1 _ B3.out.2.1)
  have B4 : Hid (BoxB g3 w4 x1 ∧ BoxV g4 w4 (.slice a1 avs.length c1) ∧ BoxN g6 w4 z0) := Lib.hid (by rw [← e4]; exact ⟨set_oth B3.out.1 ne.1, setCell_one B3.out.2.1 _, set_oth B3.out.2.2 (Ne.symm ne.2.2)⟩)
  have P4 : Hid (OwnR W0.heap.size F3 w4 (.slice a1 avs.length c1) avs) := Lib.hid (by rw [← e4]; exact P3.out.set l4)
  have L4 := Lib.hid (KL.out _ _ _ M4.out).h1
  have J4 := Lib.hid (KL.out _ _ _ M4.out).h2
  obtain ⟨y04, y14, y24, y34⟩ := box4 J4.out
  have c54 := (box_cells (KL.out _ _ _ M4.out).h5).1
  clear y02 y12 y22 y32 c52 L2 J2 hp3 he hE hk' hf' hq3
  go_wp2_with (first | (refine wpList_load_row rfl 28 _ rfl _ rfl 28 _ _ _ L4.out Tryd.underlying28 rfl (by kernel_rfl) ?_) | (refine wpList_load_rowG rfl 28 _ rfl _ rfl 28 _ _ _ L4.out Tryd.underlying28 rfl (by kernel_rfl) ?_))
  clear cr3 fr3 kr3 e4
  refine (pl_First HR.out HH.out F3 p kn D3 q w4 M4.out.view HK.out M4.out.inv bt (KL.out _ _ _ M4.out).sz (NB.out _ _ _ M4.out 0 (.inr (.inr (.inr (.inl rfl))))) (NB.out _ _ _ M4.out bt (.inr (.inr (.inr (.inr rfl)))))).mono ?_
  intro e w5 he
  rcases M4.out.step (More.refl _) HK.out (good_plFirstN HH.out _ _ _) he with ⟨a', hE, rfl, hd', ht', hk'⟩ | ⟨x5, D5, F5, hE, rfl, M5, hq5, hk', hf'⟩
  · exact ⟨rfl, NEED.out a' w5 _ _ _ (R3.out.symm.trans (bindP_need hE)) hd' ht' (hk' _ _ (NF.out _ _ _ M4.out).1 B4.out.1) (hk' _ _ (NF.out _ _ _ M4.out).2.1 B4.out.2.1) (hk' _ _ (NF.out _ _ _ M4.out).2.2 B4.out.2.2)⟩
  have B5 := Lib.hid (And.intro (hk' _ _ (NF.out _ _ _ M4.out).1 B4.out.1) (And.intro (hk' _ _ (NF.out _ _ _ M4.out).2.1 B4.out.2.1) (hk' _ _ (NF.out _ _ _ M4.out).2.2 B4.out.2.2)))
  have R5 := Lib.hid ((bindP_ok hE).symm.trans R3.out)
  have M5 := Lib.hid M5
  have P5 := Lib.hid (P4.out.went hk' hf')
  clear he hE hk' hf'
  obtain ⟨cr5, fr5, kr5⟩ := box_cells B5.out.2.2
  obtain ⟨w6, e6⟩ : ∃ w6, w5.setCell ⟨g6, 0, none⟩ (.int .i64 x5) = w6 := ⟨_, rfl⟩
  have M6 : Hid (MidV W0 w6 F (fun b => b = g3 ∨ b = g4 ∨ b = g6) p kn n D5 F5) := Lib.hid (by rw [← e6]; exact M5.out.box (fun _ => .inr (.inr rfl)) (NF.out _ _ _ M5.out).2.2 _ B5.out.2.2)
  have hx := HT.out _ _ R5.out.symm
  have FIN : Hid (WentY W0 F (fun b => b = g3 ∨ b = g4 ∨ b = g6) (fun w' => PpY c g1 g2 g3 g4 g5 g6 bt kd P k f q w') (fun w' => PpX g3 g4 g6 x0 all0 fs0 W0.heap.size w') p kn (ranOf Rr) (.returned (.tuple #[])) w6) := Lib.hid (by
    simp only [Prod.mk.injEq] at hx
    obtain ⟨rfl, rfl, rfl⟩ := hx
    have b3 : BoxB g3 w6 x1 := by rw [← e6]; exact set_oth B5.out.1 ne.2.1
    have b4 : BoxV g4 w6 (.slice a1 avs.length c1) := by rw [← e6]; exact set_oth B5.out.2.1 ne.2.2
    have b6 : BoxN g6 w6 x5 := by rw [← e6]; exact setCell_one B5.out.2.2 _
    have p6 : OwnR W0.heap.size F5 w6 (.slice a1 avs.length c1) avs := by rw [← e6]; exact P5.out.set l6
    exact wy_done M6.out (ranOf_ok R5.out.symm) ⟨KL.out _ _ _ M6.out, ⟨_, b3⟩, ⟨_, b4⟩, ⟨_, b6⟩⟩ ⟨b3, ⟨_, b4, p6.1⟩, b6⟩)
  clear y04 y14 y24 y34 c54 L4 J4 hx hq5
  go_wp2_with fail
  go_end0
  exact FIN.out
end Go.Proofs.YtogfikemodaepaaDoor

namespace Go.Proofs.YtogfikemodaepaaDoor
open Go.RowKit Go.Sort Go.Maps Go.Shelf
set_option linter.unusedVariables false
set_option linter.unusedSimpArgs false

theorem pp_do {c : Cfg} (R : c.Ok) (zs : List Int) (H : HdIn c.pg c.st zs.length) (hlen : zs.length ≤ 1000) (hz : OkW zs) (kd P k f q : Int) (w : World) (g1 g2 g3 g4 g5 g6 bt : Nat) (a : Option Addr) (cap : Nat) (hY : PpY c g1 g2 g3 g4 g5 g6 bt kd P k f q w) (nE : ∀ k, PpB g1 g2 g5 bt k → k ≠ g3 ∧ k ≠ g4 ∧ k ≠ g6) (ne : g3 ≠ g4 ∧ g3 ≠ g6 ∧ g4 ≠ g6) (hw : IsWords w a zs) :
    OkW (pdoneV c.pg c.st kd P k f zs).2 ∧ Calls Tryd.prog 9 #[.slice a zs.length cap, .func (.func 10) #[] #[.pointer (some ⟨g1, 0, none⟩), .pointer (some ⟨g2, 0, none⟩), .pointer (some ⟨g3, 0, none⟩), .pointer (some ⟨g4, 0, none⟩), .pointer (some ⟨g5, 0, none⟩), .pointer (some ⟨g6, 0, none⟩)]] w (fun e w' => ∃ v1 v2 b, e = .returned (.tuple #[v1, v2, .int .i64 0]) ∧ Rw w.heap.size w' v1 (pdoneV c.pg c.st kd P k f zs).2 ∧ Turned (fun b => b = g3 ∨ b = g4 ∨ b = g6) w w' ∧ w.heap.size ≤ b ∧ PpX g3 g4 g6 (pdoneV c.pg c.st kd P k f zs).1 (plListV c.pg c.st k f (pdoneV c.pg c.st kd P k f zs).2) (plFirstV c.pg c.st q (slotsC q).toNat 1 (pdoneV c.pg c.st kd P k f zs).2) b w') := by
  have l3 : g3 < w.heap.size := by obtain ⟨x, h⟩ := hY.h3; exact lt_of_heap h
  have l4 : g4 < w.heap.size := by obtain ⟨x, h⟩ := hY.h4; exact lt_of_heap h
  have l6 : g6 < w.heap.size := by obtain ⟨x, h⟩ := hY.h6; exact lt_of_heap h
  obtain ⟨D, hD, ha, hi⟩ := flat_pp H kd P k f q zs [] rfl hz (invD_nil _)
  have e0 : applyD zs [] = zs := rfl
  rw [e0] at hD ha
  have ha : applyD zs D = (pdoneV c.pg c.st kd P k f zs).2 := ha
  refine ⟨by rw [← ha]; exact okW_app hz hi rfl, ?_⟩
  obtain ⟨K', _, hK'⟩ := doP_run (sound_pp c.pg c.st kd P k f q) (good_pp H kd P k f q) hz hD (zs.length + 1) [] (okKn_nil _) (by simp)
  rw [ha] at hK'
  have M := doX_ok a cap zs (fun K => ranOf (ppP c.pg c.st kd P k f q (look K) [])) (some ((pdoneV c.pg c.st kd P k f zs).2, K')) zs.length w hw hlen hz (fine_of (good_pp H kd P k f q) hz (by omega)) (by omega) hK' 10 #[.pointer (some ⟨g1, 0, none⟩), .pointer (some ⟨g2, 0, none⟩), .pointer (some ⟨g3, 0, none⟩), .pointer (some ⟨g4, 0, none⟩), .pointer (some ⟨g5, 0, none⟩), .pointer (some ⟨g6, 0, none⟩)] (fun b => b = g3 ∨ b = g4 ∨ b = g6)
    (fun w' => PpY c g1 g2 g3 g4 g5 g6 bt kd P k f q w') (fun b w' => PpX g3 g4 g6 (pdoneV c.pg c.st kd P k f zs).1 (plListV c.pg c.st k f (pdoneV c.pg c.st kd P k f zs).2) (plFirstV c.pg c.st q (slotsC q).toNat 1 (pdoneV c.pg c.st kd P k f zs).2) b w')
    (fun k q => by rcases q with rfl | rfl | rfl; exact l3; exact l4; exact l6)
    (fun w' w'' y t => ⟨y.k.keep t (fun k hk => by have := hY.k.lt hk; omega), by
      obtain ⟨v, h⟩ := y.h3; exact ⟨v, (t.block g3 (lt_of_heap h) (by omega)).trans h⟩, by
      obtain ⟨v, h⟩ := y.h4; exact ⟨v, (t.block g4 (lt_of_heap h) (by omega)).trans h⟩, by
      obtain ⟨v, h⟩ := y.h6; exact ⟨v, (t.block g6 (lt_of_heap h) (by omega)).trans h⟩⟩)
    (fun b w' w'' hb x t => ⟨(t.block g3 (lt_of_heap x.1) (by omega)).trans x.1, x.2.1.keep t (by omega) (fun k hk => by omega), (t.block g6 (lt_of_heap x.2.2) (by omega)).trans x.2.2⟩) hY (enters_of Tryd.func10 (by kernel_rfl) rfl)
    (fun K hK W F p t y hv hF => pp_clo R H (by omega) F p g1 g2 g3 g4 g5 g6 bt (look K) kd P k f q _ _ _ W hv (okK_of hK hz) y (fun k hk q => by have := hF _ q; have := hY.k.lt hk; omega) (fun q => by have := hF _ q; omega) (fun q => by have := hF _ q; omega) (fun q => by have := hF _ q; omega) nE ne (fun x D' e => (sound_same (sound_pp c.pg c.st kd P k f q) hK hD e).1))
  refine M.mono ?_
  rintro e w' ⟨v1, v2, b, rfl, r1, _, t, y, hb, x⟩
  exact ⟨v1, v2, b, rfl, r1, t, hb, x⟩
/-- Between two steps. -/
structure PqI (w wr : World) (d : Cfg) (a : Option Addr) (capl : Nat) (l : List Ins4) (bl br bq bt : Nat) (q : Int) (G : Int → List Int) (n gw cw gi ci : Nat) (zs ins : List Int) (gz cz : Nat) : Prop where
  len : zs.length = n
  ok : OkW zs
  L : Ln d.pg d.st G zs
  I : InL d.pg d.st G ins
  z : Ws wr gz cz zs
  wnt : Ws wr gw cw zs
  row : Ws wr gi ci ins
  il : ins.length = d.pg.toNat
  lb : wr.heap[bl]? = some (.cells d.arr 28 (0, 0))
  rb : wr.heap[br]? = some (.cells d.cells 30 (0, 0))
  qb : wr.heap[bq]? = some (.cells #[.int .i64 q] 3 (0, 0))
  sz : SzAt bt wr
  acts : IsIns4 wr a l
  n1 : gw ≠ gz ∧ gw ≠ gi ∧ gi ≠ gz
  n2 : ∀ b, (b = bl ∨ b = br ∨ b = bq ∨ b = 0 ∨ b = bt ∨ b < w.heap.size) → b ≠ gw ∧ b ≠ gi
  more : More w wr
theorem PqI.on {w wr w' : World} {d : Cfg} {a : Option Addr} {capl : Nat} {l : List Ins4} {bl br bq bt : Nat} {q : Int} {G : Int → List Int} {n gw cw gi ci : Nat} {zs ins : List Int} {gz cz : Nat} (h : PqI w wr d a capl l bl br bq bt q G n gw cw gi ci zs ins gz cz) (t : More wr w') : PqI w w' d a capl l bl br bq bt q G n gw cw gi ci zs ins gz cz :=
  { h with z := h.z.more t, wnt := h.wnt.more t, row := h.row.more t, lb := t.block h.lb, rb := t.block h.rb, qb := t.block h.qb, sz := h.sz.more t, acts := h.acts.more t, more := h.more.trans t }
theorem note_in {pg st kd p k f : Int} {ins : List Int} {x : Bool} : (noteV ins kd p k f).length = ins.length := by unfold noteV; (repeat' split) <;> simp

set_option maxRecDepth 100000 in
set_option maxHeartbeats 8000000 in
theorem pp_walk (y0 y1 y2 y3 y4 y5 y6 y7 y8 y9 y10 : Int) (a : Option Addr) (capl : Nat) (l : List Ins4) (q : Int) (w : World) (hS : Sizes w) (f0 : (Lit.int .i64 y0).wf = true) (f1 : (Lit.int .i64 y1).wf = true) (f2 : (Lit.int .i64 y2).wf = true) (f3 : (Lit.int .i64 y3).wf = true) (f4 : (Lit.int .i64 y4).wf = true) (f5 : (Lit.int .i64 y5).wf = true) (f6 : (Lit.int .i64 y6).wf = true) (f7 : (Lit.int .i64 y7).wf = true) (f8 : (Lit.int .i64 y8).wf = true) (f9 : (Lit.int .i64 y9).wf = true) (f10 : (Lit.int .i64 y10).wf = true) (hl : IsIns4 w a l) (ho : OkP4 l) (hmx : l.length ≤ 9223372036854775807) (e0 : (Lit.int .i64 q).wf = true) :
    Calls Tryd.prog 3 #[.agg #[.int .i64 y0, .int .i64 y1, .int .i64 y2, .int .i64 y3, .int .i64 y4, .int .i64 y5, .int .i64 y6, .int .i64 y7, .int .i64 y8, .int .i64 y9, .int .i64 y10], .slice a l.length capl, .int .i64 q] w (Gives w (.bool true)) := by
  obtain ⟨bt, hsz⟩ : ∃ bt, SzAt bt w := hS
  obtain ⟨w4, e4, ha, hb, m4, s4⟩ := entry2 w (.cells #[.int .i64 y0, .int .i64 y1, .int .i64 y2, .int .i64 y3, .int .i64 y4, .int .i64 y5, .int .i64 y6, .int .i64 y7, .int .i64 y8, .int .i64 y9, .int .i64 y10] 23) (.cells #[.int .i64 q] 3)
  clear e0 ho
  have hbt := hsz.lt
  have hb0 := hsz.lt0
  by_cases h1 : 100 < l.length
  · have d0 : decide ((100 : Int) < (l.length : Int)) = true := by simp; omega
    have M1 := Lib.hid m4
    clear ha hb m4 f0 f1 f2 f3 f4 f5 f6 f7 f8 f9 f10 hl s4 hsz hbt hb0
    go_enter Tryd.func3, Tryd.ntmps3
    go_wp2_with fail
    refine (lives10_ok _).mono ?_
    rintro e w18 ⟨rfl, h18⟩
    have M18 := Lib.hid (M1.out.trans h18)
    clear h18
    go_wp2_with fail
    go_ret
    exact ⟨rfl, M18.out⟩
  have d0 : decide ((100 : Int) < (l.length : Int)) = false := by simp; omega
  obtain ⟨d, S, BEG⟩ := begin_at y0 y1 y2 y3 y4 y5 y6 y7 y8 y9 y10 f0 f1 f2 f3 f4 f5 f6 f7 f8 f9 f10
  have wds := S.words
  have SS := Lib.hid S
  have M1 := Lib.hid m4
  have HSZ := Lib.hid (hsz.more m4)
  have HA := Lib.hid ha
  have HQ := Lib.hid hb
  have HLL := Lib.hid hl
  have hl100 : l.length ≤ 100 := by omega
  clear hl m4 ha hb f0 f1 f2 f3 f4 f5 f6 f7 f8 f9 f10 h1 S hsz
  go_enter Tryd.func3, Tryd.ntmps3
  go_wp2_with (refine wpList_load_row rfl 23 _ rfl w.heap.size rfl 23 _ _ _ HA.out Tryd.underlying23 rfl (by kernel_rfl) ?_)
  clear e4
  refine (BEG.out _).mono ?_
  rintro e w1 ⟨g, n, hn, rfl, hrw, m1⟩
  obtain ⟨w3, e3, b1, b2, b3, m3, s3⟩ := rows2 w1 zero24 zero11 d.arr d.cells 28 30
  have b4 : w3.heap[w1.heap.size + 1]? = some (.cells d.cells 30 (0, 0)) := by rw [← e3]; exact setRow_heap _ _ _ _ _ _ b2
  have hz := zeros_len n
  have wz : Ws w1 g n (zeros n) := Ws.of_rw (base := w4.heap.size) (by rw [hz]; exact hrw)
  have hg2 : w4.heap.size ≤ g := (Rw.own hrw (by rfl)).1
  have hg1 := wz.lt
  have hdn := SS.out.hdin hn
  have B1 := Lib.hid b1
  have B2 := Lib.hid b2
  have B3 := Lib.hid b3
  have B4 := Lib.hid b4
  have m13 := m1.trans m3
  have WZ := Lib.hid (wz.more m3)
  have M3 := Lib.hid (M1.out.trans m13)
  have Q3 := Lib.hid (m13.block HQ.out)
  have S3 := Lib.hid (HSZ.out.more m13)
  have hw1 : w4.heap.size ≤ w1.heap.size := m1.size
  have HN := Lib.hid hn
  have hnb : 160 ≤ n ∧ n ≤ 800 := by omega
  have ZW := Lib.hid (WZ.out.words)
  have HZ := Lib.hid hz
  have HDN := Lib.hid hdn
  have pg1 := SS.out.ok.pg1
  have pg2 := SS.out.ok.pg2
  obtain ⟨m, hm⟩ : ∃ m : Nat, d.pg = (m : Int) := ⟨d.pg.toNat, by omega⟩
  have hmk := fun w => run_make_where m (m : Int) rfl (by omega) w
  have cpg := (show w3.cell? ⟨w1.heap.size + 1, 2, none⟩ = some (.int .i64 (m : Int)) by rw [← hm]; simp [World.cell?, b4, Cfg.cells])
  have CPG := Lib.hid cpg
  have HMM := Lib.hid hm
  clear hm
  clear b1 b2 b3 b4 hrw hn BEG hz wz HA HQ m1 m3 m13 wds HSZ hdn cpg
  go_wp2_with (first
    | (refine wpList_store_row rfl 28 _ _ rfl w1.heap.size _ rfl rfl 28 zero24 B1.out (by kernel_rfl) rfl (arr_one d) ?_)
    | (refine wpList_store_row rfl 30 _ _ rfl (w1.heap.size + 1) _ rfl rfl 30 zero11 B2.out (by kernel_rfl) rfl (cells_one d) ?_)
    | (at_builtin; refine wpList_words (zs := zeros n) rfl _ _ rfl rfl (by rw [HZ.out]; rfl) ZW.out (by rw [HZ.out]; omega) ?_; intro a' cw w6 h4 n4 m4; have RW := Lib.hid h4; have N4 := Lib.hid n4; have M4 := Lib.hid m4; have cp4 := m4.cell CPG.out; clear h4 n4 m4))
  obtain ⟨gw, rfl, WR⟩ := Ws.of_row' RW.out (by rw [HZ.out]; omega)
  rw [HZ.out]
  have hgw := N4.out gw rfl
  have m34 := M4.out
  have r7 := heap_new w6 (.cells (rowOf (zeros m)) 3)
  have m67 : More w6 (w6.alloc (.cells (rowOf (zeros m)) 3)) := (More.refl _).alloc _
  have hws := m34.size
  have hwl := WR.lt
  have hg3 := WZ.out.lt
  have hlb := lt_of_heap B3.out
  have hrb := lt_of_heap B4.out
  have hmp : m = d.pg.toNat := by have := HMM.out; omega
  have h3s : w3.heap.size ≤ w6.heap.size := hws
  have hM3 := M3.out.size
  have START : Hid (PqI w (w6.alloc (.cells (rowOf (zeros m)) 3)) d a capl l w1.heap.size (w1.heap.size + 1) (w.heap.size + 1) bt q (fun _ => []) n gw cw w6.heap.size m (zeros n) (zeros m) g n) := Lib.hid
    { len := HZ.out, ok := okW_zeros n, L := ln_zeros HDN.out, I := by rw [hmp]; exact in_zeros HDN.out, z := (WZ.out.more m34).more m67, wnt := WR.more m67, row := ws_zeros _ m (by omega) r7, il := by rw [zeros_len]; exact hmp
      lb := m67.block (m34.block B3.out), rb := m67.block (m34.block B4.out), qb := m67.block (m34.block Q3.out), sz := (S3.out.more m34).more m67, acts := HLL.out.more ((M3.out.trans m34).trans m67)
      n1 := by refine ⟨?_, ?_, ?_⟩ <;> omega, n2 := by rintro b (rfl | rfl | rfl | rfl | rfl | h) <;> (constructor <;> omega), more := (M3.out.trans m34).trans m67 }
  have HMP := Lib.hid hmp
  clear hmp
  clear e3 B1 B2 B3 B4 M3 ZW HZ RW N4 M4 WR r7 m34 m67 hws hwl hg3 hgw hg1 hg2 hw1 hmk CPG Q3 S3 WZ h3s hM3 hlb hrb
  go_wp2_with fail
  go_loopw [9, 12] (fun v9 v12 wr => ∃ (j : Nat) (zs ins : List Int) (gz cz : Nat), v9 = .slice (some ⟨gz, 0, none⟩) n cz ∧ v12 = .int .i64 (j : Int) ∧ (j ≤ l.length ∧ ∃ G, PqI w wr d a capl l w1.heap.size (w1.heap.size + 1) (w.heap.size + 1) bt q G n gw cw w6.heap.size m zs ins gz cz)) (fun _ v12 _ => l.length - (intOf v12).toNat)
  case atStart => exact ⟨0, _, _, _, _, rfl, rfl, by omega, _, START.out⟩
  case round =>
    clear START
    obtain ⟨j, zs, ins, gz, cz, rfl, rfl, hjl, G, I⟩ := hrel
    have II := Lib.hid I
    have q1 : IntKind.i64.wrap ((j : Int) + 1) = (j : Int) + 1 := wrap_in (by omega) (by omega)
    by_cases hlt : j < l.length
    · have d1 : decide ((j : Int) < (l.length : Int)) = true := by simp; omega
      obtain ⟨⟨kd, P, k, f⟩, hj⟩ : ∃ t, l[j]? = some t := ⟨_, List.getElem?_eq_getElem hlt⟩
      obtain ⟨s, o, ha, hs, hc⟩ := I.acts.resolve_left (by intro e; rw [e] at hlt; simp at hlt)
      obtain ⟨y0, y1, y2, y3⟩ := hc j _ hj
      simp only at y0 y1 y2 y3
      obtain ⟨w7, e7, h7, m7, s7⟩ := entry1 wr (.cells #[.int .i64 0, .int .i64 0, .int .i64 0, .int .i64 0] 36)
      have D7 := Lib.hid h7
      obtain ⟨w8, e8⟩ : ∃ w8, w7.setRow wr.heap.size #[.int .i64 kd, .int .i64 P, .int .i64 k, .int .i64 f] = w8 := ⟨_, rfl⟩
      have D8 := Lib.hid (show w8.heap[wr.heap.size]? = some (.cells #[.int .i64 kd, .int .i64 P, .int .i64 k, .int .i64 f] 36 (0, 0)) from by rw [← e8]; exact setRow_heap _ _ _ _ _ _ h7)
      have m8 : More wr w8 := by rw [← e8]; exact m7.setRow _ _ (Nat.le_refl _)
      have s8 : w8.heap.size = wr.heap.size + 1 := by rw [← e8]; simpa using s7
      have M8 := Lib.hid m8
      have hil : ins.length ≤ 1000 := by have := I.il; omega
      have hci : ins.length = m := by have := I.il; have := HMP.out; omega
      have ROW8 := Lib.hid (I.row.more m8)
      have hjx : (j : Int) < (l.length : Int) := by omega
      clear h7 m7 m8 hc I
      have SK := fn_skipped w6.heap.size m ins kd P k f hil w8 ROW8.out
      rw [hci] at SK
      have HCI := Lib.hid hci
      clear hci
      subst ha
      have hsk2 : skipB ins kd P = true ∨ skipB ins kd P = false := by cases skipB ins kd P <;> simp
      rcases hsk2 with hsk | hsk
      · rw [hsk] at SK
        have SK := Lib.hid SK
        go_wp2_with (first | (refine wpList_store_row rfl 36 _ _ rfl wr.heap.size #[.int .i64 kd, .int .i64 P, .int .i64 k, .int .i64 f] rfl rfl 36 _ D7.out (by kernel_rfl) rfl (by simp [Value.oneCell']) ?_) | (refine wpList_load_row rfl 36 _ rfl wr.heap.size rfl 36 _ _ _ D8.out Tryd.underlying36 rfl (by kernel_rfl) ?_))
        clear e7 e8 y0 y1 y2 y3
        refine SK.out.mono ?_
        rintro e w9 ⟨rfl, h9⟩
        have NX := Lib.hid (II.out.on (M8.out.trans h9))
        clear h9
        go_wp2_with fail
        go_roundw
        case rel => exact ⟨j + 1, zs, ins, gz, cz, rfl, by go_num, by omega, _, NX.out⟩
        case measure => simp [intOf]; omega
      · rw [hsk] at SK
        have SK := Lib.hid SK
        go_wp2_with (first | (refine wpList_store_row rfl 36 _ _ rfl wr.heap.size #[.int .i64 kd, .int .i64 P, .int .i64 k, .int .i64 f] rfl rfl 36 _ D7.out (by kernel_rfl) rfl (by simp [Value.oneCell']) ?_) | (refine wpList_load_row rfl 36 _ rfl wr.heap.size rfl 36 _ _ _ D8.out Tryd.underlying36 rfl (by kernel_rfl) ?_))
        clear e7 e8 y0 y1 y2 y3
        refine SK.out.mono ?_
        rintro e w9 ⟨rfl, h9⟩
        have s9 := h9.size
        obtain ⟨wA, eA, hA, mA, sA⟩ := entry1 w9 (.cells #[.bool false] 4)
        obtain ⟨cA, fA, kA⟩ := box_cells hA
        obtain ⟨wB, eB⟩ : ∃ wB, wA.setCell ⟨w9.heap.size, 0, none⟩ (.bool false) = wB := ⟨_, rfl⟩
        have hB : BoxB w9.heap.size wB false := by rw [← eB]; exact boxB_set hA false
        have mB : More w9 wB := by rw [← eB]; exact Turned.setCell mA _ _ (fun z => by simp at z)
        have sB : wB.heap.size = w9.heap.size + 1 := by rw [← eB]; simpa [World.setCell] using sA
        obtain ⟨wC, eC, hC, mC, sC⟩ := entry1 wB (.cells #[.int .i64 0] 3)
        obtain ⟨cC, fC, kC⟩ := box_cells hC
        obtain ⟨wD, eD⟩ : ∃ wD, wC.setCell ⟨wB.heap.size, 0, none⟩ (.int .i64 0) = wD := ⟨_, rfl⟩
        have hD : BoxN wB.heap.size wD 0 := by rw [← eD]; exact setCell_one hC _
        have mD : More wB wD := by rw [← eD]; exact Turned.setCell mC _ _ (fun z => by simp at z)
        have sD : wD.heap.size = wB.heap.size + 1 := by rw [← eD]; simpa [World.setCell] using sC
        obtain ⟨wE, eE, hE, mE, sE⟩ := entry1 wD (.cells #[.slice none 0 0] 31)
        have m9E : More w9 wE := (mB.trans mD).trans mE
        have mrE : More wr wE := (M8.out.trans h9).trans m9E
        have K : PpK d w1.heap.size wr.heap.size (w.heap.size + 1) bt kd P k f q wE := ⟨mrE.block II.out.lb, (h9.trans m9E).block D8.out, mrE.block II.out.qb, II.out.sz.more mrE⟩
        have hblt := lt_of_heap II.out.lb
        have hqlt := lt_of_heap II.out.qb
        have hslt := II.out.sz.lt
        have nE : ∀ b, PpB w1.heap.size wr.heap.size (w.heap.size + 1) bt b → b ≠ w9.heap.size ∧ b ≠ wD.heap.size ∧ b ≠ wB.heap.size := by
          rintro b (rfl | rfl | rfl | rfl | rfl) <;> (refine ⟨?_, ?_, ?_⟩ <;> omega)
        have ne : w9.heap.size ≠ wD.heap.size ∧ w9.heap.size ≠ wB.heap.size ∧ wD.heap.size ≠ wB.heap.size := by refine ⟨?_, ?_, ?_⟩ <;> omega
        have HDZ : HdIn d.pg d.st zs.length := by rw [II.out.len]; exact HDN.out
        obtain ⟨ok', DO⟩ := pp_do SS.out.ok zs HDZ (by rw [II.out.len]; omega) II.out.ok kd P k f q wE w1.heap.size wr.heap.size w9.heap.size wD.heap.size (w.heap.size + 1) wB.heap.size bt (some ⟨gz, 0, none⟩) cz ⟨K, ⟨_, (mD.trans mE).block hB⟩, ⟨_, hE⟩, ⟨_, mE.block hD⟩⟩ nE ne (II.out.z.words.more mrE)
        obtain ⟨G', L', I', O'⟩ := step_ln HDN.out (c := k) (f := f) II.out.L II.out.I II.out.len hsk
        have hlen' : (pdoneV d.pg d.st kd P k f zs).2.length = n := O'.len.trans II.out.len
        have hlink : (pdoneV d.pg d.st kd P k f zs).1 = true → kd < 2 → headV d.pg d.st k f ≠ 0 := fun e hk => by
          unfold pdoneV plLinkV at e
          rw [if_pos hk] at e
          split at e
          · rename_i hh; exact hh.1
          · cases e
        have TOLD : Hid (∀ W, Ws W gw cw zs → Calls Tryd.prog 14 #[.agg d.cells, .slice (some ⟨gw, 0, none⟩) n cw, .agg #[.int .i64 kd, .int .i64 P, .int .i64 k, .int .i64 f]] W (fun e w' => e = .returned (.bool (pdoneV d.pg d.st kd P k f zs).1) ∧ Ws w' gw cw (pdoneV d.pg d.st kd P k f zs).2 ∧ Turned (fun b => b = gw) W w')) := Lib.hid fun W hW => by
          have h := fn_told SS.out.ok zs HDZ (by rw [II.out.len]; omega) II.out.L kd P k f (fun hk hp => by
            have hip := isPage_iff.1 hp
            have hin : wAt ins P = 0 := by
              have e := hsk
              unfold skipB at e
              have il := II.out.il
              rw [decide_eq_true hk, decide_eq_true hip.1, decide_eq_true (show P < (ins.length : Int) by omega)] at e
              simpa using e
            exact II.out.I.zero hp hin) gw cw W hW
          rw [II.out.len] at h
          exact h
        rw [II.out.len] at DO
        obtain ⟨zs', hzs'⟩ : ∃ zs', (pdoneV d.pg d.st kd P k f zs).2 = zs' := ⟨_, rfl⟩
        obtain ⟨yv, hyv⟩ : ∃ yv, (pdoneV d.pg d.st kd P k f zs).1 = yv := ⟨_, rfl⟩
        rw [hzs'] at DO TOLD ok' L' O' hlen'
        rw [hyv] at DO TOLD I' hlink
        have hall : plListV d.pg d.st k f zs' = listG d.pg d.st G' k f := list_is HDN.out L' k f
        obtain ⟨fs, hfs⟩ : ∃ fs, plFirstV d.pg d.st q (slotsC q).toNat 1 zs' = fs := ⟨_, rfl⟩
        rw [hall, hfs] at DO
        have LC : Hid (∀ W, Ws W gw cw zs' → Calls Tryd.prog 17 #[.agg d.cells, .slice (some ⟨gw, 0, none⟩) n cw, .int .i64 k, .int .i64 f] W (GaveL W (listG d.pg d.st G' k f))) := Lib.hid fun W hW => by
          have h := r10_List SS.out.ok zs' (by rw [hlen']; exact HDN.out) (by omega) L' gw cw k f W hW
          rw [hlen'] at h; exact h
        have FC : Hid (∀ W, Ws W gw cw zs' → Calls Tryd.prog 18 #[.agg d.cells, .slice (some ⟨gw, 0, none⟩) n cw, .int .i64 q] W (Gives W (.int .i64 fs))) := Lib.hid fun W hW => by
          have h := r10_First SS.out.ok zs' (by rw [hlen']; exact HDN.out) (by omega) L' gw cw q W hW
          rw [hlen', hfs] at h; exact h
        have hall2 : (listG d.pg d.st G' k f).length ≤ 256 := by
          unfold listG
          by_cases hz : headV d.pg d.st k f = 0
          · rw [if_pos hz]; simp
          · rw [if_neg hz]
            obtain ⟨ha, _⟩ := head_hd hz
            have := short HDN.out (L'.page _ ha) (L'.nodup _ ha)
            omega
        obtain ⟨all, hale⟩ : ∃ all, listG d.pg d.st G' k f = all := ⟨_, rfl⟩
        rw [hale] at DO LC hall2
        have SC : Hid (∀ W a4 c4 vl b1 b2, Rw b1 W (.slice a4 all.length c4) all → Rw b2 W vl all → Calls Tryd.prog 16 #[.slice a4 all.length c4, vl] W (Gives W (.bool true))) := Lib.hid fun W a4 c4 vl b1 b2 h1 h2 => rows_same all _ _ _ _ W (by omega) h1 h2
        have TC : Hid (∀ W gn cn, Rw 0 W (.slice (some ⟨gn, 0, none⟩) n cn) zs' → Ws W gw cw zs' → Calls Tryd.prog 16 #[.slice (some ⟨gn, 0, none⟩) n cn, .slice (some ⟨gw, 0, none⟩) n cw] W (Gives W (.bool true))) := Lib.hid fun W gn cn h1 h2 => by
          have h := rows_same zs' _ _ 0 0 W (by omega) h1 (h2.rw' (Nat.zero_le _))
          rw [hlen'] at h; exact h
        have DO := Lib.hid DO
        have ME := Lib.hid mrE
        have AE := Lib.hid ((h9.trans m9E).block D8.out)
        have HLEN := Lib.hid hlen'
        have HL' := Lib.hid L'
        have HI' := Lib.hid I'
        have HOK' := Lib.hid ok'
        have hgwl := II.out.wnt.lt
        have hgil := II.out.row.lt
        have hsz : wr.heap.size + 1 ≤ w9.heap.size := by omega
        have SZS := Lib.hid (And.intro sB (And.intro sD sE))
        clear s7 s8 s9 sA sB sC sD sE
        clear hA mA hB mB hC mC hD mD hE mE m9E mrE K nE ok' L' I' O' hale hfs hall hzs' hyv h9 D7 D8 ROW8 M8 SK
        go_wp2_with fail
        clear eA cA fA kA eB eC cC fC kC eD eE
        refine DO.out.mono ?_
        rintro e wF ⟨v1, v2, b, rfl, rN, tF, hbb, BX⟩
        obtain ⟨sB, sD, sE⟩ := SZS.out
        obtain ⟨an, cn, rfl, hrn⟩ := rN.reads
        obtain ⟨gn, rfl, hgn, _, _⟩ := hrn 0 (by rw [HLEN.out]; omega)
        have hrbl := lt_of_heap II.out.rb
        have hwr := II.out.more.size
        have hn2 := II.out.n2
        have hn1 := II.out.n1
        have hwE : wr.heap.size + 1 ≤ wE.heap.size ∧ w9.heap.size < wE.heap.size ∧ wB.heap.size < wE.heap.size ∧ wD.heap.size < wE.heap.size := by refine ⟨?_, ?_, ?_, ?_⟩ <;> omega
        have hBD : wr.heap.size + 1 ≤ wB.heap.size ∧ wr.heap.size + 1 ≤ wD.heap.size := by constructor <;> omega
        clear sB sD sE
        have RBF := Lib.hid ((tF.block (w1.heap.size + 1) (by omega) (by omega)).trans (ME.out.block II.out.rb))
        have AF := Lib.hid ((tF.block wr.heap.size (by omega) (by omega)).trans AE.out)
        have WF := Lib.hid ((II.out.wnt.more ME.out).keep tF (by omega))
        have ROWF := Lib.hid ((II.out.row.more ME.out).keep tF (by omega))
        have ZF := Lib.hid (Ws.of_rw rN)
        have TF := Lib.hid tF
        have BXF := Lib.hid BX
        have HGN := Lib.hid hgn
        have HW2 := Lib.hid (And.intro hwE (And.intro hBD (And.intro hrbl hwr)))
        have HN2 := Lib.hid hn2
        have HN1 := Lib.hid hn1
        have HLK := Lib.hid hlink
        rw [HLEN.out]
        clear rN tF BX hrn hgn hrbl hwr hwE hBD hn2 hn1 DO AE hgwl hgil hblt hqlt hslt ne hlink
        go_wp2_with (first | (first | (refine wpList_load_row rfl 30 _ rfl _ rfl 30 _ _ _ RBF.out Tryd.underlying30 rfl (by kernel_rfl) ?_) | (refine wpList_load_rowG rfl 30 _ rfl _ rfl 30 _ _ _ RBF.out Tryd.underlying30 rfl (by kernel_rfl) ?_)) | (refine wpList_load_row rfl 36 _ rfl wr.heap.size rfl 36 _ _ _ AF.out Tryd.underlying36 rfl (by kernel_rfl) ?_))
        refine (TOLD.out wF WF.out).mono ?_
        rintro e wG ⟨rfl, hG, tG⟩
        have WG := Lib.hid hG
        have TG := Lib.hid tG
        have AGq := Lib.hid (show wG.heap[wr.heap.size]? = some (.cells #[.int .i64 kd, .int .i64 P, .int .i64 k, .int .i64 f] 36 (0, 0)) from (tG.block wr.heap.size (lt_of_heap AF.out) (by have := II.out.wnt.lt; omega)).trans AF.out)
        have ROWG := Lib.hid (ROWF.out.keep tG (by have := HN1.out; omega))
        clear hG tG
        have hyb : yv = true ∨ yv = false := by cases yv <;> simp
        rcases hyb with rfl | rfl
        · have NOTE := fn_note w6.heap.size m ins kd P k f hil (fun hk _ _ => by
            have := (head_hd (HLK.out rfl hk)).2
            have := slots_b k
            omega) wG ROWG.out
          rw [HCI.out] at NOTE
          have NOTE := Lib.hid NOTE
          go_wp2_with (refine wpList_load_row rfl 36 _ rfl wr.heap.size rfl 36 _ _ _ AGq.out Tryd.underlying36 rfl (by kernel_rfl) ?_)
          refine NOTE.out.mono ?_
          rintro e w12 ⟨rfl, hrow, tH⟩
          have T12 : Hid (Turned (fun b => b = gw ∨ b = w6.heap.size) wF w12) := Lib.hid ((Turned.mono TG.out (fun _ _ z => .inl z)).trans (Turned.mono tH (fun _ _ z => .inr z)))
          have W12 := Lib.hid (WG.out.keep tH HN1.out.2.1)
          have R12 := Lib.hid hrow
          clear hrow tH NOTE
          obtain ⟨hwE, hBD, hrbl, hwr⟩ := HW2.out
          obtain ⟨ins', hins'⟩ : ∃ ins', (noteV ins kd P k f) = ins' := ⟨_, rfl⟩
          have hI' : InL d.pg d.st G' ins' := by rw [← hins']; exact HI'.out
          have hR12 : Ws w12 w6.heap.size m ins' := by rw [← hins']; exact R12.out
          have hgwl := II.out.wnt.lt
          have hgil := II.out.row.lt
          obtain ⟨hn11, hn12, hn13⟩ := HN1.out
          have hn2 := HN2.out
          have TR : Turned (fun b => b = gw ∨ b = w6.heap.size) wr w12 := Turned.mono ((Turned.mono ME.out (S' := fun b => (b = w9.heap.size ∨ b = wD.heap.size ∨ b = wB.heap.size) ∨ b = gw ∨ b = w6.heap.size) (fun _ _ z => z.elim)).trans ((Turned.mono TF.out (fun _ _ z => .inl z)).trans (Turned.mono T12.out (fun _ _ z => .inr z)))) (fun b hb z => by
            rcases z with z | z
            · omega
            · exact z)
          have hlow : ∀ b, b < w.heap.size → b ≠ gw ∧ b ≠ w6.heap.size := fun b hb => hn2 b (.inr (.inr (.inr (.inr (.inr hb)))))
          have M12 : More w w12 := Turned.mono (turned_own (F := fun _ => False) II.out.more TR (fun b z => .inr (by
            rcases z with rfl | rfl
            · apply Classical.byContradiction; intro q; exact (hlow _ (by omega)).1 rfl
            · apply Classical.byContradiction; intro q; exact (hlow _ (by omega)).2 rfl))) (fun _ _ z => z)
          have kb : ∀ b, (b = w1.heap.size ∨ b = w1.heap.size + 1 ∨ b = w.heap.size + 1 ∨ b = 0 ∨ b = bt ∨ b < w.heap.size) → ¬ (b = gw ∨ b = w6.heap.size) := fun b hb z => by
            have := hn2 b hb
            omega
          have LB12 := (TR.block _ (lt_of_heap II.out.lb) (kb _ (.inl rfl))).trans II.out.lb
          have RB12 := (TR.block _ (lt_of_heap II.out.rb) (kb _ (.inr (.inl rfl)))).trans II.out.rb
          have QB12 := (TR.block _ (lt_of_heap II.out.qb) (kb _ (.inr (.inr (.inl rfl))))).trans II.out.qb
          have SZ12 := II.out.sz.keep TR (kb _ (.inr (.inr (.inr (.inl rfl))))) (kb _ (.inr (.inr (.inr (.inr (.inl rfl))))))
          have hwF : wE.heap.size ≤ wF.heap.size := TF.out.size
          have Z12 := ZF.out.keep T12.out (by have := HGN.out; omega)
          have AB := Lib.hid ((T12.out.block wr.heap.size (by omega) (by omega)).trans AF.out)
          have B3 := Lib.hid ((T12.out.block _ (lt_of_heap BXF.out.1) (by omega)).trans BXF.out.1)
          have B6 := Lib.hid ((T12.out.block _ (lt_of_heap BXF.out.2.2) (by omega)).trans BXF.out.2.2)
          obtain ⟨va, bx4, ra⟩ := BXF.out.2.1
          obtain ⟨a4, c4, rfl, _⟩ := ra.reads
          have B4 := Lib.hid ((T12.out.block _ (lt_of_heap bx4) (by omega)).trans bx4)
          have RA : Hid (Rw b w12 (.slice a4 all.length c4) all) := Lib.hid (ra.keepT T12.out (fun kk e => by have := (Rw.own ra e).1; omega))
          have RN : Hid (Rw 0 w12 (.slice (some ⟨gn, 0, none⟩) n cn) zs') := Lib.hid (by have h := Z12.rw' (base := 0) (Nat.zero_le _); rw [HLEN.out] at h; exact h)
          have NEXTI : Hid (∀ W, More w12 W → (j + 1 ≤ l.length ∧ ∃ G, PqI w W d (some ⟨s, o, none⟩) capl l w1.heap.size (w1.heap.size + 1) (w.heap.size + 1) bt q G n gw cw w6.heap.size m zs' ins' gn cn)) := Lib.hid fun W hW => ⟨by omega, G', PqI.on { len := HLEN.out, ok := HOK'.out, L := HL'.out, I := hI', z := Z12, wnt := W12.out, row := hR12, il := hI'.len, lb := LB12, rb := RB12, qb := QB12, sz := SZ12, acts := HLL.out.more M12, n1 := ⟨by have := HGN.out; omega, hn12, by have := HGN.out; omega⟩, n2 := hn2, more := M12 } hW⟩
          have WW := W12
          have KC : Hid (∀ W, More w12 W → More w12 W) := Lib.hid fun _ h => h
          have RB := Lib.hid RB12
          have X3 := Lib.hid (box_cells B3.out).1
          have X4 := Lib.hid (box_cells B4.out).1
          have X6 := Lib.hid (box_cells B6.out).1
          have X5 := Lib.hid (box_cells QB12).1
          have X22 := Lib.hid (box4 AB.out).2.2.1
          have X23 := Lib.hid (box4 AB.out).2.2.2
          clear hwE hBD hrbl hwr hI' hR12 hgwl hgil hn11 hn12 hn13 hn2 TR hlow M12 kb LB12 RB12 QB12 SZ12 hwF Z12 ra bx4 hins'
          go_wp2_with fail
          refine wp_region_anyC (More w12) (by kernel_rfl) ?_
          have MR : Hid (More w12 (w12.drewN 1)) := Lib.hid ((More.refl w12).drewN 1)
          change anyC _ _ _ _ _ _ _ _ (w12.drewN 1)
          generalize w12.drewN 1 = wq at MR ⊢
          generalize hA : Act.mk _ _ = A
          have HF : AG 101 A [(5, .pointer (some ⟨w.heap.size + 1, 0, none⟩)), (8, .pointer (some ⟨w1.heap.size + 1, 0, none⟩)), (10, .slice (some ⟨gw, 0, none⟩) n cw), (13, .pointer (some ⟨wr.heap.size, 0, none⟩)), (14, .pointer (some ⟨w9.heap.size, 0, none⟩)), (15, .pointer (some ⟨wB.heap.size, 0, none⟩)), (16, .pointer (some ⟨wD.heap.size, 0, none⟩)), (17, (.slice (some ⟨gn, 0, none⟩) n cn)), (19, .int .i64 0), (20, .bool true)] := by
            rw [← hA]
            refine ⟨⟨Nat.le_of_ble_eq_true rfl, rfl⟩, ?_⟩
            intro z hz; simp only [List.mem_cons, List.not_mem_nil, or_false] at hz; rcases hz with rfl | rfl | rfl | rfl | rfl | rfl | rfl | rfl | rfl | rfl <;> rfl
          refine anyC_start (fun a W => ∃ (u66 u67 u68 u69 u70 u71 u72 u73 u74 u75 u76 u77 u78 u79 u80 u81 u82 u83 u84 u85 u86 u87 u88 u89 u90 u91 u92 u93 u94 u95 u96 u97 : Value), a = (Act.put (Act.put (Act.put (Act.put (Act.put (Act.put (Act.put (Act.put (Act.put (Act.put (Act.put (Act.put (Act.put (Act.put (Act.put (Act.put (Act.put (Act.put (Act.put (Act.put (Act.put (Act.put (Act.put (Act.put (Act.put (Act.put (Act.put (Act.put (Act.put (Act.put (Act.put (Act.put (Act.put A (some 66) u66) (some 67) u67) (some 68) u68) (some 69) u69) (some 70) u70) (some 71) u71) (some 72) u72) (some 73) u73) (some 74) u74) (some 75) u75) (some 76) u76) (some 77) u77) (some 78) u78) (some 79) u79) (some 80) u80) (some 81) u81) (some 82) u82) (some 83) u83) (some 84) u84) (some 85) u85) (some 86) u86) (some 87) u87) (some 88) u88) (some 89) u89) (some 90) u90) (some 91) u91) (some 92) u92) (some 93) u93) (some 94) u94) (some 95) u95) (some 96) u96) (some 97) u97) (some 98) (.bool false)) ∧ More w12 W) (fun _ => False) [] (fun a W hd h => h.elim) (fun _ _ _ _ _ h => h) ?_ ?_
          · skip
            rintro a9 wb ⟨u66, u67, u68, u69, u70, u71, u72, u73, u74, u75, u76, u77, u78, u79, u80, u81, u82, u83, u84, u85, u86, u87, u88, u89, u90, u91, u92, u93, u94, u95, u96, u97, rfl, hT⟩
            rw [← hA]
            have FIN := Lib.hid (NEXTI.out wb hT)
            clear HF hA MR hT
            go_simp
            go_wp2_with fail
            go_roundw
            case rel => exact ⟨j + 1, zs', ins', gn, cn, rfl, by go_num, FIN.out⟩
            case measure => simp [intOf]; omega
          intro QQ FINE FIND FINQ
          clear hA
          refine anyC_takeD (i := 0) (v := .int .i64 0) (some 66) rfl rfl (by kernel_rfl) (by kernel_rfl) (by kernel_rfl) (fun c a w => FINQ c a _ _ w) (KC.out _ MR.out) (by exact yieldsC_moveG (wanted_none rfl) _ rfl (HF.get 8 rfl)) ?_
          replace HF := HF.put 66 (.int .i64 0) (by decide) rfl
          generalize hB1_66 : Act.put _ _ _ = A at HF ⊢
          refine anyC_takeD (i := 1) (v := .bool false) (some 67) rfl rfl (by kernel_rfl) (by kernel_rfl) (by kernel_rfl) (fun c a w => FINQ c a _ _ w) (KC.out _ MR.out) (by exact (Or.inl ⟨(wanted_none rfl), fun W hW => by have h5 := (HF.getD 0 rfl); go_simp⟩)) ?_
          replace HF := HF.put 67 (.bool false) (by decide) rfl
          generalize hB2_67 : Act.put _ _ _ = A at HF ⊢
          refine anyC_takeD (i := 2) (v := .bool false) (some 68) rfl rfl (by kernel_rfl) (by kernel_rfl) (by kernel_rfl) (fun c a w => FINQ c a _ _ w) (KC.out _ MR.out) (by exact yieldsC_moveG (wanted_none rfl) _ rfl (HF.get 0 rfl)) ?_
          replace HF := HF.put 68 (.bool false) (by decide) rfl
          generalize hB3_68 : Act.put _ _ _ = A at HF ⊢
          refine anyC_takeD (i := 3) (v := .bool true) (some 69) rfl rfl (by kernel_rfl) (by kernel_rfl) (by kernel_rfl) (fun c a w => FINQ c a _ _ w) (KC.out _ MR.out) (by exact yieldsC_cell (C := (More w12)) (wanted_g 2 false 68 rfl rfl (HF.at (by decide) 0 rfl)) 4 _ rfl (w9.heap.size) 0 (HF.get 7 rfl) (.bool true) _ Tryd.underlying4 rfl (fun W hW => hW.cell X3.out)) ?_
          replace HF := HF.put 69 (.bool true) (by decide) rfl
          generalize hB4_69 : Act.put _ _ _ = A at HF ⊢
          refine anyC_takeD (i := 4) (v := .bool true) (some 70) rfl rfl (by kernel_rfl) (by kernel_rfl) (by kernel_rfl) (fun c a w => FINQ c a _ _ w) (KC.out _ MR.out) (by exact yieldsC_moveG (wanted_g 2 false 68 rfl rfl (HF.at (by decide) 1 rfl)) _ rfl (HF.get 13 rfl)) ?_
          replace HF := HF.put 70 (.bool true) (by decide) rfl
          generalize hB5_70 : Act.put _ _ _ = A at HF ⊢
          refine anyC_takeD (i := 5) (v := .bool false) (some 71) rfl rfl (by kernel_rfl) (by kernel_rfl) (by kernel_rfl) (fun c a w => FINQ c a _ _ w) (KC.out _ MR.out) (by exact yieldsC_neqB (wanted_g 2 false 68 rfl rfl (HF.at (by decide) 2 rfl)) rfl (HF.get 1 rfl) (HF.get 0 rfl)) ?_
          replace HF := HF.put 71 (.bool false) (by decide) rfl
          generalize hB6_71 : Act.put _ _ _ = A at HF ⊢
          refine anyC_takeD (i := 6) (v := .bool false) (some 72) rfl rfl (by kernel_rfl) (by kernel_rfl) (by kernel_rfl) (fun c a w => FINQ c a _ _ w) (KC.out _ MR.out) (by exact yieldsC_pickF (wanted_none rfl) rfl (HF.get 3 rfl) (HF.get 0 rfl)) ?_
          replace HF := HF.put 72 (.bool false) (by decide) rfl
          generalize hB7_72 : Act.put _ _ _ = A at HF ⊢
          refine anyC_takeD (i := 7) (v := .bool false) (some 73) rfl rfl (by kernel_rfl) (by kernel_rfl) (by kernel_rfl) (fun c a w => FINQ c a _ _ w) (KC.out _ MR.out) (by exact yieldsC_moveG (wanted_none rfl) _ rfl (HF.get 0 rfl)) ?_
          replace HF := HF.put 73 (.bool false) (by decide) rfl
          generalize hB8_73 : Act.put _ _ _ = A at HF ⊢
          refine anyC_takeD (i := 8) (v := .slice a4 all.length c4) (some 74) rfl rfl (by kernel_rfl) (by kernel_rfl) (by kernel_rfl) (fun c a w => FINQ c a _ _ w) (KC.out _ MR.out) (by exact yieldsC_cell (C := (More w12)) (wanted_g 7 false 73 rfl rfl (HF.at (by decide) 0 rfl)) 31 _ rfl (wD.heap.size) 0 (HF.get 14 rfl) (.slice a4 all.length c4) _ Tryd.underlying31 rfl (fun W hW => hW.cell X4.out)) ?_
          replace HF := HF.put 74 (.slice a4 all.length c4) (by decide) rfl
          generalize hB9_74 : Act.put _ _ _ = A at HF ⊢
          refine anyC_takeD (i := 9) (v := .agg d.cells) (some 75) rfl rfl (by kernel_rfl) (by kernel_rfl) (by kernel_rfl) (fun c a w => FINQ c a _ _ w) (KC.out _ MR.out) (by exact yieldsC_row (C := (More w12)) (wanted_g 7 false 73 rfl rfl (HF.at (by decide) 1 rfl)) 30 _ rfl (w1.heap.size + 1) (HF.get 10 rfl) 30 _ _ _ (fun W hW => hW.block RB.out) Tryd.underlying30 rfl (by kernel_rfl)) ?_
          replace HF := HF.put 75 (.agg d.cells) (by decide) rfl
          generalize hB10_75 : Act.put _ _ _ = A at HF ⊢
          refine anyC_takeD (i := 10) (v := .slice (some ⟨gw, 0, none⟩) n cw) (some 76) rfl rfl (by kernel_rfl) (by kernel_rfl) (by kernel_rfl) (fun c a w => FINQ c a _ _ w) (KC.out _ MR.out) (by exact yieldsC_moveG (wanted_g 7 false 73 rfl rfl (HF.at (by decide) 2 rfl)) _ rfl (HF.get 12 rfl)) ?_
          replace HF := HF.put 76 (.slice (some ⟨gw, 0, none⟩) n cw) (by decide) rfl
          generalize hB11_76 : Act.put _ _ _ = A at HF ⊢
          refine anyC_takeD (i := 11) (v := .pointer (some ⟨wr.heap.size, 2, none⟩)) (some 77) rfl rfl (by kernel_rfl) (by kernel_rfl) (by kernel_rfl) (fun c a w => FINQ c a _ _ w) (KC.out _ MR.out) (by exact (Or.inl ⟨(wanted_g 7 false 73 rfl rfl (HF.at (by decide) 3 rfl)), fun W hW => by have h5 := (HF.getD 14 rfl); go_simp⟩)) ?_
          replace HF := HF.put 77 (.pointer (some ⟨wr.heap.size, 2, none⟩)) (by decide) rfl
          generalize hB12_77 : Act.put _ _ _ = A at HF ⊢
          refine anyC_takeD (i := 12) (v := .int .i64 k) (some 78) rfl rfl (by kernel_rfl) (by kernel_rfl) (by kernel_rfl) (fun c a w => FINQ c a _ _ w) (KC.out _ MR.out) (by exact yieldsC_cell (C := (More w12)) (wanted_g 7 false 73 rfl rfl (HF.at (by decide) 4 rfl)) 3 _ rfl (wr.heap.size) 2 (HF.get 0 rfl) (.int .i64 k) _ Tryd.underlying3 rfl (fun W hW => hW.cell X22.out)) ?_
          replace HF := HF.put 78 (.int .i64 k) (by decide) rfl
          generalize hB13_78 : Act.put _ _ _ = A at HF ⊢
          refine anyC_takeD (i := 13) (v := .pointer (some ⟨wr.heap.size, 3, none⟩)) (some 79) rfl rfl (by kernel_rfl) (by kernel_rfl) (by kernel_rfl) (fun c a w => FINQ c a _ _ w) (KC.out _ MR.out) (by exact (Or.inl ⟨(wanted_g 7 false 73 rfl rfl (HF.at (by decide) 5 rfl)), fun W hW => by have h5 := (HF.getD 16 rfl); go_simp⟩)) ?_
          replace HF := HF.put 79 (.pointer (some ⟨wr.heap.size, 3, none⟩)) (by decide) rfl
          generalize hB14_79 : Act.put _ _ _ = A at HF ⊢
          refine anyC_takeD (i := 14) (v := .int .i64 f) (some 80) rfl rfl (by kernel_rfl) (by kernel_rfl) (by kernel_rfl) (fun c a w => FINQ c a _ _ w) (KC.out _ MR.out) (by exact yieldsC_cell (C := (More w12)) (wanted_g 7 false 73 rfl rfl (HF.at (by decide) 6 rfl)) 3 _ rfl (wr.heap.size) 3 (HF.get 0 rfl) (.int .i64 f) _ Tryd.underlying3 rfl (fun W hW => hW.cell X23.out)) ?_
          replace HF := HF.put 80 (.int .i64 f) (by decide) rfl
          generalize hB15_80 : Act.put _ _ _ = A at HF ⊢
          refine anyC_oneK (i := 15) (some 81) (by kernel_rfl) rfl (wanted_g 7 false 73 rfl rfl (HF.at (by decide) 7 rfl)) rfl (fun K hK => ?_)
          refine wp_call4 (v0 := .agg d.cells) (v1 := .slice (some ⟨gw, 0, none⟩) n cw) (v2 := .int .i64 k) (v3 := .int .i64 f) rfl (HF.get 5 rfl) (HF.get 4 rfl) (HF.get 2 rfl) (HF.get 0 rfl) (enters_of Tryd.func17 (by kernel_rfl) rfl) ?_
          refine (LC.out wq (WW.out.more MR.out)).mono ?_
          rintro e v2 ⟨vl, rfl, hl2, m2, _⟩
          have M2 := Lib.hid (MR.out.trans m2)
          have RL := Lib.hid hl2
          clear hl2 m2
          refine hK _ _ (KC.out _ M2.out) ?_
          clear hK K
          replace HF := HF.put 81 (vl) (by decide) rfl
          generalize hB16_81 : Act.put _ _ _ = A at HF ⊢
          refine anyC_oneK (i := 16) (some 82) (by kernel_rfl) rfl (wanted_g 7 false 73 rfl rfl (HF.at (by decide) 8 rfl)) rfl (fun K hK => ?_)
          refine wp_call2 (v0 := .slice a4 all.length c4) (v1 := vl) rfl (HF.get 7 rfl) (HF.get 0 rfl) (enters_of Tryd.func16 (by kernel_rfl) rfl) ?_
          refine (SC.out v2 _ _ vl _ _ (Rw.more RA.out M2.out) RL.out).mono ?_
          rintro e v3 ⟨rfl, h3⟩
          have M3 := Lib.hid (M2.out.trans h3)
          clear h3
          refine hK _ _ (KC.out _ M3.out) ?_
          clear hK K
          replace HF := HF.put 82 (.bool true) (by decide) rfl
          generalize hB17_82 : Act.put _ _ _ = A at HF ⊢
          refine anyC_takeD (i := 17) (v := .bool false) (some 83) rfl rfl (by kernel_rfl) (by kernel_rfl) (by kernel_rfl) (fun c a w => FINQ c a _ _ w) (KC.out _ M3.out) (by exact yieldsC_not (wanted_g 7 false 73 rfl rfl (HF.at (by decide) 9 rfl)) rfl (HF.get 0 rfl)) ?_
          replace HF := HF.put 83 (.bool false) (by decide) rfl
          generalize hB18_83 : Act.put _ _ _ = A at HF ⊢
          refine anyC_takeD (i := 18) (v := .bool false) (some 84) rfl rfl (by kernel_rfl) (by kernel_rfl) (by kernel_rfl) (fun c a w => FINQ c a _ _ w) (KC.out _ M3.out) (by exact yieldsC_pickF (wanted_none rfl) rfl (HF.get 10 rfl) (HF.get 0 rfl)) ?_
          replace HF := HF.put 84 (.bool false) (by decide) rfl
          generalize hB19_84 : Act.put _ _ _ = A at HF ⊢
          refine anyC_takeD (i := 19) (v := .bool false) (some 85) rfl rfl (by kernel_rfl) (by kernel_rfl) (by kernel_rfl) (fun c a w => FINQ c a _ _ w) (KC.out _ M3.out) (by exact yieldsC_moveG (wanted_none rfl) _ rfl (HF.get 0 rfl)) ?_
          replace HF := HF.put 85 (.bool false) (by decide) rfl
          generalize hB20_85 : Act.put _ _ _ = A at HF ⊢
          refine anyC_takeD (i := 20) (v := .int .i64 fs) (some 86) rfl rfl (by kernel_rfl) (by kernel_rfl) (by kernel_rfl) (fun c a w => FINQ c a _ _ w) (KC.out _ M3.out) (by exact yieldsC_cell (C := (More w12)) (wanted_g 19 false 85 rfl rfl (HF.at (by decide) 0 rfl)) 3 _ rfl (wB.heap.size) 0 (HF.get 25 rfl) (.int .i64 fs) _ Tryd.underlying3 rfl (fun W hW => hW.cell X6.out)) ?_
          replace HF := HF.put 86 (.int .i64 fs) (by decide) rfl
          generalize hB21_86 : Act.put _ _ _ = A at HF ⊢
          refine anyC_takeD (i := 21) (v := .agg d.cells) (some 87) rfl rfl (by kernel_rfl) (by kernel_rfl) (by kernel_rfl) (fun c a w => FINQ c a _ _ w) (KC.out _ M3.out) (by exact yieldsC_row (C := (More w12)) (wanted_g 19 false 85 rfl rfl (HF.at (by decide) 1 rfl)) 30 _ rfl (w1.heap.size + 1) (HF.get 22 rfl) 30 _ _ _ (fun W hW => hW.block RB.out) Tryd.underlying30 rfl (by kernel_rfl)) ?_
          replace HF := HF.put 87 (.agg d.cells) (by decide) rfl
          generalize hB22_87 : Act.put _ _ _ = A at HF ⊢
          refine anyC_takeD (i := 22) (v := .slice (some ⟨gw, 0, none⟩) n cw) (some 88) rfl rfl (by kernel_rfl) (by kernel_rfl) (by kernel_rfl) (fun c a w => FINQ c a _ _ w) (KC.out _ M3.out) (by exact yieldsC_moveG (wanted_g 19 false 85 rfl rfl (HF.at (by decide) 2 rfl)) _ rfl (HF.get 24 rfl)) ?_
          replace HF := HF.put 88 (.slice (some ⟨gw, 0, none⟩) n cw) (by decide) rfl
          generalize hB23_88 : Act.put _ _ _ = A at HF ⊢
          refine anyC_takeD (i := 23) (v := .int .i64 q) (some 89) rfl rfl (by kernel_rfl) (by kernel_rfl) (by kernel_rfl) (fun c a w => FINQ c a _ _ w) (KC.out _ M3.out) (by exact yieldsC_cell (C := (More w12)) (wanted_g 19 false 85 rfl rfl (HF.at (by decide) 3 rfl)) 3 _ rfl (w.heap.size + 1) 0 (HF.get 23 rfl) (.int .i64 q) _ Tryd.underlying3 rfl (fun W hW => hW.cell X5.out)) ?_
          replace HF := HF.put 89 (.int .i64 q) (by decide) rfl
          generalize hB24_89 : Act.put _ _ _ = A at HF ⊢
          refine anyC_oneK (i := 24) (some 90) (by kernel_rfl) rfl (wanted_g 19 false 85 rfl rfl (HF.at (by decide) 4 rfl)) rfl (fun K hK => ?_)
          refine wp_call3 (v0 := .agg d.cells) (v1 := .slice (some ⟨gw, 0, none⟩) n cw) (v2 := .int .i64 q) rfl (HF.get 2 rfl) (HF.get 1 rfl) (HF.get 0 rfl) (enters_of Tryd.func18 (by kernel_rfl) rfl) ?_
          refine (FC.out v3 (WW.out.more M3.out)).mono ?_
          rintro e v4 ⟨rfl, h4⟩
          have M4 := Lib.hid (M3.out.trans h4)
          clear h4
          refine hK _ _ (KC.out _ M4.out) ?_
          clear hK K
          replace HF := HF.put 90 (.int .i64 fs) (by decide) rfl
          generalize hB25_90 : Act.put _ _ _ = A at HF ⊢
          refine anyC_takeD (i := 25) (v := .bool false) (some 91) rfl rfl (by kernel_rfl) (by kernel_rfl) (by kernel_rfl) (fun c a w => FINQ c a _ _ w) (KC.out _ M4.out) (by exact yieldsC_neqI (wanted_g 19 false 85 rfl rfl (HF.at (by decide) 5 rfl)) rfl (HF.get 4 rfl) (HF.get 0 rfl) false (by simp)) ?_
          replace HF := HF.put 91 (.bool false) (by decide) rfl
          generalize hB26_91 : Act.put _ _ _ = A at HF ⊢
          refine anyC_takeD (i := 26) (v := .bool false) (some 92) rfl rfl (by kernel_rfl) (by kernel_rfl) (by kernel_rfl) (fun c a w => FINQ c a _ _ w) (KC.out _ M4.out) (by exact yieldsC_pickF (wanted_none rfl) rfl (HF.get 6 rfl) (HF.get 0 rfl)) ?_
          replace HF := HF.put 92 (.bool false) (by decide) rfl
          generalize hB27_92 : Act.put _ _ _ = A at HF ⊢
          refine anyC_takeD (i := 27) (v := .bool false) (some 93) rfl rfl (by kernel_rfl) (by kernel_rfl) (by kernel_rfl) (fun c a w => FINQ c a _ _ w) (KC.out _ M4.out) (by exact yieldsC_moveG (wanted_none rfl) _ rfl (HF.get 0 rfl)) ?_
          replace HF := HF.put 93 (.bool false) (by decide) rfl
          generalize hB28_93 : Act.put _ _ _ = A at HF ⊢
          refine anyC_takeD (i := 28) (v := (.slice (some ⟨gn, 0, none⟩) n cn)) (some 94) rfl rfl (by kernel_rfl) (by kernel_rfl) (by kernel_rfl) (fun c a w => FINQ c a _ _ w) (KC.out _ M4.out) (by exact yieldsC_moveG (wanted_g 27 false 93 rfl rfl (HF.at (by decide) 0 rfl)) _ rfl (HF.get 35 rfl)) ?_
          replace HF := HF.put 94 ((.slice (some ⟨gn, 0, none⟩) n cn)) (by decide) rfl
          generalize hB29_94 : Act.put _ _ _ = A at HF ⊢
          refine anyC_takeD (i := 29) (v := .slice (some ⟨gw, 0, none⟩) n cw) (some 95) rfl rfl (by kernel_rfl) (by kernel_rfl) (by kernel_rfl) (fun c a w => FINQ c a _ _ w) (KC.out _ M4.out) (by exact yieldsC_moveG (wanted_g 27 false 93 rfl rfl (HF.at (by decide) 1 rfl)) _ rfl (HF.get 31 rfl)) ?_
          replace HF := HF.put 95 (.slice (some ⟨gw, 0, none⟩) n cw) (by decide) rfl
          generalize hB30_95 : Act.put _ _ _ = A at HF ⊢
          refine anyC_oneK (i := 30) (some 96) (by kernel_rfl) rfl (wanted_g 27 false 93 rfl rfl (HF.at (by decide) 2 rfl)) rfl (fun K hK => ?_)
          refine wp_call2 (v0 := (.slice (some ⟨gn, 0, none⟩) n cn)) (v1 := .slice (some ⟨gw, 0, none⟩) n cw) rfl (HF.get 1 rfl) (HF.get 0 rfl) (enters_of Tryd.func16 (by kernel_rfl) rfl) ?_
          refine (TC.out v4 _ _ (Rw.more RN.out M4.out) (WW.out.more M4.out)).mono ?_
          rintro e v5 ⟨rfl, h5⟩
          have M5 := Lib.hid (M4.out.trans h5)
          clear h5
          refine hK _ _ (KC.out _ M5.out) ?_
          clear hK K
          replace HF := HF.put 96 (.bool true) (by decide) rfl
          generalize hB31_96 : Act.put _ _ _ = A at HF ⊢
          refine anyC_takeD (i := 31) (v := .bool false) (some 97) rfl rfl (by kernel_rfl) (by kernel_rfl) (by kernel_rfl) (fun c a w => FINQ c a _ _ w) (KC.out _ M5.out) (by exact yieldsC_not (wanted_g 27 false 93 rfl rfl (HF.at (by decide) 3 rfl)) rfl (HF.get 0 rfl)) ?_
          replace HF := HF.put 97 (.bool false) (by decide) rfl
          generalize hB32_97 : Act.put _ _ _ = A at HF ⊢
          refine anyC_takeD (i := 32) (v := .bool false) (some 98) rfl rfl (by kernel_rfl) (by kernel_rfl) (by kernel_rfl) (fun c a w => FINQ c a _ _ w) (KC.out _ M5.out) (by exact yieldsC_pickF (wanted_none rfl) rfl (HF.get 4 rfl) (HF.get 0 rfl)) ?_
          replace HF := HF.put 98 (.bool false) (by decide) rfl
          generalize hB33_98 : Act.put _ _ _ = A at HF ⊢
          exact anyC_done (by kernel_rfl) (FINE _ _ ⟨(.int .i64 0), (.bool false), (.bool false), (.bool true), (.bool true), (.bool false), (.bool false), (.bool false), (.slice a4 all.length c4), (.agg d.cells), (.slice (some ⟨gw, 0, none⟩) n cw), (.pointer (some ⟨wr.heap.size, 2, none⟩)), (.int .i64 k), (.pointer (some ⟨wr.heap.size, 3, none⟩)), (.int .i64 f), (vl), (.bool true), (.bool false), (.bool false), (.bool false), (.int .i64 fs), (.agg d.cells), (.slice (some ⟨gw, 0, none⟩) n cw), (.int .i64 q), (.int .i64 fs), (.bool false), (.bool false), (.bool false), ((.slice (some ⟨gn, 0, none⟩) n cn)), (.slice (some ⟨gw, 0, none⟩) n cw), (.bool true), (.bool false), by rw [← hB33_98, ← hB32_97, ← hB31_96, ← hB30_95, ← hB29_94, ← hB28_93, ← hB27_92, ← hB26_91, ← hB25_90, ← hB24_89, ← hB23_88, ← hB22_87, ← hB21_86, ← hB20_85, ← hB19_84, ← hB18_83, ← hB17_82, ← hB16_81, ← hB15_80, ← hB14_79, ← hB13_78, ← hB12_77, ← hB11_76, ← hB10_75, ← hB9_74, ← hB8_73, ← hB7_72, ← hB6_71, ← hB5_70, ← hB4_69, ← hB3_68, ← hB2_67, ← hB1_66], M5.out⟩)
        · obtain ⟨w12, rfl⟩ : ∃ w12, w12 = wG := ⟨_, rfl⟩
          have T12 : Hid (Turned (fun b => b = gw ∨ b = w6.heap.size) wF w12) := Lib.hid (Turned.mono TG.out (fun _ _ z => .inl z))
          have W12 := WG
          have R12 := ROWG
          obtain ⟨hwE, hBD, hrbl, hwr⟩ := HW2.out
          obtain ⟨ins', hins'⟩ : ∃ ins', ins = ins' := ⟨_, rfl⟩
          have hI' : InL d.pg d.st G' ins' := by rw [← hins']; exact HI'.out
          have hR12 : Ws w12 w6.heap.size m ins' := by rw [← hins']; exact R12.out
          have hgwl := II.out.wnt.lt
          have hgil := II.out.row.lt
          obtain ⟨hn11, hn12, hn13⟩ := HN1.out
          have hn2 := HN2.out
          have TR : Turned (fun b => b = gw ∨ b = w6.heap.size) wr w12 := Turned.mono ((Turned.mono ME.out (S' := fun b => (b = w9.heap.size ∨ b = wD.heap.size ∨ b = wB.heap.size) ∨ b = gw ∨ b = w6.heap.size) (fun _ _ z => z.elim)).trans ((Turned.mono TF.out (fun _ _ z => .inl z)).trans (Turned.mono T12.out (fun _ _ z => .inr z)))) (fun b hb z => by
            rcases z with z | z
            · omega
            · exact z)
          have hlow : ∀ b, b < w.heap.size → b ≠ gw ∧ b ≠ w6.heap.size := fun b hb => hn2 b (.inr (.inr (.inr (.inr (.inr hb)))))
          have M12 : More w w12 := Turned.mono (turned_own (F := fun _ => False) II.out.more TR (fun b z => .inr (by
            rcases z with rfl | rfl
            · apply Classical.byContradiction; intro q; exact (hlow _ (by omega)).1 rfl
            · apply Classical.byContradiction; intro q; exact (hlow _ (by omega)).2 rfl))) (fun _ _ z => z)
          have kb : ∀ b, (b = w1.heap.size ∨ b = w1.heap.size + 1 ∨ b = w.heap.size + 1 ∨ b = 0 ∨ b = bt ∨ b < w.heap.size) → ¬ (b = gw ∨ b = w6.heap.size) := fun b hb z => by
            have := hn2 b hb
            omega
          have LB12 := (TR.block _ (lt_of_heap II.out.lb) (kb _ (.inl rfl))).trans II.out.lb
          have RB12 := (TR.block _ (lt_of_heap II.out.rb) (kb _ (.inr (.inl rfl)))).trans II.out.rb
          have QB12 := (TR.block _ (lt_of_heap II.out.qb) (kb _ (.inr (.inr (.inl rfl))))).trans II.out.qb
          have SZ12 := II.out.sz.keep TR (kb _ (.inr (.inr (.inr (.inl rfl))))) (kb _ (.inr (.inr (.inr (.inr (.inl rfl))))))
          have hwF : wE.heap.size ≤ wF.heap.size := TF.out.size
          have Z12 := ZF.out.keep T12.out (by have := HGN.out; omega)
          have AB := Lib.hid ((T12.out.block wr.heap.size (by omega) (by omega)).trans AF.out)
          have B3 := Lib.hid ((T12.out.block _ (lt_of_heap BXF.out.1) (by omega)).trans BXF.out.1)
          have B6 := Lib.hid ((T12.out.block _ (lt_of_heap BXF.out.2.2) (by omega)).trans BXF.out.2.2)
          obtain ⟨va, bx4, ra⟩ := BXF.out.2.1
          obtain ⟨a4, c4, rfl, _⟩ := ra.reads
          have B4 := Lib.hid ((T12.out.block _ (lt_of_heap bx4) (by omega)).trans bx4)
          have RA : Hid (Rw b w12 (.slice a4 all.length c4) all) := Lib.hid (ra.keepT T12.out (fun kk e => by have := (Rw.own ra e).1; omega))
          have RN : Hid (Rw 0 w12 (.slice (some ⟨gn, 0, none⟩) n cn) zs') := Lib.hid (by have h := Z12.rw' (base := 0) (Nat.zero_le _); rw [HLEN.out] at h; exact h)
          have NEXTI : Hid (∀ W, More w12 W → (j + 1 ≤ l.length ∧ ∃ G, PqI w W d (some ⟨s, o, none⟩) capl l w1.heap.size (w1.heap.size + 1) (w.heap.size + 1) bt q G n gw cw w6.heap.size m zs' ins' gn cn)) := Lib.hid fun W hW => ⟨by omega, G', PqI.on { len := HLEN.out, ok := HOK'.out, L := HL'.out, I := hI', z := Z12, wnt := W12.out, row := hR12, il := hI'.len, lb := LB12, rb := RB12, qb := QB12, sz := SZ12, acts := HLL.out.more M12, n1 := ⟨by have := HGN.out; omega, hn12, by have := HGN.out; omega⟩, n2 := hn2, more := M12 } hW⟩
          have WW := W12
          have KC : Hid (∀ W, More w12 W → More w12 W) := Lib.hid fun _ h => h
          have RB := Lib.hid RB12
          have X3 := Lib.hid (box_cells B3.out).1
          have X4 := Lib.hid (box_cells B4.out).1
          have X6 := Lib.hid (box_cells B6.out).1
          have X5 := Lib.hid (box_cells QB12).1
          have X22 := Lib.hid (box4 AB.out).2.2.1
          have X23 := Lib.hid (box4 AB.out).2.2.2
          clear hwE hBD hrbl hwr hI' hR12 hgwl hgil hn11 hn12 hn13 hn2 TR hlow M12 kb LB12 RB12 QB12 SZ12 hwF Z12 ra bx4 hins'
          go_wp2_with fail
          refine wp_region_anyC (More w12) (by kernel_rfl) ?_
          have MR : Hid (More w12 (w12.drewN 1)) := Lib.hid ((More.refl w12).drewN 1)
          change anyC _ _ _ _ _ _ _ _ (w12.drewN 1)
          generalize w12.drewN 1 = wq at MR ⊢
          generalize hA : Act.mk _ _ = A
          have HF : AG 101 A [(5, .pointer (some ⟨w.heap.size + 1, 0, none⟩)), (8, .pointer (some ⟨w1.heap.size + 1, 0, none⟩)), (10, .slice (some ⟨gw, 0, none⟩) n cw), (13, .pointer (some ⟨wr.heap.size, 0, none⟩)), (14, .pointer (some ⟨w9.heap.size, 0, none⟩)), (15, .pointer (some ⟨wB.heap.size, 0, none⟩)), (16, .pointer (some ⟨wD.heap.size, 0, none⟩)), (17, (.slice (some ⟨gn, 0, none⟩) n cn)), (19, .int .i64 0), (20, .bool false)] := by
            rw [← hA]
            refine ⟨⟨Nat.le_of_ble_eq_true rfl, rfl⟩, ?_⟩
            intro z hz; simp only [List.mem_cons, List.not_mem_nil, or_false] at hz; rcases hz with rfl | rfl | rfl | rfl | rfl | rfl | rfl | rfl | rfl | rfl <;> rfl
          refine anyC_start (fun a W => ∃ (u66 u67 u68 u69 u70 u71 u72 u73 u74 u75 u76 u77 u78 u79 u80 u81 u82 u83 u84 u85 u86 u87 u88 u89 u90 u91 u92 u93 u94 u95 u96 u97 : Value), a = (Act.put (Act.put (Act.put (Act.put (Act.put (Act.put (Act.put (Act.put (Act.put (Act.put (Act.put (Act.put (Act.put (Act.put (Act.put (Act.put (Act.put (Act.put (Act.put (Act.put (Act.put (Act.put (Act.put (Act.put (Act.put (Act.put (Act.put (Act.put (Act.put (Act.put (Act.put (Act.put (Act.put A (some 66) u66) (some 67) u67) (some 68) u68) (some 69) u69) (some 70) u70) (some 71) u71) (some 72) u72) (some 73) u73) (some 74) u74) (some 75) u75) (some 76) u76) (some 77) u77) (some 78) u78) (some 79) u79) (some 80) u80) (some 81) u81) (some 82) u82) (some 83) u83) (some 84) u84) (some 85) u85) (some 86) u86) (some 87) u87) (some 88) u88) (some 89) u89) (some 90) u90) (some 91) u91) (some 92) u92) (some 93) u93) (some 94) u94) (some 95) u95) (some 96) u96) (some 97) u97) (some 98) (.bool false)) ∧ More w12 W) (fun _ => False) [] (fun a W hd h => h.elim) (fun _ _ _ _ _ h => h) ?_ ?_
          · skip
            rintro a9 wb ⟨u66, u67, u68, u69, u70, u71, u72, u73, u74, u75, u76, u77, u78, u79, u80, u81, u82, u83, u84, u85, u86, u87, u88, u89, u90, u91, u92, u93, u94, u95, u96, u97, rfl, hT⟩
            rw [← hA]
            have FIN := Lib.hid (NEXTI.out wb hT)
            clear HF hA MR hT
            go_simp
            go_wp2_with fail
            go_roundw
            case rel => exact ⟨j + 1, zs', ins', gn, cn, rfl, by go_num, FIN.out⟩
            case measure => simp [intOf]; omega
          intro QQ FINE FIND FINQ
          clear hA
          refine anyC_takeD (i := 0) (v := .int .i64 0) (some 66) rfl rfl (by kernel_rfl) (by kernel_rfl) (by kernel_rfl) (fun c a w => FINQ c a _ _ w) (KC.out _ MR.out) (by exact yieldsC_moveG (wanted_none rfl) _ rfl (HF.get 8 rfl)) ?_
          replace HF := HF.put 66 (.int .i64 0) (by decide) rfl
          generalize hB1_66 : Act.put _ _ _ = A at HF ⊢
          refine anyC_takeD (i := 1) (v := .bool false) (some 67) rfl rfl (by kernel_rfl) (by kernel_rfl) (by kernel_rfl) (fun c a w => FINQ c a _ _ w) (KC.out _ MR.out) (by exact (Or.inl ⟨(wanted_none rfl), fun W hW => by have h5 := (HF.getD 0 rfl); go_simp⟩)) ?_
          replace HF := HF.put 67 (.bool false) (by decide) rfl
          generalize hB2_67 : Act.put _ _ _ = A at HF ⊢
          refine anyC_takeD (i := 2) (v := .bool false) (some 68) rfl rfl (by kernel_rfl) (by kernel_rfl) (by kernel_rfl) (fun c a w => FINQ c a _ _ w) (KC.out _ MR.out) (by exact yieldsC_moveG (wanted_none rfl) _ rfl (HF.get 0 rfl)) ?_
          replace HF := HF.put 68 (.bool false) (by decide) rfl
          generalize hB3_68 : Act.put _ _ _ = A at HF ⊢
          refine anyC_takeD (i := 3) (v := .bool false) (some 69) rfl rfl (by kernel_rfl) (by kernel_rfl) (by kernel_rfl) (fun c a w => FINQ c a _ _ w) (KC.out _ MR.out) (by exact yieldsC_cell (C := (More w12)) (wanted_g 2 false 68 rfl rfl (HF.at (by decide) 0 rfl)) 4 _ rfl (w9.heap.size) 0 (HF.get 7 rfl) (.bool false) _ Tryd.underlying4 rfl (fun W hW => hW.cell X3.out)) ?_
          replace HF := HF.put 69 (.bool false) (by decide) rfl
          generalize hB4_69 : Act.put _ _ _ = A at HF ⊢
          refine anyC_takeD (i := 4) (v := .bool false) (some 70) rfl rfl (by kernel_rfl) (by kernel_rfl) (by kernel_rfl) (fun c a w => FINQ c a _ _ w) (KC.out _ MR.out) (by exact yieldsC_moveG (wanted_g 2 false 68 rfl rfl (HF.at (by decide) 1 rfl)) _ rfl (HF.get 13 rfl)) ?_
          replace HF := HF.put 70 (.bool false) (by decide) rfl
          generalize hB5_70 : Act.put _ _ _ = A at HF ⊢
          refine anyC_takeD (i := 5) (v := .bool false) (some 71) rfl rfl (by kernel_rfl) (by kernel_rfl) (by kernel_rfl) (fun c a w => FINQ c a _ _ w) (KC.out _ MR.out) (by exact yieldsC_neqB (wanted_g 2 false 68 rfl rfl (HF.at (by decide) 2 rfl)) rfl (HF.get 1 rfl) (HF.get 0 rfl)) ?_
          replace HF := HF.put 71 (.bool false) (by decide) rfl
          generalize hB6_71 : Act.put _ _ _ = A at HF ⊢
          refine anyC_takeD (i := 6) (v := .bool false) (some 72) rfl rfl (by kernel_rfl) (by kernel_rfl) (by kernel_rfl) (fun c a w => FINQ c a _ _ w) (KC.out _ MR.out) (by exact yieldsC_pickF (wanted_none rfl) rfl (HF.get 3 rfl) (HF.get 0 rfl)) ?_
          replace HF := HF.put 72 (.bool false) (by decide) rfl
          generalize hB7_72 : Act.put _ _ _ = A at HF ⊢
          refine anyC_takeD (i := 7) (v := .bool false) (some 73) rfl rfl (by kernel_rfl) (by kernel_rfl) (by kernel_rfl) (fun c a w => FINQ c a _ _ w) (KC.out _ MR.out) (by exact yieldsC_moveG (wanted_none rfl) _ rfl (HF.get 0 rfl)) ?_
          replace HF := HF.put 73 (.bool false) (by decide) rfl
          generalize hB8_73 : Act.put _ _ _ = A at HF ⊢
          refine anyC_takeD (i := 8) (v := .slice a4 all.length c4) (some 74) rfl rfl (by kernel_rfl) (by kernel_rfl) (by kernel_rfl) (fun c a w => FINQ c a _ _ w) (KC.out _ MR.out) (by exact yieldsC_cell (C := (More w12)) (wanted_g 7 false 73 rfl rfl (HF.at (by decide) 0 rfl)) 31 _ rfl (wD.heap.size) 0 (HF.get 14 rfl) (.slice a4 all.length c4) _ Tryd.underlying31 rfl (fun W hW => hW.cell X4.out)) ?_
          replace HF := HF.put 74 (.slice a4 all.length c4) (by decide) rfl
          generalize hB9_74 : Act.put _ _ _ = A at HF ⊢
          refine anyC_takeD (i := 9) (v := .agg d.cells) (some 75) rfl rfl (by kernel_rfl) (by kernel_rfl) (by kernel_rfl) (fun c a w => FINQ c a _ _ w) (KC.out _ MR.out) (by exact yieldsC_row (C := (More w12)) (wanted_g 7 false 73 rfl rfl (HF.at (by decide) 1 rfl)) 30 _ rfl (w1.heap.size + 1) (HF.get 10 rfl) 30 _ _ _ (fun W hW => hW.block RB.out) Tryd.underlying30 rfl (by kernel_rfl)) ?_
          replace HF := HF.put 75 (.agg d.cells) (by decide) rfl
          generalize hB10_75 : Act.put _ _ _ = A at HF ⊢
          refine anyC_takeD (i := 10) (v := .slice (some ⟨gw, 0, none⟩) n cw) (some 76) rfl rfl (by kernel_rfl) (by kernel_rfl) (by kernel_rfl) (fun c a w => FINQ c a _ _ w) (KC.out _ MR.out) (by exact yieldsC_moveG (wanted_g 7 false 73 rfl rfl (HF.at (by decide) 2 rfl)) _ rfl (HF.get 12 rfl)) ?_
          replace HF := HF.put 76 (.slice (some ⟨gw, 0, none⟩) n cw) (by decide) rfl
          generalize hB11_76 : Act.put _ _ _ = A at HF ⊢
          refine anyC_takeD (i := 11) (v := .pointer (some ⟨wr.heap.size, 2, none⟩)) (some 77) rfl rfl (by kernel_rfl) (by kernel_rfl) (by kernel_rfl) (fun c a w => FINQ c a _ _ w) (KC.out _ MR.out) (by exact (Or.inl ⟨(wanted_g 7 false 73 rfl rfl (HF.at (by decide) 3 rfl)), fun W hW => by have h5 := (HF.getD 14 rfl); go_simp⟩)) ?_
          replace HF := HF.put 77 (.pointer (some ⟨wr.heap.size, 2, none⟩)) (by decide) rfl
          generalize hB12_77 : Act.put _ _ _ = A at HF ⊢
          refine anyC_takeD (i := 12) (v := .int .i64 k) (some 78) rfl rfl (by kernel_rfl) (by kernel_rfl) (by kernel_rfl) (fun c a w => FINQ c a _ _ w) (KC.out _ MR.out) (by exact yieldsC_cell (C := (More w12)) (wanted_g 7 false 73 rfl rfl (HF.at (by decide) 4 rfl)) 3 _ rfl (wr.heap.size) 2 (HF.get 0 rfl) (.int .i64 k) _ Tryd.underlying3 rfl (fun W hW => hW.cell X22.out)) ?_
          replace HF := HF.put 78 (.int .i64 k) (by decide) rfl
          generalize hB13_78 : Act.put _ _ _ = A at HF ⊢
          refine anyC_takeD (i := 13) (v := .pointer (some ⟨wr.heap.size, 3, none⟩)) (some 79) rfl rfl (by kernel_rfl) (by kernel_rfl) (by kernel_rfl) (fun c a w => FINQ c a _ _ w) (KC.out _ MR.out) (by exact (Or.inl ⟨(wanted_g 7 false 73 rfl rfl (HF.at (by decide) 5 rfl)), fun W hW => by have h5 := (HF.getD 16 rfl); go_simp⟩)) ?_
          replace HF := HF.put 79 (.pointer (some ⟨wr.heap.size, 3, none⟩)) (by decide) rfl
          generalize hB14_79 : Act.put _ _ _ = A at HF ⊢
          refine anyC_takeD (i := 14) (v := .int .i64 f) (some 80) rfl rfl (by kernel_rfl) (by kernel_rfl) (by kernel_rfl) (fun c a w => FINQ c a _ _ w) (KC.out _ MR.out) (by exact yieldsC_cell (C := (More w12)) (wanted_g 7 false 73 rfl rfl (HF.at (by decide) 6 rfl)) 3 _ rfl (wr.heap.size) 3 (HF.get 0 rfl) (.int .i64 f) _ Tryd.underlying3 rfl (fun W hW => hW.cell X23.out)) ?_
          replace HF := HF.put 80 (.int .i64 f) (by decide) rfl
          generalize hB15_80 : Act.put _ _ _ = A at HF ⊢
          refine anyC_oneK (i := 15) (some 81) (by kernel_rfl) rfl (wanted_g 7 false 73 rfl rfl (HF.at (by decide) 7 rfl)) rfl (fun K hK => ?_)
          refine wp_call4 (v0 := .agg d.cells) (v1 := .slice (some ⟨gw, 0, none⟩) n cw) (v2 := .int .i64 k) (v3 := .int .i64 f) rfl (HF.get 5 rfl) (HF.get 4 rfl) (HF.get 2 rfl) (HF.get 0 rfl) (enters_of Tryd.func17 (by kernel_rfl) rfl) ?_
          refine (LC.out wq (WW.out.more MR.out)).mono ?_
          rintro e v2 ⟨vl, rfl, hl2, m2, _⟩
          have M2 := Lib.hid (MR.out.trans m2)
          have RL := Lib.hid hl2
          clear hl2 m2
          refine hK _ _ (KC.out _ M2.out) ?_
          clear hK K
          replace HF := HF.put 81 (vl) (by decide) rfl
          generalize hB16_81 : Act.put _ _ _ = A at HF ⊢
          refine anyC_oneK (i := 16) (some 82) (by kernel_rfl) rfl (wanted_g 7 false 73 rfl rfl (HF.at (by decide) 8 rfl)) rfl (fun K hK => ?_)
          refine wp_call2 (v0 := .slice a4 all.length c4) (v1 := vl) rfl (HF.get 7 rfl) (HF.get 0 rfl) (enters_of Tryd.func16 (by kernel_rfl) rfl) ?_
          refine (SC.out v2 _ _ vl _ _ (Rw.more RA.out M2.out) RL.out).mono ?_
          rintro e v3 ⟨rfl, h3⟩
          have M3 := Lib.hid (M2.out.trans h3)
          clear h3
          refine hK _ _ (KC.out _ M3.out) ?_
          clear hK K
          replace HF := HF.put 82 (.bool true) (by decide) rfl
          generalize hB17_82 : Act.put _ _ _ = A at HF ⊢
          refine anyC_takeD (i := 17) (v := .bool false) (some 83) rfl rfl (by kernel_rfl) (by kernel_rfl) (by kernel_rfl) (fun c a w => FINQ c a _ _ w) (KC.out _ M3.out) (by exact yieldsC_not (wanted_g 7 false 73 rfl rfl (HF.at (by decide) 9 rfl)) rfl (HF.get 0 rfl)) ?_
          replace HF := HF.put 83 (.bool false) (by decide) rfl
          generalize hB18_83 : Act.put _ _ _ = A at HF ⊢
          refine anyC_takeD (i := 18) (v := .bool false) (some 84) rfl rfl (by kernel_rfl) (by kernel_rfl) (by kernel_rfl) (fun c a w => FINQ c a _ _ w) (KC.out _ M3.out) (by exact yieldsC_pickF (wanted_none rfl) rfl (HF.get 10 rfl) (HF.get 0 rfl)) ?_
          replace HF := HF.put 84 (.bool false) (by decide) rfl
          generalize hB19_84 : Act.put _ _ _ = A at HF ⊢
          refine anyC_takeD (i := 19) (v := .bool false) (some 85) rfl rfl (by kernel_rfl) (by kernel_rfl) (by kernel_rfl) (fun c a w => FINQ c a _ _ w) (KC.out _ M3.out) (by exact yieldsC_moveG (wanted_none rfl) _ rfl (HF.get 0 rfl)) ?_
          replace HF := HF.put 85 (.bool false) (by decide) rfl
          generalize hB20_85 : Act.put _ _ _ = A at HF ⊢
          refine anyC_takeD (i := 20) (v := .int .i64 fs) (some 86) rfl rfl (by kernel_rfl) (by kernel_rfl) (by kernel_rfl) (fun c a w => FINQ c a _ _ w) (KC.out _ M3.out) (by exact yieldsC_cell (C := (More w12)) (wanted_g 19 false 85 rfl rfl (HF.at (by decide) 0 rfl)) 3 _ rfl (wB.heap.size) 0 (HF.get 25 rfl) (.int .i64 fs) _ Tryd.underlying3 rfl (fun W hW => hW.cell X6.out)) ?_
          replace HF := HF.put 86 (.int .i64 fs) (by decide) rfl
          generalize hB21_86 : Act.put _ _ _ = A at HF ⊢
          refine anyC_takeD (i := 21) (v := .agg d.cells) (some 87) rfl rfl (by kernel_rfl) (by kernel_rfl) (by kernel_rfl) (fun c a w => FINQ c a _ _ w) (KC.out _ M3.out) (by exact yieldsC_row (C := (More w12)) (wanted_g 19 false 85 rfl rfl (HF.at (by decide) 1 rfl)) 30 _ rfl (w1.heap.size + 1) (HF.get 22 rfl) 30 _ _ _ (fun W hW => hW.block RB.out) Tryd.underlying30 rfl (by kernel_rfl)) ?_
          replace HF := HF.put 87 (.agg d.cells) (by decide) rfl
          generalize hB22_87 : Act.put _ _ _ = A at HF ⊢
          refine anyC_takeD (i := 22) (v := .slice (some ⟨gw, 0, none⟩) n cw) (some 88) rfl rfl (by kernel_rfl) (by kernel_rfl) (by kernel_rfl) (fun c a w => FINQ c a _ _ w) (KC.out _ M3.out) (by exact yieldsC_moveG (wanted_g 19 false 85 rfl rfl (HF.at (by decide) 2 rfl)) _ rfl (HF.get 24 rfl)) ?_
          replace HF := HF.put 88 (.slice (some ⟨gw, 0, none⟩) n cw) (by decide) rfl
          generalize hB23_88 : Act.put _ _ _ = A at HF ⊢
          refine anyC_takeD (i := 23) (v := .int .i64 q) (some 89) rfl rfl (by kernel_rfl) (by kernel_rfl) (by kernel_rfl) (fun c a w => FINQ c a _ _ w) (KC.out _ M3.out) (by exact yieldsC_cell (C := (More w12)) (wanted_g 19 false 85 rfl rfl (HF.at (by decide) 3 rfl)) 3 _ rfl (w.heap.size + 1) 0 (HF.get 23 rfl) (.int .i64 q) _ Tryd.underlying3 rfl (fun W hW => hW.cell X5.out)) ?_
          replace HF := HF.put 89 (.int .i64 q) (by decide) rfl
          generalize hB24_89 : Act.put _ _ _ = A at HF ⊢
          refine anyC_oneK (i := 24) (some 90) (by kernel_rfl) rfl (wanted_g 19 false 85 rfl rfl (HF.at (by decide) 4 rfl)) rfl (fun K hK => ?_)
          refine wp_call3 (v0 := .agg d.cells) (v1 := .slice (some ⟨gw, 0, none⟩) n cw) (v2 := .int .i64 q) rfl (HF.get 2 rfl) (HF.get 1 rfl) (HF.get 0 rfl) (enters_of Tryd.func18 (by kernel_rfl) rfl) ?_
          refine (FC.out v3 (WW.out.more M3.out)).mono ?_
          rintro e v4 ⟨rfl, h4⟩
          have M4 := Lib.hid (M3.out.trans h4)
          clear h4
          refine hK _ _ (KC.out _ M4.out) ?_
          clear hK K
          replace HF := HF.put 90 (.int .i64 fs) (by decide) rfl
          generalize hB25_90 : Act.put _ _ _ = A at HF ⊢
          refine anyC_takeD (i := 25) (v := .bool false) (some 91) rfl rfl (by kernel_rfl) (by kernel_rfl) (by kernel_rfl) (fun c a w => FINQ c a _ _ w) (KC.out _ M4.out) (by exact yieldsC_neqI (wanted_g 19 false 85 rfl rfl (HF.at (by decide) 5 rfl)) rfl (HF.get 4 rfl) (HF.get 0 rfl) false (by simp)) ?_
          replace HF := HF.put 91 (.bool false) (by decide) rfl
          generalize hB26_91 : Act.put _ _ _ = A at HF ⊢
          refine anyC_takeD (i := 26) (v := .bool false) (some 92) rfl rfl (by kernel_rfl) (by kernel_rfl) (by kernel_rfl) (fun c a w => FINQ c a _ _ w) (KC.out _ M4.out) (by exact yieldsC_pickF (wanted_none rfl) rfl (HF.get 6 rfl) (HF.get 0 rfl)) ?_
          replace HF := HF.put 92 (.bool false) (by decide) rfl
          generalize hB27_92 : Act.put _ _ _ = A at HF ⊢
          refine anyC_takeD (i := 27) (v := .bool false) (some 93) rfl rfl (by kernel_rfl) (by kernel_rfl) (by kernel_rfl) (fun c a w => FINQ c a _ _ w) (KC.out _ M4.out) (by exact yieldsC_moveG (wanted_none rfl) _ rfl (HF.get 0 rfl)) ?_
          replace HF := HF.put 93 (.bool false) (by decide) rfl
          generalize hB28_93 : Act.put _ _ _ = A at HF ⊢
          refine anyC_takeD (i := 28) (v := (.slice (some ⟨gn, 0, none⟩) n cn)) (some 94) rfl rfl (by kernel_rfl) (by kernel_rfl) (by kernel_rfl) (fun c a w => FINQ c a _ _ w) (KC.out _ M4.out) (by exact yieldsC_moveG (wanted_g 27 false 93 rfl rfl (HF.at (by decide) 0 rfl)) _ rfl (HF.get 35 rfl)) ?_
          replace HF := HF.put 94 ((.slice (some ⟨gn, 0, none⟩) n cn)) (by decide) rfl
          generalize hB29_94 : Act.put _ _ _ = A at HF ⊢
          refine anyC_takeD (i := 29) (v := .slice (some ⟨gw, 0, none⟩) n cw) (some 95) rfl rfl (by kernel_rfl) (by kernel_rfl) (by kernel_rfl) (fun c a w => FINQ c a _ _ w) (KC.out _ M4.out) (by exact yieldsC_moveG (wanted_g 27 false 93 rfl rfl (HF.at (by decide) 1 rfl)) _ rfl (HF.get 31 rfl)) ?_
          replace HF := HF.put 95 (.slice (some ⟨gw, 0, none⟩) n cw) (by decide) rfl
          generalize hB30_95 : Act.put _ _ _ = A at HF ⊢
          refine anyC_oneK (i := 30) (some 96) (by kernel_rfl) rfl (wanted_g 27 false 93 rfl rfl (HF.at (by decide) 2 rfl)) rfl (fun K hK => ?_)
          refine wp_call2 (v0 := (.slice (some ⟨gn, 0, none⟩) n cn)) (v1 := .slice (some ⟨gw, 0, none⟩) n cw) rfl (HF.get 1 rfl) (HF.get 0 rfl) (enters_of Tryd.func16 (by kernel_rfl) rfl) ?_
          refine (TC.out v4 _ _ (Rw.more RN.out M4.out) (WW.out.more M4.out)).mono ?_
          rintro e v5 ⟨rfl, h5⟩
          have M5 := Lib.hid (M4.out.trans h5)
          clear h5
          refine hK _ _ (KC.out _ M5.out) ?_
          clear hK K
          replace HF := HF.put 96 (.bool true) (by decide) rfl
          generalize hB31_96 : Act.put _ _ _ = A at HF ⊢
          refine anyC_takeD (i := 31) (v := .bool false) (some 97) rfl rfl (by kernel_rfl) (by kernel_rfl) (by kernel_rfl) (fun c a w => FINQ c a _ _ w) (KC.out _ M5.out) (by exact yieldsC_not (wanted_g 27 false 93 rfl rfl (HF.at (by decide) 3 rfl)) rfl (HF.get 0 rfl)) ?_
          replace HF := HF.put 97 (.bool false) (by decide) rfl
          generalize hB32_97 : Act.put _ _ _ = A at HF ⊢
          refine anyC_takeD (i := 32) (v := .bool false) (some 98) rfl rfl (by kernel_rfl) (by kernel_rfl) (by kernel_rfl) (fun c a w => FINQ c a _ _ w) (KC.out _ M5.out) (by exact yieldsC_pickF (wanted_none rfl) rfl (HF.get 4 rfl) (HF.get 0 rfl)) ?_
          replace HF := HF.put 98 (.bool false) (by decide) rfl
          generalize hB33_98 : Act.put _ _ _ = A at HF ⊢
          exact anyC_done (by kernel_rfl) (FINE _ _ ⟨(.int .i64 0), (.bool false), (.bool false), (.bool false), (.bool false), (.bool false), (.bool false), (.bool false), (.slice a4 all.length c4), (.agg d.cells), (.slice (some ⟨gw, 0, none⟩) n cw), (.pointer (some ⟨wr.heap.size, 2, none⟩)), (.int .i64 k), (.pointer (some ⟨wr.heap.size, 3, none⟩)), (.int .i64 f), (vl), (.bool true), (.bool false), (.bool false), (.bool false), (.int .i64 fs), (.agg d.cells), (.slice (some ⟨gw, 0, none⟩) n cw), (.int .i64 q), (.int .i64 fs), (.bool false), (.bool false), (.bool false), ((.slice (some ⟨gn, 0, none⟩) n cn)), (.slice (some ⟨gw, 0, none⟩) n cw), (.bool true), (.bool false), by rw [← hB33_98, ← hB32_97, ← hB31_96, ← hB30_95, ← hB29_94, ← hB28_93, ← hB27_92, ← hB26_91, ← hB25_90, ← hB24_89, ← hB23_88, ← hB22_87, ← hB21_86, ← hB20_85, ← hB19_84, ← hB18_83, ← hB17_82, ← hB16_81, ← hB15_80, ← hB14_79, ← hB13_78, ← hB12_77, ← hB11_76, ← hB10_75, ← hB9_74, ← hB8_73, ← hB7_72, ← hB6_71, ← hB5_70, ← hB4_69, ← hB3_68, ← hB2_67, ← hB1_66], M5.out⟩)
    · obtain rfl : j = l.length := by omega
      have d1 : decide ((l.length : Int) < (l.length : Int)) = false := by simp
      have HMF := Lib.hid I.more
      clear I II
      go_wp2_with fail
      refine (lives10_ok _).mono ?_
      rintro e w18 ⟨rfl, h18⟩
      have M18 := Lib.hid (HMF.out.trans h18)
      clear h18
      go_wp2_with fail
      go_ret
      exact ⟨rfl, M18.out⟩
end Go.Proofs.YtogfikemodaepaaDoor

