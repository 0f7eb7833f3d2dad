/-
  Contracts of package layout's functions of two steps, over any layout whose parts' beginnings rise.
-/
import Derived.Test.YtogfikemodaepaaDoorLayA
namespace Go.Proofs.YtogfikemodaepaaDoor
open Go.RowKit
set_option linter.unusedVariables false
set_option linter.unusedSimpArgs false

variable (wk cp pg st tr wt ck pr ca bi ba : Int) (S : Nat → Int) (w : World)

def lheadV (S : Nat → Int) (c f : Int) : Int := if 0 ≤ c ∧ c ≤ 4 ∧ 1 ≤ f ∧ f ≤ slotsV c then partV (S 7) (S 8) (aheadV c + f - 1) else 0
def lcacheV (cp ca : Int) (S : Nat → Int) (u c : Int) : Int := if 0 ≤ u ∧ u < cp ∧ 0 ≤ c ∧ c ≤ 4 then partV (S 8) (S 9) ((u * 5 + c) * (ca + 1)) else 0
def lbinV (bi : Int) (S : Nat → Int) (c : Int) : Int := if 0 ≤ c ∧ c ≤ 4 then partV (S 9) (S 10) (c * (bi + 1)) else 0
def lliveV (S : Nat → Int) (a : Int) : Int := if S 11 ≤ a ∧ a < S 12 then partV (S 10) (S 11) (a - S 11) else 0
def laddrV (pg : Int) (S : Nat → Int) (p : Int) : Int := if 0 ≤ p ∧ p < pg then partV (S 11) (S 12) (p * 32) else 0
def llockV (st : Int) (S : Nat → Int) (a : Int) : Int := if 0 ≤ a ∧ a < S 12 then partV (S 0) (S 1) (a % st) else 0
theorem btw_true {n lo hi : Int} (h0 : lo ≤ n) (h1 : n ≤ hi) : btw n lo hi = true := by simp [btw, h0, h1]
theorem btw_false {n lo hi : Int} (h : ¬ (lo ≤ n ∧ n ≤ hi)) : btw n lo hi = false := by
  cases q : btw n lo hi with
  | false => rfl
  | true => simp [btw] at q; exact absurd q h

theorem lconfig : Calls Tryd.prog 55 #[.agg (layArr wk cp pg st tr wt ck pr ca bi ba S)] w (Gives w (.agg #[.int .i64 wk, .int .i64 cp, .int .i64 pg, .int .i64 st, .int .i64 tr, .int .i64 wt, .int .i64 ck, .int .i64 pr, .int .i64 ca, .int .i64 bi, .int .i64 ba])) := by
  have HC0 := Lib.hid (row_new w (layArr wk cp pg st tr wt ck pr ca bi ba S) 28)
  have HC : Hid (((w.alloc (.cells (layArr wk cp pg st tr wt ck pr ca bi ba S) 28)).alloc (.cells #[.int .i64 0, .int .i64 0, .int .i64 0, .int .i64 0, .int .i64 0, .int .i64 0, .int .i64 0, .int .i64 0, .int .i64 0, .int .i64 0, .int .i64 0] 23)).heap[w.heap.size]? = some (.cells (layArr wk cp pg st tr wt ck pr ca bi ba S) 28 (0, 0))) := ((More.refl _).alloc _).block HC0.out
  have x0 := cell_more HC.out (More.refl _) (show (layArr wk cp pg st tr wt ck pr ca bi ba S)[0]? = some (.int .i64 wk) from rfl)
  have x1 := cell_more HC.out (More.refl _) (show (layArr wk cp pg st tr wt ck pr ca bi ba S)[1]? = some (.int .i64 cp) from rfl)
  have x2 := cell_more HC.out (More.refl _) (show (layArr wk cp pg st tr wt ck pr ca bi ba S)[2]? = some (.int .i64 pg) from rfl)
  have x3 := cell_more HC.out (More.refl _) (show (layArr wk cp pg st tr wt ck pr ca bi ba S)[3]? = some (.int .i64 st) from rfl)
  have x4 := cell_more HC.out (More.refl _) (show (layArr wk cp pg st tr wt ck pr ca bi ba S)[4]? = some (.int .i64 tr) from rfl)
  have x5 := cell_more HC.out (More.refl _) (show (layArr wk cp pg st tr wt ck pr ca bi ba S)[5]? = some (.int .i64 wt) from rfl)
  have x6 := cell_more HC.out (More.refl _) (show (layArr wk cp pg st tr wt ck pr ca bi ba S)[6]? = some (.int .i64 ck) from rfl)
  have x7 := cell_more HC.out (More.refl _) (show (layArr wk cp pg st tr wt ck pr ca bi ba S)[7]? = some (.int .i64 pr) from rfl)
  have x8 := cell_more HC.out (More.refl _) (show (layArr wk cp pg st tr wt ck pr ca bi ba S)[8]? = some (.int .i64 ca) from rfl)
  have x9 := cell_more HC.out (More.refl _) (show (layArr wk cp pg st tr wt ck pr ca bi ba S)[9]? = some (.int .i64 bi) from rfl)
  have x10 := cell_more HC.out (More.refl _) (show (layArr wk cp pg st tr wt ck pr ca bi ba S)[10]? = some (.int .i64 ba) from rfl)
  go_enter Tryd.func55, Tryd.ntmps55
  go_wp2_with fail
  refine bodyPost_ret (v := .agg #[.int .i64 wk, .int .i64 cp, .int .i64 pg, .int .i64 st, .int .i64 tr, .int .i64 wt, .int .i64 ck, .int .i64 pr, .int .i64 ca, .int .i64 bi, .int .i64 ba]) (by simp [results, Tryd.results55, go_sem]) rfl ⟨rfl, ?_⟩
  exact ((More.refl _).alloc _).alloc _

theorem lhead (c f : Int) (R : LayOk cp pg st ca bi S) :
    Calls Tryd.prog 35 #[.agg (layArr wk cp pg st tr wt ck pr ca bi ba S), .int .i64 c, .int .i64 f] w (Gives w (.int .i64 (lheadV S c f))) := by
  obtain ⟨r0, r1, r2, r3, r4, r5, r6, r7, r8, r9, r10, r11, r12, r13⟩ := R.all
  have HC := Lib.hid (row_new w (layArr wk cp pg st tr wt ck pr ca bi ba S) 28)
  have HM : Hid (More w (w.alloc (.cells (layArr wk cp pg st tr wt ck pr ca bi ba S) 28))) := (More.refl w).alloc _
  by_cases hc : 0 ≤ c ∧ c ≤ 4
  · obtain ⟨k, rfl⟩ : ∃ k : Nat, c = k := ⟨c.toNat, by omega⟩
    have hk : k ≤ 4 := by omega
    have b1 := btw_true hc.1 hc.2
    by_cases hf : 1 ≤ f ∧ f ≤ slotsV k
    · have b2 := btw_true hf.1 hf.2
      have b3 := slots_lo k (by omega) (by omega)
      have b4 := ahead_b k (by omega) (by omega)
      rw [show lheadV S k f = partV (S 7) (S 8) (aheadV k + f - 1) from if_pos (by omega)]
      have q0 : IntKind.i64.wrap (aheadV k + f) = aheadV k + f := wrap_in (by omega) (by omega)
      have q1 : IntKind.i64.wrap (aheadV k + f - 1) = aheadV k + f - 1 := wrap_in (by omega) (by omega)
      have HW := Lib.hid (fun W => lword wk cp pg st tr wt ck pr ca bi ba S W 7 (aheadV k + f - 1) (by omega) R)
      have HA := Lib.hid (fun W => lheadsAhead k (by omega) W)
      rw [aheadT_lo k hk] at HA
      go_enter Tryd.func35, Tryd.ntmps35
      go_wp2_with fail
      refine (lclass _ _).mono ?_
      rintro e w1 ⟨rfl, rfl⟩
      rw [b1]
      go_wp2_with fail
      refine (lblocks k hk _).mono ?_
      rintro e w2 ⟨rfl, rfl⟩
      go_wp2_with fail
      refine (lwithin _ _ _ _).mono ?_
      rintro e w3 ⟨rfl, rfl⟩
      rw [b2]
      go_wp2_with fail
      generalize w.alloc (.cells (layArr wk cp pg st tr wt ck pr ca bi ba S) 28) = W0 at *
      have hne : ∃ W, More W0 W := ⟨W0, More.refl _⟩
      refine wp_region_more (by kernel_rfl) (by kernel_rfl) ?_
      iterate 8
        first
        | (refine wpQuiet_load_row rfl 28 _ rfl _ rfl 28 _ _ _ (fun W hW => hW.block HC.out) Tryd.underlying28 rfl (by kernel_rfl) ?_)
        | (with_reducible refine wpQuiet_step (fun K hK => ?_)
           go_simp
           first
           | (refine hK _ ?_; clear hK K)
           | (apply Exists.intro
              refine ⟨fun W hW => ?_, hK _ ?_⟩
              first
           | (go_at_call 61; exact (HA.out W).mono (fun _ _ ⟨he, hw⟩ => ⟨he, hw ▸ hW⟩))
           | (go_at_call 60; exact Calls.more hW (HW.out W))
              | (skip; (try go_simp); try rfl)
              clear hK K))
      refine wpQuiet_nil ?_
      intro W hW
      have HX := Lib.hid hW
      clear hW
      go_wp2_with fail
      go_ret
      exact ⟨rfl, HM.out.trans HX.out⟩
    · have b2 := btw_false hf
      rw [show lheadV S k f = 0 from if_neg (by omega)]
      go_enter Tryd.func35, Tryd.ntmps35
      go_wp2_with fail
      refine (lclass _ _).mono ?_
      rintro e w1 ⟨rfl, rfl⟩
      rw [b1]
      go_wp2_with fail
      refine (lblocks k hk _).mono ?_
      rintro e w2 ⟨rfl, rfl⟩
      go_wp2_with fail
      refine (lwithin _ _ _ _).mono ?_
      rintro e w3 ⟨rfl, rfl⟩
      rw [b2]
      go_wp2_with fail
      go_ret
      exact ⟨rfl, HM.out⟩
  · have b1 := btw_false hc
    rw [show lheadV S c f = 0 from if_neg (by omega)]
    go_enter Tryd.func35, Tryd.ntmps35
    go_wp2_with fail
    refine (lclass _ _).mono ?_
    rintro e w1 ⟨rfl, rfl⟩
    rw [b1]
    go_wp2_with fail
    go_ret
    exact ⟨rfl, HM.out⟩

end Go.Proofs.YtogfikemodaepaaDoor
