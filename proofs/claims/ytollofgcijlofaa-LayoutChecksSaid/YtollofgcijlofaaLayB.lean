/-
  Contracts of package layout's functions of two steps, over any layout whose parts' beginnings rise.
-/
import Derived.Test.YtollofgcijlofaaLayA
namespace Go.Proofs.Ytollofgcijlofaa
open Go.RowKit
set_option linter.unusedVariables false
set_option linter.unusedSimpArgs false

variable (wk cp pg st tr wt ck pr ca bi ba : Int) (S : Nat → Int) (w : World)

def lheadV (S : Nat → Int) (c f : Int) : Int := if 0 ≤ c ∧ c ≤ 4 ∧ 1 ≤ f ∧ f ≤ slotsV c then wordV (S 7) (S 8) (aheadV c + f - 1) else 0
def lcacheV (cp ca : Int) (S : Nat → Int) (u c : Int) : Int := if 0 ≤ u ∧ u < cp ∧ 0 ≤ c ∧ c ≤ 4 then wordV (S 8) (S 9) ((u * 5 + c) * (ca + 1)) else 0
def lbinV (bi : Int) (S : Nat → Int) (c : Int) : Int := if 0 ≤ c ∧ c ≤ 4 then wordV (S 9) (S 10) (c * (bi + 1)) else 0
def lliveV (S : Nat → Int) (a : Int) : Int := if S 11 ≤ a ∧ a < S 12 then wordV (S 10) (S 11) (a - S 11) else 0
def laddrV (pg : Int) (S : Nat → Int) (p : Int) : Int := if 0 ≤ p ∧ p < pg then wordV (S 11) (S 12) (p * 32) else 0
def llockV (st : Int) (S : Nat → Int) (a : Int) : Int := if 0 ≤ a ∧ a < S 12 then wordV (S 0) (S 1) (a % st) else 0
theorem btw_true {n lo hi : Int} (h0 : lo ≤ n) (h1 : n ≤ hi) : btw n lo hi = true := by simp [btw, h0, h1]
theorem btw_false {n lo hi : Int} (h : ¬ (lo ≤ n ∧ n ≤ hi)) : btw n lo hi = false := by
  cases q : btw n lo hi with
  | false => rfl
  | true => simp [btw] at q; exact absurd q h

theorem lChunks (R : LayOk cp pg st ca bi S) : Calls Try.prog 15 #[.agg (layArr wk cp pg st tr wt ck pr ca bi ba S)] w (Gives w (.int .i64 (chunksV pg))) := by
  have b0 := R.pg0
  have b1 := R.pg1
  have HC := Lib.hid (row_new w (layArr wk cp pg st tr wt ck pr ca bi ba S) 28)
  have x0 := cell_more HC.out (More.refl _) (show (layArr wk cp pg st tr wt ck pr ca bi ba S)[0]? = some (.int .i64 wk) from rfl)
  have x1 := cell_more HC.out (More.refl _) (show (layArr wk cp pg st tr wt ck pr ca bi ba S)[1]? = some (.int .i64 cp) from rfl)
  have x2 := cell_more HC.out (More.refl _) (show (layArr wk cp pg st tr wt ck pr ca bi ba S)[2]? = some (.int .i64 pg) from rfl)
  have x3 := cell_more HC.out (More.refl _) (show (layArr wk cp pg st tr wt ck pr ca bi ba S)[3]? = some (.int .i64 st) from rfl)
  have x4 := cell_more HC.out (More.refl _) (show (layArr wk cp pg st tr wt ck pr ca bi ba S)[4]? = some (.int .i64 tr) from rfl)
  have x5 := cell_more HC.out (More.refl _) (show (layArr wk cp pg st tr wt ck pr ca bi ba S)[5]? = some (.int .i64 wt) from rfl)
  have x6 := cell_more HC.out (More.refl _) (show (layArr wk cp pg st tr wt ck pr ca bi ba S)[6]? = some (.int .i64 ck) from rfl)
  have x7 := cell_more HC.out (More.refl _) (show (layArr wk cp pg st tr wt ck pr ca bi ba S)[7]? = some (.int .i64 pr) from rfl)
  have x8 := cell_more HC.out (More.refl _) (show (layArr wk cp pg st tr wt ck pr ca bi ba S)[8]? = some (.int .i64 ca) from rfl)
  have x9 := cell_more HC.out (More.refl _) (show (layArr wk cp pg st tr wt ck pr ca bi ba S)[9]? = some (.int .i64 bi) from rfl)
  have x10 := cell_more HC.out (More.refl _) (show (layArr wk cp pg st tr wt ck pr ca bi ba S)[10]? = some (.int .i64 ba) from rfl)
  go_enter Try.func15, Try.ntmps15
  go_wp2_with fail
  refine (lchunks wk cp pg st tr wt ck pr ca bi ba b0 b1 _).mono ?_
  rintro e w1 ⟨rfl, h1⟩
  go_wp2_with fail
  go_ret
  exact ⟨rfl, ((More.refl _).alloc _).trans h1⟩

theorem lconfig : Calls Try.prog 11 #[.agg (layArr wk cp pg st tr wt ck pr ca bi ba S)] w (Gives w (.agg #[.int .i64 wk, .int .i64 cp, .int .i64 pg, .int .i64 st, .int .i64 tr, .int .i64 wt, .int .i64 ck, .int .i64 pr, .int .i64 ca, .int .i64 bi, .int .i64 ba])) := by
  have HC0 := Lib.hid (row_new w (layArr wk cp pg st tr wt ck pr ca bi ba S) 28)
  have HC : Hid (((w.alloc (.cells (layArr wk cp pg st tr wt ck pr ca bi ba S) 28)).alloc (.cells #[.int .i64 0, .int .i64 0, .int .i64 0, .int .i64 0, .int .i64 0, .int .i64 0, .int .i64 0, .int .i64 0, .int .i64 0, .int .i64 0, .int .i64 0] 23)).heap[w.heap.size]? = some (.cells (layArr wk cp pg st tr wt ck pr ca bi ba S) 28 (0, 0))) := ((More.refl _).alloc _).block HC0.out
  have x0 := cell_more HC.out (More.refl _) (show (layArr wk cp pg st tr wt ck pr ca bi ba S)[0]? = some (.int .i64 wk) from rfl)
  have x1 := cell_more HC.out (More.refl _) (show (layArr wk cp pg st tr wt ck pr ca bi ba S)[1]? = some (.int .i64 cp) from rfl)
  have x2 := cell_more HC.out (More.refl _) (show (layArr wk cp pg st tr wt ck pr ca bi ba S)[2]? = some (.int .i64 pg) from rfl)
  have x3 := cell_more HC.out (More.refl _) (show (layArr wk cp pg st tr wt ck pr ca bi ba S)[3]? = some (.int .i64 st) from rfl)
  have x4 := cell_more HC.out (More.refl _) (show (layArr wk cp pg st tr wt ck pr ca bi ba S)[4]? = some (.int .i64 tr) from rfl)
  have x5 := cell_more HC.out (More.refl _) (show (layArr wk cp pg st tr wt ck pr ca bi ba S)[5]? = some (.int .i64 wt) from rfl)
  have x6 := cell_more HC.out (More.refl _) (show (layArr wk cp pg st tr wt ck pr ca bi ba S)[6]? = some (.int .i64 ck) from rfl)
  have x7 := cell_more HC.out (More.refl _) (show (layArr wk cp pg st tr wt ck pr ca bi ba S)[7]? = some (.int .i64 pr) from rfl)
  have x8 := cell_more HC.out (More.refl _) (show (layArr wk cp pg st tr wt ck pr ca bi ba S)[8]? = some (.int .i64 ca) from rfl)
  have x9 := cell_more HC.out (More.refl _) (show (layArr wk cp pg st tr wt ck pr ca bi ba S)[9]? = some (.int .i64 bi) from rfl)
  have x10 := cell_more HC.out (More.refl _) (show (layArr wk cp pg st tr wt ck pr ca bi ba S)[10]? = some (.int .i64 ba) from rfl)
  go_enter Try.func11, Try.ntmps11
  go_wp2_with fail
  refine bodyPost_ret (v := .agg #[.int .i64 wk, .int .i64 cp, .int .i64 pg, .int .i64 st, .int .i64 tr, .int .i64 wt, .int .i64 ck, .int .i64 pr, .int .i64 ca, .int .i64 bi, .int .i64 ba]) (by simp [results, Try.results11, go_sem]) rfl ⟨rfl, ?_⟩
  exact ((More.refl _).alloc _).alloc _

theorem lhead (c f : Int) (R : LayOk cp pg st ca bi S) :
    Calls Try.prog 19 #[.agg (layArr wk cp pg st tr wt ck pr ca bi ba S), .int .i64 c, .int .i64 f] w (Gives w (.int .i64 (lheadV S c f))) := by
  obtain ⟨r0, r1, r2, r3, r4, r5, r6, r7, r8, r9, r10, r11, r12, r13⟩ := R.all
  have HC := Lib.hid (row_new w (layArr wk cp pg st tr wt ck pr ca bi ba S) 28)
  have HM : Hid (More w (w.alloc (.cells (layArr wk cp pg st tr wt ck pr ca bi ba S) 28))) := (More.refl w).alloc _
  by_cases hc : 0 ≤ c ∧ c ≤ 4
  · obtain ⟨k, rfl⟩ : ∃ k : Nat, c = k := ⟨c.toNat, by omega⟩
    have hk : k ≤ 4 := by omega
    have b1 := btw_true hc.1 hc.2
    by_cases hf : 1 ≤ f ∧ f ≤ slotsV k
    · have b2 := btw_true hf.1 hf.2
      have b3 := slots_lo k (by omega) (by omega)
      have b4 := ahead_b k (by omega) (by omega)
      rw [show lheadV S k f = wordV (S 7) (S 8) (aheadV k + f - 1) from if_pos (by omega)]
      have q0 : IntKind.i64.wrap (aheadV k + f) = aheadV k + f := wrap_in (by omega) (by omega)
      have q1 : IntKind.i64.wrap (aheadV k + f - 1) = aheadV k + f - 1 := wrap_in (by omega) (by omega)
      have HW := Lib.hid (fun W => lword wk cp pg st tr wt ck pr ca bi ba S W 7 (aheadV k + f - 1) (by omega) R)
      have HA := Lib.hid (fun W => lheadsAhead k (by omega) W)
      rw [aheadT_lo k hk] at HA
      go_enter Try.func19, Try.ntmps19
      go_wp2_with fail
      refine (lclass _ _).mono ?_
      rintro e w1 ⟨rfl, rfl⟩
      rw [b1]
      go_wp2_with fail
      refine (lblocks k hk _).mono ?_
      rintro e w2 ⟨rfl, rfl⟩
      go_wp2_with fail
      refine (lwithin _ _ _ _).mono ?_
      rintro e w3 ⟨rfl, rfl⟩
      rw [b2]
      go_wp2_with fail
      generalize w.alloc (.cells (layArr wk cp pg st tr wt ck pr ca bi ba S) 28) = W0 at *
      have hne : ∃ W, More W0 W := ⟨W0, More.refl _⟩
      refine wp_region_more (by kernel_rfl) (by kernel_rfl) ?_
      iterate 8
        first
        | (refine wpQuiet_load_row rfl 28 _ rfl _ rfl 28 _ _ _ (fun W hW => hW.block HC.out) Try.underlying28 rfl (by kernel_rfl) ?_)
        | (with_reducible refine wpQuiet_step (fun K hK => ?_)
           go_simp
           first
           | (refine hK _ ?_; clear hK K)
           | (apply Exists.intro
              refine ⟨fun W hW => ?_, hK _ ?_⟩
              first
           | (go_at_call 58; exact (HA.out W).mono (fun _ _ ⟨he, hw⟩ => ⟨he, hw ▸ hW⟩))
           | (go_at_call 53; exact Calls.more hW (HW.out W))
              | (skip; (try go_simp); try rfl)
              clear hK K))
      refine wpQuiet_nil ?_
      intro W hW
      have HX := Lib.hid hW
      clear hW
      go_wp2_with fail
      go_ret
      exact ⟨rfl, HM.out.trans HX.out⟩
    · have b2 := btw_false hf
      rw [show lheadV S k f = 0 from if_neg (by omega)]
      go_enter Try.func19, Try.ntmps19
      go_wp2_with fail
      refine (lclass _ _).mono ?_
      rintro e w1 ⟨rfl, rfl⟩
      rw [b1]
      go_wp2_with fail
      refine (lblocks k hk _).mono ?_
      rintro e w2 ⟨rfl, rfl⟩
      go_wp2_with fail
      refine (lwithin _ _ _ _).mono ?_
      rintro e w3 ⟨rfl, rfl⟩
      rw [b2]
      go_wp2_with fail
      go_ret
      exact ⟨rfl, HM.out⟩
  · have b1 := btw_false hc
    rw [show lheadV S c f = 0 from if_neg (by omega)]
    go_enter Try.func19, Try.ntmps19
    go_wp2_with fail
    refine (lclass _ _).mono ?_
    rintro e w1 ⟨rfl, rfl⟩
    rw [b1]
    go_wp2_with fail
    go_ret
    exact ⟨rfl, HM.out⟩

theorem lcache (u c : Int) (R : LayOk cp pg st ca bi S) :
    Calls Try.prog 39 #[.agg (layArr wk cp pg st tr wt ck pr ca bi ba S), .int .i64 u, .int .i64 c] w (Gives w (.int .i64 (lcacheV cp ca S u c))) := by
  obtain ⟨r0, r1, r2, r3, r4, r5, r6, r7, r8, r9, r10, r11, r12, r13⟩ := R.all
  have HC := Lib.hid (row_new w (layArr wk cp pg st tr wt ck pr ca bi ba S) 28)
  have HM : Hid (More w (w.alloc (.cells (layArr wk cp pg st tr wt ck pr ca bi ba S) 28))) := (More.refl w).alloc _
  have g1 := R.cp0
  have g2 := R.cp1
  have g3 := R.ca0
  have g4 := R.ca1
  have x1 := cell_more HC.out (More.refl _) (show (layArr wk cp pg st tr wt ck pr ca bi ba S)[1]? = some (.int .i64 cp) from rfl)
  have x8 := cell_more HC.out (More.refl _) (show (layArr wk cp pg st tr wt ck pr ca bi ba S)[8]? = some (.int .i64 ca) from rfl)
  have q0 : IntKind.i64.wrap (cp - 1) = cp - 1 := wrap_in (by omega) (by omega)
  by_cases hu : 0 ≤ u ∧ u ≤ cp - 1
  · have b1 := btw_true hu.1 hu.2
    by_cases hc : 0 ≤ c ∧ c ≤ 4
    · have b2 := btw_true hc.1 hc.2
      rw [show lcacheV cp ca S u c = wordV (S 8) (S 9) ((u * 5 + c) * (ca + 1)) from if_pos (by omega)]
      have g5 := mulB (a := u * 5 + c) (b := ca + 1) (A := 39) (B := 9) (by omega) (by omega) (by omega) (by omega)
      have q1 : IntKind.i64.wrap (u * 5) = u * 5 := wrap_in (by omega) (by omega)
      have q2 : IntKind.i64.wrap (u * 5 + c) = u * 5 + c := wrap_in (by omega) (by omega)
      have q3 : IntKind.i64.wrap (ca + 1) = ca + 1 := wrap_in (by omega) (by omega)
      have q4 : IntKind.i64.wrap ((u * 5 + c) * (ca + 1)) = (u * 5 + c) * (ca + 1) := wrap_in (by omega) (by omega)
      have HW := Lib.hid (fun W => lword wk cp pg st tr wt ck pr ca bi ba S W 8 ((u * 5 + c) * (ca + 1)) (by omega) R)
      go_enter Try.func39, Try.ntmps39
      go_wp2_with fail
      refine (lwithin _ _ _ _).mono ?_
      rintro e w1 ⟨rfl, rfl⟩
      rw [b1]
      go_wp2_with fail
      refine (lclass _ _).mono ?_
      rintro e w2 ⟨rfl, rfl⟩
      rw [b2]
      go_wp2_with (first | refine wpList_load_row rfl 28 _ rfl _ rfl 28 _ _ _ HC.out Try.underlying28 rfl (by kernel_rfl) ?_ | refine wpList_load_rowG rfl 28 _ rfl _ rfl 28 _ _ _ HC.out Try.underlying28 rfl (by kernel_rfl) ?_)
      refine (HW.out _).mono ?_
      rintro e w3 ⟨rfl, h3⟩
      go_wp2_with fail
      go_ret
      exact ⟨rfl, HM.out.trans h3⟩
    · have b2 := btw_false hc
      rw [show lcacheV cp ca S u c = 0 from if_neg (by omega)]
      go_enter Try.func39, Try.ntmps39
      go_wp2_with fail
      refine (lwithin _ _ _ _).mono ?_
      rintro e w1 ⟨rfl, rfl⟩
      rw [b1]
      go_wp2_with fail
      refine (lclass _ _).mono ?_
      rintro e w2 ⟨rfl, rfl⟩
      rw [b2]
      go_wp2_with fail
      go_ret
      exact ⟨rfl, HM.out⟩
  · have b1 := btw_false hu
    rw [show lcacheV cp ca S u c = 0 from if_neg (by omega)]
    go_enter Try.func39, Try.ntmps39
    go_wp2_with fail
    refine (lwithin _ _ _ _).mono ?_
    rintro e w1 ⟨rfl, rfl⟩
    rw [b1]
    go_wp2_with fail
    go_ret
    exact ⟨rfl, HM.out⟩

theorem lbin (c : Int) (R : LayOk cp pg st ca bi S) :
    Calls Try.prog 40 #[.agg (layArr wk cp pg st tr wt ck pr ca bi ba S), .int .i64 c] w (Gives w (.int .i64 (lbinV bi S c))) := by
  obtain ⟨r0, r1, r2, r3, r4, r5, r6, r7, r8, r9, r10, r11, r12, r13⟩ := R.all
  have HC := Lib.hid (row_new w (layArr wk cp pg st tr wt ck pr ca bi ba S) 28)
  have HM : Hid (More w (w.alloc (.cells (layArr wk cp pg st tr wt ck pr ca bi ba S) 28))) := (More.refl w).alloc _
  have g3 := R.bi0
  have g4 := R.bi1
  have x9 := cell_more HC.out (More.refl _) (show (layArr wk cp pg st tr wt ck pr ca bi ba S)[9]? = some (.int .i64 bi) from rfl)
  by_cases hc : 0 ≤ c ∧ c ≤ 4
  · have b2 := btw_true hc.1 hc.2
    rw [show lbinV bi S c = wordV (S 9) (S 10) (c * (bi + 1)) from if_pos (by omega)]
    have g5 := mulB (a := c) (b := bi + 1) (A := 4) (B := 17) (by omega) (by omega) (by omega) (by omega)
    have q3 : IntKind.i64.wrap (bi + 1) = bi + 1 := wrap_in (by omega) (by omega)
    have q4 : IntKind.i64.wrap (c * (bi + 1)) = c * (bi + 1) := wrap_in (by omega) (by omega)
    have HW := Lib.hid (fun W => lword wk cp pg st tr wt ck pr ca bi ba S W 9 (c * (bi + 1)) (by omega) R)
    go_enter Try.func40, Try.ntmps40
    go_wp2_with fail
    refine (lclass _ _).mono ?_
    rintro e w2 ⟨rfl, rfl⟩
    rw [b2]
    go_wp2_with (first | refine wpList_load_row rfl 28 _ rfl _ rfl 28 _ _ _ HC.out Try.underlying28 rfl (by kernel_rfl) ?_ | refine wpList_load_rowG rfl 28 _ rfl _ rfl 28 _ _ _ HC.out Try.underlying28 rfl (by kernel_rfl) ?_)
    refine (HW.out _).mono ?_
    rintro e w3 ⟨rfl, h3⟩
    go_wp2_with fail
    go_ret
    exact ⟨rfl, HM.out.trans h3⟩
  · have b2 := btw_false hc
    rw [show lbinV bi S c = 0 from if_neg (by omega)]
    go_enter Try.func40, Try.ntmps40
    go_wp2_with fail
    refine (lclass _ _).mono ?_
    rintro e w2 ⟨rfl, rfl⟩
    rw [b2]
    go_wp2_with fail
    go_ret
    exact ⟨rfl, HM.out⟩

theorem laddr (p : Int) (R : LayOk cp pg st ca bi S) :
    Calls Try.prog 31 #[.agg (layArr wk cp pg st tr wt ck pr ca bi ba S), .int .i64 p] w (Gives w (.int .i64 (laddrV pg S p))) := by
  obtain ⟨r0, r1, r2, r3, r4, r5, r6, r7, r8, r9, r10, r11, r12, r13⟩ := R.all
  have HC := Lib.hid (row_new w (layArr wk cp pg st tr wt ck pr ca bi ba S) 28)
  have HM : Hid (More w (w.alloc (.cells (layArr wk cp pg st tr wt ck pr ca bi ba S) 28))) := (More.refl w).alloc _
  have g3 := R.pg0
  have g4 := R.pg1
  have x2 := cell_more HC.out (More.refl _) (show (layArr wk cp pg st tr wt ck pr ca bi ba S)[2]? = some (.int .i64 pg) from rfl)
  have q0 : IntKind.i64.wrap (pg - 1) = pg - 1 := wrap_in (by omega) (by omega)
  by_cases hc : 0 ≤ p ∧ p ≤ pg - 1
  · have b2 := btw_true hc.1 hc.2
    rw [show laddrV pg S p = wordV (S 11) (S 12) (p * 32) from if_pos (by omega)]
    have q4 : IntKind.i64.wrap (p * 32) = p * 32 := wrap_in (by omega) (by omega)
    have HW := Lib.hid (fun W => lword wk cp pg st tr wt ck pr ca bi ba S W 11 (p * 32) (by omega) R)
    go_enter Try.func31, Try.ntmps31
    go_wp2_with fail
    refine (lwithin _ _ _ _).mono ?_
    rintro e w2 ⟨rfl, rfl⟩
    rw [b2]
    go_wp2_with (first | refine wpList_load_row rfl 28 _ rfl _ rfl 28 _ _ _ HC.out Try.underlying28 rfl (by kernel_rfl) ?_ | refine wpList_load_rowG rfl 28 _ rfl _ rfl 28 _ _ _ HC.out Try.underlying28 rfl (by kernel_rfl) ?_)
    refine (HW.out _).mono ?_
    rintro e w3 ⟨rfl, h3⟩
    go_wp2_with fail
    go_ret
    exact ⟨rfl, HM.out.trans h3⟩
  · have b2 := btw_false hc
    rw [show laddrV pg S p = 0 from if_neg (by omega)]
    go_enter Try.func31, Try.ntmps31
    go_wp2_with fail
    refine (lwithin _ _ _ _).mono ?_
    rintro e w2 ⟨rfl, rfl⟩
    rw [b2]
    go_wp2_with fail
    go_ret
    exact ⟨rfl, HM.out⟩

theorem llock (a : Int) (R : LayOk cp pg st ca bi S) :
    Calls Try.prog 38 #[.agg (layArr wk cp pg st tr wt ck pr ca bi ba S), .int .i64 a] w (Gives w (.int .i64 (llockV st S a))) := by
  obtain ⟨r0, r1, r2, r3, r4, r5, r6, r7, r8, r9, r10, r11, r12, r13⟩ := R.all
  have HC := Lib.hid (row_new w (layArr wk cp pg st tr wt ck pr ca bi ba S) 28)
  have HM : Hid (More w (w.alloc (.cells (layArr wk cp pg st tr wt ck pr ca bi ba S) 28))) := (More.refl w).alloc _
  have g1 := R.st0
  have g2 := R.st1
  have HWd := Lib.hid (fun W => lwords wk cp pg st tr wt ck pr ca bi ba S W)
  by_cases c0 : a < 0
  · have d0 : decide (a < 0) = true := by simp; omega
    rw [show llockV st S a = 0 from if_neg (by omega)]
    go_enter Try.func38, Try.ntmps38
    go_wp2_with (first | refine wpList_load_row rfl 28 _ rfl _ rfl 28 _ _ _ HC.out Try.underlying28 rfl (by kernel_rfl) ?_ | refine wpList_load_rowG rfl 28 _ rfl _ rfl 28 _ _ _ HC.out Try.underlying28 rfl (by kernel_rfl) ?_)
    go_ret
    exact ⟨rfl, HM.out⟩
  · have d0 : decide (a < 0) = false := by simp; omega
    by_cases c1 : a < S 12
    · have d1 : decide (S 12 ≤ a) = false := by simp; omega
      have g3 : st ≠ 0 := fun q => by have := R.empty q; omega
      have m0 := Int.emod_nonneg a (show st ≠ 0 by omega)
      have m1 := Int.emod_lt_of_pos a (show 0 < st by omega)
      have hst0 : (st == 0) = false := by simp; omega
      have q0 : a.tmod st = a % st := Int.tmod_eq_emod_of_nonneg (by omega)
      have q1 : IntKind.i64.wrap (a % st) = a % st := wrap_in (by omega) (by omega)
      rw [show llockV st S a = wordV (S 0) (S 1) (a % st) from if_pos (by omega)]
      have HW := Lib.hid (fun W => lword wk cp pg st tr wt ck pr ca bi ba S W 0 (a % st) (by omega) R)
      go_enter Try.func38, Try.ntmps38
      go_wp2_with (first | refine wpList_load_row rfl 28 _ rfl _ rfl 28 _ _ _ HC.out Try.underlying28 rfl (by kernel_rfl) ?_ | refine wpList_load_rowG rfl 28 _ rfl _ rfl 28 _ _ _ HC.out Try.underlying28 rfl (by kernel_rfl) ?_)
      refine (HWd.out _).mono ?_
      rintro e w1 ⟨rfl, h1⟩
      have H1 := Lib.hid (HM.out.trans h1)
      have HC := Lib.hid (h1.block HC.out)
      clear h1
      go_wp2_with fail
      have hne : ∃ W, More w1 W := ⟨w1, More.refl _⟩
      refine wp_region_more (by kernel_rfl) (by kernel_rfl) ?_
      iterate 8
        first
        | (refine wpQuiet_load_row rfl 28 _ rfl _ rfl 28 _ _ _ (fun W hW => hW.block HC.out) Try.underlying28 rfl (by kernel_rfl) ?_)
        | (with_reducible refine wpQuiet_step (fun K hK => ?_)
           go_simp
           first
           | (refine hK _ ?_; clear hK K)
           | (apply Exists.intro
              refine ⟨fun W hW => ?_, hK _ ?_⟩
              first
           | (go_at_call 53; exact Calls.more hW (HW.out W))
              | (have x3 := cell_more HC.out hW (show (layArr wk cp pg st tr wt ck pr ca bi ba S)[3]? = some (.int .i64 st) from rfl); (try go_simp); try rfl)
              clear hK K))
      refine wpQuiet_nil ?_
      intro W hW
      have HX := Lib.hid hW
      clear hW
      go_wp2_with fail
      go_ret
      exact ⟨rfl, H1.out.trans HX.out⟩
    · have d1 : decide (S 12 ≤ a) = true := by simp; omega
      rw [show llockV st S a = 0 from if_neg (by omega)]
      go_enter Try.func38, Try.ntmps38
      go_wp2_with (first | refine wpList_load_row rfl 28 _ rfl _ rfl 28 _ _ _ HC.out Try.underlying28 rfl (by kernel_rfl) ?_ | refine wpList_load_rowG rfl 28 _ rfl _ rfl 28 _ _ _ HC.out Try.underlying28 rfl (by kernel_rfl) ?_)
      refine (HWd.out _).mono ?_
      rintro e w1 ⟨rfl, h1⟩
      go_wp2_with fail
      go_ret
      exact ⟨rfl, HM.out.trans h1⟩

theorem llive (a : Int) (R : LayOk cp pg st ca bi S) :
    Calls Try.prog 41 #[.agg (layArr wk cp pg st tr wt ck pr ca bi ba S), .int .i64 a] w (Gives w (.int .i64 (lliveV S a))) := by
  obtain ⟨r0, r1, r2, r3, r4, r5, r6, r7, r8, r9, r10, r11, r12, r13⟩ := R.all
  have HC := Lib.hid (row_new w (layArr wk cp pg st tr wt ck pr ca bi ba S) 28)
  have HM : Hid (More w (w.alloc (.cells (layArr wk cp pg st tr wt ck pr ca bi ba S) 28))) := (More.refl w).alloc _
  have HU := Lib.hid (fun W => luser wk cp pg st tr wt ck pr ca bi ba S W)
  have HWd := Lib.hid (fun W => lwords wk cp pg st tr wt ck pr ca bi ba S W)
  by_cases c0 : a < S 11
  · have d0 : decide (a < S 11) = true := by simp; omega
    rw [show lliveV S a = 0 from if_neg (by omega)]
    go_enter Try.func41, Try.ntmps41
    go_wp2_with (first | refine wpList_load_row rfl 28 _ rfl _ rfl 28 _ _ _ HC.out Try.underlying28 rfl (by kernel_rfl) ?_ | refine wpList_load_rowG rfl 28 _ rfl _ rfl 28 _ _ _ HC.out Try.underlying28 rfl (by kernel_rfl) ?_)
    refine (HU.out _).mono ?_
    rintro e w1 ⟨rfl, h1⟩
    go_wp2_with fail
    go_ret
    exact ⟨rfl, HM.out.trans h1⟩
  · have d0 : decide (a < S 11) = false := by simp; omega
    by_cases c1 : a < S 12
    · have d1 : decide (S 12 ≤ a) = false := by simp; omega
      rw [show lliveV S a = wordV (S 10) (S 11) (a - S 11) from if_pos (by omega)]
      have q1 : IntKind.i64.wrap (a - S 11) = a - S 11 := wrap_in (by omega) (by omega)
      have HW := Lib.hid (fun W => lword wk cp pg st tr wt ck pr ca bi ba S W 10 (a - S 11) (by omega) R)
      go_enter Try.func41, Try.ntmps41
      go_wp2_with (first | refine wpList_load_row rfl 28 _ rfl _ rfl 28 _ _ _ HC.out Try.underlying28 rfl (by kernel_rfl) ?_ | refine wpList_load_rowG rfl 28 _ rfl _ rfl 28 _ _ _ HC.out Try.underlying28 rfl (by kernel_rfl) ?_)
      refine (HU.out _).mono ?_
      rintro e w1 ⟨rfl, h1⟩
      have H1 := Lib.hid (HM.out.trans h1)
      have HC := Lib.hid (h1.block HC.out)
      clear h1
      go_wp2_with (first | refine wpList_load_row rfl 28 _ rfl _ rfl 28 _ _ _ HC.out Try.underlying28 rfl (by kernel_rfl) ?_ | refine wpList_load_rowG rfl 28 _ rfl _ rfl 28 _ _ _ HC.out Try.underlying28 rfl (by kernel_rfl) ?_)
      refine (HWd.out _).mono ?_
      rintro e w2 ⟨rfl, h2⟩
      have H2 := Lib.hid (H1.out.trans h2)
      have HC := Lib.hid (h2.block HC.out)
      clear h2
      go_wp2_with fail
      have hne : ∃ W, More w2 W := ⟨w2, More.refl _⟩
      refine wp_region_more (by kernel_rfl) (by kernel_rfl) ?_
      iterate 7
        first
        | (refine wpQuiet_load_row rfl 28 _ rfl _ rfl 28 _ _ _ (fun W hW => hW.block HC.out) Try.underlying28 rfl (by kernel_rfl) ?_)
        | (with_reducible refine wpQuiet_step (fun K hK => ?_)
           go_simp
           first
           | (refine hK _ ?_; clear hK K)
           | (apply Exists.intro
              refine ⟨fun W hW => ?_, hK _ ?_⟩
              first
           | (go_at_call 36; exact Calls.more hW (HU.out W))
           | (go_at_call 53; exact Calls.more hW (HW.out W))
              | (skip; (try go_simp); try rfl)
              clear hK K))
      refine wpQuiet_nil ?_
      intro W hW
      have HX := Lib.hid hW
      clear hW
      go_wp2_with fail
      go_ret
      exact ⟨rfl, H2.out.trans HX.out⟩
    · have d1 : decide (S 12 ≤ a) = true := by simp; omega
      rw [show lliveV S a = 0 from if_neg (by omega)]
      go_enter Try.func41, Try.ntmps41
      go_wp2_with (first | refine wpList_load_row rfl 28 _ rfl _ rfl 28 _ _ _ HC.out Try.underlying28 rfl (by kernel_rfl) ?_ | refine wpList_load_rowG rfl 28 _ rfl _ rfl 28 _ _ _ HC.out Try.underlying28 rfl (by kernel_rfl) ?_)
      refine (HU.out _).mono ?_
      rintro e w1 ⟨rfl, h1⟩
      have H1 := Lib.hid (HM.out.trans h1)
      have HC := Lib.hid (h1.block HC.out)
      clear h1
      go_wp2_with (first | refine wpList_load_row rfl 28 _ rfl _ rfl 28 _ _ _ HC.out Try.underlying28 rfl (by kernel_rfl) ?_ | refine wpList_load_rowG rfl 28 _ rfl _ rfl 28 _ _ _ HC.out Try.underlying28 rfl (by kernel_rfl) ?_)
      refine (HWd.out _).mono ?_
      rintro e w2 ⟨rfl, h2⟩
      go_wp2_with fail
      go_ret
      exact ⟨rfl, H1.out.trans h2⟩

theorem lplace_in (a : Int) (R : LayOk cp pg st ca bi S) (c0 : S 11 ≤ a) (c1 : a < S 12) :
    Calls Try.prog 33 #[.agg (layArr wk cp pg st tr wt ck pr ca bi ba S), .int .i64 a] w (Gives w (.tuple #[.int .i64 ((a - S 11) / 32), .int .i64 ((a - S 11) % 32), .bool true])) := by
  obtain ⟨r0, r1, r2, r3, r4, r5, r6, r7, r8, r9, r10, r11, r12, r13⟩ := R.all
  have HC := Lib.hid (row_new w (layArr wk cp pg st tr wt ck pr ca bi ba S) 28)
  have HM : Hid (More w (w.alloc (.cells (layArr wk cp pg st tr wt ck pr ca bi ba S) 28))) := (More.refl w).alloc _
  have HU := Lib.hid (fun W => luser wk cp pg st tr wt ck pr ca bi ba S W)
  have HWd := Lib.hid (fun W => lwords wk cp pg st tr wt ck pr ca bi ba S W)
  have d0 : decide (a < S 11) = false := by simp; omega
  have d1 : decide (S 12 ≤ a) = false := by simp; omega
  have q1 : IntKind.i64.wrap (a - S 11) = a - S 11 := wrap_in (by omega) (by omega)
  have q2 : IntKind.i64.wrap ((a - S 11).tdiv 32) = (a - S 11) / 32 := by rw [Int.tdiv_eq_ediv_of_nonneg (by omega)]; exact wrap_in (by omega) (by omega)
  have q3 : IntKind.i64.wrap ((a - S 11).tmod 32) = (a - S 11) % 32 := by rw [Int.tmod_eq_emod_of_nonneg (by omega)]; exact wrap_in (by omega) (by omega)
  have q4 : (a - S 11).tmod 32 = (a - S 11) % 32 := Int.tmod_eq_emod_of_nonneg (by omega)
  go_enter Try.func33, Try.ntmps33
  go_wp2_with (first | refine wpList_load_row rfl 28 _ rfl _ rfl 28 _ _ _ HC.out Try.underlying28 rfl (by kernel_rfl) ?_ | refine wpList_load_rowG rfl 28 _ rfl _ rfl 28 _ _ _ HC.out Try.underlying28 rfl (by kernel_rfl) ?_)
  refine (HU.out _).mono ?_
  rintro e w1 ⟨rfl, h1⟩
  have H1 := Lib.hid (HM.out.trans h1)
  have HC := Lib.hid (h1.block HC.out)
  clear h1
  go_wp2_with (first | refine wpList_load_row rfl 28 _ rfl _ rfl 28 _ _ _ HC.out Try.underlying28 rfl (by kernel_rfl) ?_ | refine wpList_load_rowG rfl 28 _ rfl _ rfl 28 _ _ _ HC.out Try.underlying28 rfl (by kernel_rfl) ?_)
  refine (HWd.out _).mono ?_
  rintro e w2 ⟨rfl, h2⟩
  have H2 := Lib.hid (H1.out.trans h2)
  have HC := Lib.hid (h2.block HC.out)
  clear h2
  go_wp2_with (first | refine wpList_load_row rfl 28 _ rfl _ rfl 28 _ _ _ HC.out Try.underlying28 rfl (by kernel_rfl) ?_ | refine wpList_load_rowG rfl 28 _ rfl _ rfl 28 _ _ _ HC.out Try.underlying28 rfl (by kernel_rfl) ?_)
  refine (HU.out _).mono ?_
  rintro e w3 ⟨rfl, h3⟩
  go_wp2_with fail
  go_ret3
  exact ⟨rfl, H2.out.trans h3⟩

theorem lplace_out (a : Int) (R : LayOk cp pg st ca bi S) (c : a < S 11 ∨ S 12 ≤ a) :
    Calls Try.prog 33 #[.agg (layArr wk cp pg st tr wt ck pr ca bi ba S), .int .i64 a] w (Gives w (.tuple #[.int .i64 0, .int .i64 0, .bool false])) := by
  obtain ⟨r0, r1, r2, r3, r4, r5, r6, r7, r8, r9, r10, r11, r12, r13⟩ := R.all
  have HC := Lib.hid (row_new w (layArr wk cp pg st tr wt ck pr ca bi ba S) 28)
  have HM : Hid (More w (w.alloc (.cells (layArr wk cp pg st tr wt ck pr ca bi ba S) 28))) := (More.refl w).alloc _
  have HU := Lib.hid (fun W => luser wk cp pg st tr wt ck pr ca bi ba S W)
  have HWd := Lib.hid (fun W => lwords wk cp pg st tr wt ck pr ca bi ba S W)
  by_cases c0 : a < S 11
  · have d0 : decide (a < S 11) = true := by simp; omega
    go_enter Try.func33, Try.ntmps33
    go_wp2_with (first | refine wpList_load_row rfl 28 _ rfl _ rfl 28 _ _ _ HC.out Try.underlying28 rfl (by kernel_rfl) ?_ | refine wpList_load_rowG rfl 28 _ rfl _ rfl 28 _ _ _ HC.out Try.underlying28 rfl (by kernel_rfl) ?_)
    refine (HU.out _).mono ?_
    rintro e w1 ⟨rfl, h1⟩
    go_wp2_with fail
    go_ret3
    exact ⟨rfl, HM.out.trans h1⟩
  · have d0 : decide (a < S 11) = false := by simp; omega
    have d1 : decide (S 12 ≤ a) = true := by simp; omega
    go_enter Try.func33, Try.ntmps33
    go_wp2_with (first | refine wpList_load_row rfl 28 _ rfl _ rfl 28 _ _ _ HC.out Try.underlying28 rfl (by kernel_rfl) ?_ | refine wpList_load_rowG rfl 28 _ rfl _ rfl 28 _ _ _ HC.out Try.underlying28 rfl (by kernel_rfl) ?_)
    refine (HU.out _).mono ?_
    rintro e w1 ⟨rfl, h1⟩
    have H1 := Lib.hid (HM.out.trans h1)
    have HC := Lib.hid (h1.block HC.out)
    clear h1
    go_wp2_with (first | refine wpList_load_row rfl 28 _ rfl _ rfl 28 _ _ _ HC.out Try.underlying28 rfl (by kernel_rfl) ?_ | refine wpList_load_rowG rfl 28 _ rfl _ rfl 28 _ _ _ HC.out Try.underlying28 rfl (by kernel_rfl) ?_)
    refine (HWd.out _).mono ?_
    rintro e w2 ⟨rfl, h2⟩
    go_wp2_with fail
    go_ret3
    exact ⟨rfl, H1.out.trans h2⟩

end Go.Proofs.Ytollofgcijlofaa
