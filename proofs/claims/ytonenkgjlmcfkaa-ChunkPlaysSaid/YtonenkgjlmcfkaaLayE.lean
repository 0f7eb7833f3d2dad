/-
  At a configuration that may be, the landed layout answers as the document does.
-/
import Derived.Test.YtonenkgjlmcfkaaLayD
namespace Go.Proofs.Ytonenkgjlmcfkaa
open Go.RowKit
set_option linter.unusedVariables false
set_option linter.unusedSimpArgs false

section
variable {wk cp pg st tr wt ck pr ca bi ba : Int}
theorem tbl_eq (R : CfgOk wk cp pg st tr wt ck pr ca bi ba) (k : Int) : partV ((startsV cp pg st ca bi) 1) ((startsV cp pg st ca bi) 2) k = tblV pg st k := by
  show (if 0 ≤ k ∧ k < tableV st + chunksV pg - tableV st then _ else _) = _
  unfold tblV
  rw [show tableV st + chunksV pg - tableV st = chunksV pg by omega]
  rfl
theorem page_eq0 (R : CfgOk wk cp pg st tr wt ck pr ca bi ba) (p : Int) : partV ((startsV cp pg st ca bi) 2) ((startsV cp pg st ca bi) 3) p = pageV pg st 0 p := by
  simp only [partV, startsV, pageV, headsV]
  by_cases h : 0 ≤ p ∧ p < pg
  · rw [if_pos (by omega), if_pos h] <;> (try omega)
  · rw [if_neg (by omega), if_neg h]
theorem page_eq1 (R : CfgOk wk cp pg st tr wt ck pr ca bi ba) (p : Int) : partV ((startsV cp pg st ca bi) 3) ((startsV cp pg st ca bi) 4) p = pageV pg st 1 p := by
  simp only [partV, startsV, pageV, headsV]
  by_cases h : 0 ≤ p ∧ p < pg
  · rw [if_pos (by omega), if_pos h] <;> (try omega)
  · rw [if_neg (by omega), if_neg h]
theorem page_eq2 (R : CfgOk wk cp pg st tr wt ck pr ca bi ba) (p : Int) : partV ((startsV cp pg st ca bi) 4) ((startsV cp pg st ca bi) 5) p = pageV pg st 2 p := by
  simp only [partV, startsV, pageV, headsV]
  by_cases h : 0 ≤ p ∧ p < pg
  · rw [if_pos (by omega), if_pos h] <;> (try omega)
  · rw [if_neg (by omega), if_neg h]
theorem page_eq3 (R : CfgOk wk cp pg st tr wt ck pr ca bi ba) (p : Int) : partV ((startsV cp pg st ca bi) 5) ((startsV cp pg st ca bi) 6) p = pageV pg st 3 p := by
  simp only [partV, startsV, pageV, headsV]
  by_cases h : 0 ≤ p ∧ p < pg
  · rw [if_pos (by omega), if_pos h] <;> (try omega)
  · rw [if_neg (by omega), if_neg h]
theorem page_eq4 (R : CfgOk wk cp pg st tr wt ck pr ca bi ba) (p : Int) : partV ((startsV cp pg st ca bi) 6) ((startsV cp pg st ca bi) 7) p = pageV pg st 4 p := by
  simp only [partV, startsV, pageV, headsV]
  by_cases h : 0 ≤ p ∧ p < pg
  · rw [if_pos (by omega), if_pos h] <;> (try omega)
  · rw [if_neg (by omega), if_neg h]
theorem head_eq (R : CfgOk wk cp pg st tr wt ck pr ca bi ba) (c f : Int) : lheadV (startsV cp pg st ca bi) c f = headV pg st c f := by
  unfold lheadV headV
  by_cases h : 0 ≤ c ∧ c ≤ 4 ∧ 1 ≤ f ∧ f ≤ slotsV c
  · rw [if_pos h, if_pos h]
    have : c = 0 ∨ c = 1 ∨ c = 2 ∨ c = 3 ∨ c = 4 := by omega
    simp only [partV, startsV, cachesV]
    rcases this with rfl | rfl | rfl | rfl | rfl <;> simp [slotsV, aheadV] at h ⊢ <;> (rw [if_pos (by omega)]; omega)
  · rw [if_neg h, if_neg h]
theorem cache_eq (R : CfgOk wk cp pg st tr wt ck pr ca bi ba) (u c : Int) : lcacheV cp ca (startsV cp pg st ca bi) u c = cacheV cp pg st ca u c := by
  unfold lcacheV cacheV
  by_cases h : 0 ≤ u ∧ u < cp ∧ 0 ≤ c ∧ c ≤ 4
  · rw [if_pos h, if_pos h]
    have h1 := R.ca1
    have h2 : 5 * u + c ≤ 5 * cp - 1 := by omega
    have h3 : (5 * u + c) * (ca + 1) ≤ (5 * cp - 1) * (ca + 1) := Int.mul_le_mul_of_nonneg_right h2 (by omega)
    have h4 : (5 * cp - 1) * (ca + 1) = 5 * cp * (ca + 1) - (ca + 1) := by rw [Int.sub_mul, Int.one_mul]
    have h5 : 0 ≤ (5 * u + c) * (ca + 1) := Int.mul_nonneg (by omega) (by omega)
    rw [show u * 5 + c = 5 * u + c by omega]
    simp only [partV, startsV, binsV]
    rw [if_pos (by omega)]
  · rw [if_neg h, if_neg h]
theorem bin_eq (R : CfgOk wk cp pg st tr wt ck pr ca bi ba) (c : Int) : lbinV bi (startsV cp pg st ca bi) c = binV cp pg st ca bi c := by
  unfold lbinV binV
  by_cases h : 0 ≤ c ∧ c ≤ 4
  · rw [if_pos h, if_pos h]
    have h1 := R.bi1
    have h3 : c * (bi + 1) ≤ 4 * (bi + 1) := Int.mul_le_mul_of_nonneg_right h.2 (by omega)
    have h5 : 0 ≤ c * (bi + 1) := Int.mul_nonneg h.1 (by omega)
    simp only [partV, startsV, liveV]
    rw [if_pos (by omega)]
  · rw [if_neg h, if_neg h]
theorem live_eq (R : CfgOk wk cp pg st tr wt ck pr ca bi ba) (a : Int) : lliveV (startsV cp pg st ca bi) a = liveAtV cp pg st ca bi a := by
  unfold lliveV liveAtV
  have b := userB R
  by_cases h : userV cp pg st ca bi ≤ a ∧ a < wordsV cp pg st ca bi
  · rw [if_pos h, if_pos (show (startsV cp pg st ca bi) 11 ≤ a ∧ a < (startsV cp pg st ca bi) 12 from h)]
    have : wordsV cp pg st ca bi = userV cp pg st ca bi + 32 * pg := rfl
    simp only [partV, startsV]
    rw [if_pos (by omega)]; omega
  · rw [if_neg h, if_neg (show ¬ ((startsV cp pg st ca bi) 11 ≤ a ∧ a < (startsV cp pg st ca bi) 12) from h)]
theorem addr_eq (R : CfgOk wk cp pg st tr wt ck pr ca bi ba) (p : Int) : laddrV pg (startsV cp pg st ca bi) p = addrV cp pg st ca bi p := by
  unfold laddrV addrV
  by_cases h : 0 ≤ p ∧ p < pg
  · rw [if_pos h, if_pos h]
    simp only [partV, startsV, wordsV]
    rw [if_pos (by omega)]; omega
  · rw [if_neg h, if_neg h]
theorem lock_eq (R : CfgOk wk cp pg st tr wt ck pr ca bi ba) (a : Int) : llockV st (startsV cp pg st ca bi) a = lockV cp pg st ca bi a := by
  unfold llockV lockV
  by_cases h : 0 ≤ a ∧ a < wordsV cp pg st ca bi
  · rw [if_pos h, if_pos (show 0 ≤ a ∧ a < (startsV cp pg st ca bi) 12 from h)]
    have h1 := R.st1
    have m0 := Int.emod_nonneg a (show st ≠ 0 by omega)
    have m1 := Int.emod_lt_of_pos a (show 0 < st by omega)
    simp only [partV, startsV, tableV]
    rw [if_pos (by omega)]
  · rw [if_neg h, if_neg (show ¬ (0 ≤ a ∧ a < (startsV cp pg st ca bi) 12) from h)]
end

variable {wk cp pg st tr wt ck pr ca bi ba : Int} (R : CfgOk wk cp pg st tr wt ck pr ca bi ba) (w : World)
theorem xtable (R : CfgOk wk cp pg st tr wt ck pr ca bi ba) (w : World) (k : Int) : Calls Try.prog 29 #[.agg (layArr wk cp pg st tr wt ck pr ca bi ba (startsV cp pg st ca bi)), .int .i64 k] w (Gives w (.int .i64 (tblV pg st k))) := by
  rw [← tbl_eq R k]; exact ltable wk cp pg st tr wt ck pr ca bi ba (startsV cp pg st ca bi) w k (layOk_starts R)
theorem xwords (R : CfgOk wk cp pg st tr wt ck pr ca bi ba) (w : World) : Calls Try.prog 30 #[.agg (layArr wk cp pg st tr wt ck pr ca bi ba (startsV cp pg st ca bi))] w (Gives w (.int .i64 (wordsV cp pg st ca bi))) := lwords wk cp pg st tr wt ck pr ca bi ba (startsV cp pg st ca bi) w
theorem xchunks (R : CfgOk wk cp pg st tr wt ck pr ca bi ba) (w : World) : Calls Try.prog 28 #[.agg (layArr wk cp pg st tr wt ck pr ca bi ba (startsV cp pg st ca bi))] w (Gives w (.int .i64 (chunksV pg))) := lChunks wk cp pg st tr wt ck pr ca bi ba (startsV cp pg st ca bi) w (layOk_starts R)
theorem xconfig (R : CfgOk wk cp pg st tr wt ck pr ca bi ba) (w : World) : Calls Try.prog 25 #[.agg (layArr wk cp pg st tr wt ck pr ca bi ba (startsV cp pg st ca bi))] w (Gives w (.agg #[.int .i64 wk, .int .i64 cp, .int .i64 pg, .int .i64 st, .int .i64 tr, .int .i64 wt, .int .i64 ck, .int .i64 pr, .int .i64 ca, .int .i64 bi, .int .i64 ba])) := lconfig wk cp pg st tr wt ck pr ca bi ba (startsV cp pg st ca bi) w
end Go.Proofs.Ytonenkgjlmcfkaa
