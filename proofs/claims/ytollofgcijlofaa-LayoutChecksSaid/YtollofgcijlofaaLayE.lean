/-
  At a configuration that may be, the landed layout answers as the document does.
-/
import Derived.Test.YtollofgcijlofaaLayD
namespace Go.Proofs.Ytollofgcijlofaa
open Go.RowKit
set_option linter.unusedVariables false
set_option linter.unusedSimpArgs false

section
variable {wk cp pg st tr wt ck pr ca bi ba : Int}
theorem tbl_eq (R : CfgOk wk cp pg st tr wt ck pr ca bi ba) (k : Int) : wordV ((startsV cp pg st ca bi) 1) ((startsV cp pg st ca bi) 2) k = tblV pg st k := by
  show (if 0 ≤ k ∧ k < tableV st + chunksV pg - tableV st then _ else _) = _
  unfold tblV
  rw [show tableV st + chunksV pg - tableV st = chunksV pg by omega]
  rfl
theorem page_eq0 (R : CfgOk wk cp pg st tr wt ck pr ca bi ba) (p : Int) : wordV ((startsV cp pg st ca bi) 2) ((startsV cp pg st ca bi) 3) p = pageV pg st 0 p := by
  simp only [wordV, startsV, pageV, headsV]
  by_cases h : 0 ≤ p ∧ p < pg
  · rw [if_pos (by omega), if_pos h] <;> (try omega)
  · rw [if_neg (by omega), if_neg h]
theorem page_eq1 (R : CfgOk wk cp pg st tr wt ck pr ca bi ba) (p : Int) : wordV ((startsV cp pg st ca bi) 3) ((startsV cp pg st ca bi) 4) p = pageV pg st 1 p := by
  simp only [wordV, startsV, pageV, headsV]
  by_cases h : 0 ≤ p ∧ p < pg
  · rw [if_pos (by omega), if_pos h] <;> (try omega)
  · rw [if_neg (by omega), if_neg h]
theorem page_eq2 (R : CfgOk wk cp pg st tr wt ck pr ca bi ba) (p : Int) : wordV ((startsV cp pg st ca bi) 4) ((startsV cp pg st ca bi) 5) p = pageV pg st 2 p := by
  simp only [wordV, startsV, pageV, headsV]
  by_cases h : 0 ≤ p ∧ p < pg
  · rw [if_pos (by omega), if_pos h] <;> (try omega)
  · rw [if_neg (by omega), if_neg h]
theorem page_eq3 (R : CfgOk wk cp pg st tr wt ck pr ca bi ba) (p : Int) : wordV ((startsV cp pg st ca bi) 5) ((startsV cp pg st ca bi) 6) p = pageV pg st 3 p := by
  simp only [wordV, startsV, pageV, headsV]
  by_cases h : 0 ≤ p ∧ p < pg
  · rw [if_pos (by omega), if_pos h] <;> (try omega)
  · rw [if_neg (by omega), if_neg h]
theorem page_eq4 (R : CfgOk wk cp pg st tr wt ck pr ca bi ba) (p : Int) : wordV ((startsV cp pg st ca bi) 6) ((startsV cp pg st ca bi) 7) p = pageV pg st 4 p := by
  simp only [wordV, startsV, pageV, headsV]
  by_cases h : 0 ≤ p ∧ p < pg
  · rw [if_pos (by omega), if_pos h] <;> (try omega)
  · rw [if_neg (by omega), if_neg h]
theorem head_eq (R : CfgOk wk cp pg st tr wt ck pr ca bi ba) (c f : Int) : lheadV (startsV cp pg st ca bi) c f = headV pg st c f := by
  unfold lheadV headV
  by_cases h : 0 ≤ c ∧ c ≤ 4 ∧ 1 ≤ f ∧ f ≤ slotsV c
  · rw [if_pos h, if_pos h]
    have : c = 0 ∨ c = 1 ∨ c = 2 ∨ c = 3 ∨ c = 4 := by omega
    simp only [wordV, startsV, cachesV]
    rcases this with rfl | rfl | rfl | rfl | rfl <;> simp [slotsV, aheadV] at h ⊢ <;> (rw [if_pos (by omega)]; omega)
  · rw [if_neg h, if_neg h]
theorem cache_eq (R : CfgOk wk cp pg st tr wt ck pr ca bi ba) (u c : Int) : lcacheV cp ca (startsV cp pg st ca bi) u c = cacheV cp pg st ca u c := by
  unfold lcacheV cacheV
  by_cases h : 0 ≤ u ∧ u < cp ∧ 0 ≤ c ∧ c ≤ 4
  · rw [if_pos h, if_pos h]
    have h1 := R.ca1
    have h2 : 5 * u + c ≤ 5 * cp - 1 := by omega
    have h3 : (5 * u + c) * (ca + 1) ≤ (5 * cp - 1) * (ca + 1) := Int.mul_le_mul_of_nonneg_right h2 (by omega)
    have h4 : (5 * cp - 1) * (ca + 1) = 5 * cp * (ca + 1) - (ca + 1) := by rw [Int.sub_mul, Int.one_mul]
    have h5 : 0 ≤ (5 * u + c) * (ca + 1) := Int.mul_nonneg (by omega) (by omega)
    rw [show u * 5 + c = 5 * u + c by omega]
    simp only [wordV, startsV, binsV]
    rw [if_pos (by omega)]
  · rw [if_neg h, if_neg h]
theorem bin_eq (R : CfgOk wk cp pg st tr wt ck pr ca bi ba) (c : Int) : lbinV bi (startsV cp pg st ca bi) c = binV cp pg st ca bi c := by
  unfold lbinV binV
  by_cases h : 0 ≤ c ∧ c ≤ 4
  · rw [if_pos h, if_pos h]
    have h1 := R.bi1
    have h3 : c * (bi + 1) ≤ 4 * (bi + 1) := Int.mul_le_mul_of_nonneg_right h.2 (by omega)
    have h5 : 0 ≤ c * (bi + 1) := Int.mul_nonneg h.1 (by omega)
    simp only [wordV, startsV, liveV]
    rw [if_pos (by omega)]
  · rw [if_neg h, if_neg h]
theorem live_eq (R : CfgOk wk cp pg st tr wt ck pr ca bi ba) (a : Int) : lliveV (startsV cp pg st ca bi) a = liveAtV cp pg st ca bi a := by
  unfold lliveV liveAtV
  have b := userB R
  by_cases h : userV cp pg st ca bi ≤ a ∧ a < wordsV cp pg st ca bi
  · rw [if_pos h, if_pos (show (startsV cp pg st ca bi) 11 ≤ a ∧ a < (startsV cp pg st ca bi) 12 from h)]
    have : wordsV cp pg st ca bi = userV cp pg st ca bi + 32 * pg := rfl
    simp only [wordV, startsV]
    rw [if_pos (by omega)]; omega
  · rw [if_neg h, if_neg (show ¬ ((startsV cp pg st ca bi) 11 ≤ a ∧ a < (startsV cp pg st ca bi) 12) from h)]
theorem addr_eq (R : CfgOk wk cp pg st tr wt ck pr ca bi ba) (p : Int) : laddrV pg (startsV cp pg st ca bi) p = addrV cp pg st ca bi p := by
  unfold laddrV addrV
  by_cases h : 0 ≤ p ∧ p < pg
  · rw [if_pos h, if_pos h]
    simp only [wordV, startsV, wordsV]
    rw [if_pos (by omega)]; omega
  · rw [if_neg h, if_neg h]
theorem lock_eq (R : CfgOk wk cp pg st tr wt ck pr ca bi ba) (a : Int) : llockV st (startsV cp pg st ca bi) a = lockV cp pg st ca bi a := by
  unfold llockV lockV
  by_cases h : 0 ≤ a ∧ a < wordsV cp pg st ca bi
  · rw [if_pos h, if_pos (show 0 ≤ a ∧ a < (startsV cp pg st ca bi) 12 from h)]
    have h1 := R.st1
    have m0 := Int.emod_nonneg a (show st ≠ 0 by omega)
    have m1 := Int.emod_lt_of_pos a (show 0 < st by omega)
    simp only [wordV, startsV, tableV]
    rw [if_pos (by omega)]
  · rw [if_neg h, if_neg (show ¬ (0 ≤ a ∧ a < (startsV cp pg st ca bi) 12) from h)]
end

variable {wk cp pg st tr wt ck pr ca bi ba : Int} (R : CfgOk wk cp pg st tr wt ck pr ca bi ba) (w : World)
theorem xtable (R : CfgOk wk cp pg st tr wt ck pr ca bi ba) (w : World) (k : Int) : Calls Try.prog 17 #[.agg (layArr wk cp pg st tr wt ck pr ca bi ba (startsV cp pg st ca bi)), .int .i64 k] w (Gives w (.int .i64 (tblV pg st k))) := by
  rw [← tbl_eq R k]; exact ltable wk cp pg st tr wt ck pr ca bi ba (startsV cp pg st ca bi) w k (layOk_starts R)
theorem xkind (R : CfgOk wk cp pg st tr wt ck pr ca bi ba) (w : World) (k : Int) : Calls Try.prog 21 #[.agg (layArr wk cp pg st tr wt ck pr ca bi ba (startsV cp pg st ca bi)), .int .i64 k] w (Gives w (.int .i64 (pageV pg st 0 k))) := by
  rw [← page_eq0 R k]; exact lkind wk cp pg st tr wt ck pr ca bi ba (startsV cp pg st ca bi) w k (layOk_starts R)
theorem xcount (R : CfgOk wk cp pg st tr wt ck pr ca bi ba) (w : World) (k : Int) : Calls Try.prog 23 #[.agg (layArr wk cp pg st tr wt ck pr ca bi ba (startsV cp pg st ca bi)), .int .i64 k] w (Gives w (.int .i64 (pageV pg st 1 k))) := by
  rw [← page_eq1 R k]; exact lcount wk cp pg st tr wt ck pr ca bi ba (startsV cp pg st ca bi) w k (layOk_starts R)
theorem xbits (R : CfgOk wk cp pg st tr wt ck pr ca bi ba) (w : World) (k : Int) : Calls Try.prog 25 #[.agg (layArr wk cp pg st tr wt ck pr ca bi ba (startsV cp pg st ca bi)), .int .i64 k] w (Gives w (.int .i64 (pageV pg st 2 k))) := by
  rw [← page_eq2 R k]; exact lbits wk cp pg st tr wt ck pr ca bi ba (startsV cp pg st ca bi) w k (layOk_starts R)
theorem xnext (R : CfgOk wk cp pg st tr wt ck pr ca bi ba) (w : World) (k : Int) : Calls Try.prog 27 #[.agg (layArr wk cp pg st tr wt ck pr ca bi ba (startsV cp pg st ca bi)), .int .i64 k] w (Gives w (.int .i64 (pageV pg st 3 k))) := by
  rw [← page_eq3 R k]; exact lnext wk cp pg st tr wt ck pr ca bi ba (startsV cp pg st ca bi) w k (layOk_starts R)
theorem xprev (R : CfgOk wk cp pg st tr wt ck pr ca bi ba) (w : World) (k : Int) : Calls Try.prog 29 #[.agg (layArr wk cp pg st tr wt ck pr ca bi ba (startsV cp pg st ca bi)), .int .i64 k] w (Gives w (.int .i64 (pageV pg st 4 k))) := by
  rw [← page_eq4 R k]; exact lprev wk cp pg st tr wt ck pr ca bi ba (startsV cp pg st ca bi) w k (layOk_starts R)
theorem xhead (R : CfgOk wk cp pg st tr wt ck pr ca bi ba) (w : World) (c f : Int) : Calls Try.prog 19 #[.agg (layArr wk cp pg st tr wt ck pr ca bi ba (startsV cp pg st ca bi)), .int .i64 c, .int .i64 f] w (Gives w (.int .i64 (headV pg st c f))) := by
  rw [← head_eq R c f]; exact lhead wk cp pg st tr wt ck pr ca bi ba (startsV cp pg st ca bi) w c f (layOk_starts R)
theorem xcache (R : CfgOk wk cp pg st tr wt ck pr ca bi ba) (w : World) (u c : Int) : Calls Try.prog 39 #[.agg (layArr wk cp pg st tr wt ck pr ca bi ba (startsV cp pg st ca bi)), .int .i64 u, .int .i64 c] w (Gives w (.int .i64 (cacheV cp pg st ca u c))) := by
  rw [← cache_eq R u c]; exact lcache wk cp pg st tr wt ck pr ca bi ba (startsV cp pg st ca bi) w u c (layOk_starts R)
theorem xbin (R : CfgOk wk cp pg st tr wt ck pr ca bi ba) (w : World) (c : Int) : Calls Try.prog 40 #[.agg (layArr wk cp pg st tr wt ck pr ca bi ba (startsV cp pg st ca bi)), .int .i64 c] w (Gives w (.int .i64 (binV cp pg st ca bi c))) := by
  rw [← bin_eq R c]; exact lbin wk cp pg st tr wt ck pr ca bi ba (startsV cp pg st ca bi) w c (layOk_starts R)
theorem xlive (R : CfgOk wk cp pg st tr wt ck pr ca bi ba) (w : World) (a : Int) : Calls Try.prog 41 #[.agg (layArr wk cp pg st tr wt ck pr ca bi ba (startsV cp pg st ca bi)), .int .i64 a] w (Gives w (.int .i64 (liveAtV cp pg st ca bi a))) := by
  rw [← live_eq R a]; exact llive wk cp pg st tr wt ck pr ca bi ba (startsV cp pg st ca bi) w a (layOk_starts R)
theorem xaddr (R : CfgOk wk cp pg st tr wt ck pr ca bi ba) (w : World) (p : Int) : Calls Try.prog 31 #[.agg (layArr wk cp pg st tr wt ck pr ca bi ba (startsV cp pg st ca bi)), .int .i64 p] w (Gives w (.int .i64 (addrV cp pg st ca bi p))) := by
  rw [← addr_eq R p]; exact laddr wk cp pg st tr wt ck pr ca bi ba (startsV cp pg st ca bi) w p (layOk_starts R)
theorem xlock (R : CfgOk wk cp pg st tr wt ck pr ca bi ba) (w : World) (a : Int) : Calls Try.prog 38 #[.agg (layArr wk cp pg st tr wt ck pr ca bi ba (startsV cp pg st ca bi)), .int .i64 a] w (Gives w (.int .i64 (lockV cp pg st ca bi a))) := by
  rw [← lock_eq R a]; exact llock wk cp pg st tr wt ck pr ca bi ba (startsV cp pg st ca bi) w a (layOk_starts R)
theorem xuser (R : CfgOk wk cp pg st tr wt ck pr ca bi ba) (w : World) : Calls Try.prog 36 #[.agg (layArr wk cp pg st tr wt ck pr ca bi ba (startsV cp pg st ca bi))] w (Gives w (.int .i64 (userV cp pg st ca bi))) := luser wk cp pg st tr wt ck pr ca bi ba (startsV cp pg st ca bi) w
theorem xwords (R : CfgOk wk cp pg st tr wt ck pr ca bi ba) (w : World) : Calls Try.prog 12 #[.agg (layArr wk cp pg st tr wt ck pr ca bi ba (startsV cp pg st ca bi))] w (Gives w (.int .i64 (wordsV cp pg st ca bi))) := lwords wk cp pg st tr wt ck pr ca bi ba (startsV cp pg st ca bi) w
theorem xchunks (R : CfgOk wk cp pg st tr wt ck pr ca bi ba) (w : World) : Calls Try.prog 15 #[.agg (layArr wk cp pg st tr wt ck pr ca bi ba (startsV cp pg st ca bi))] w (Gives w (.int .i64 (chunksV pg))) := lChunks wk cp pg st tr wt ck pr ca bi ba (startsV cp pg st ca bi) w (layOk_starts R)
theorem xconfig (R : CfgOk wk cp pg st tr wt ck pr ca bi ba) (w : World) : Calls Try.prog 11 #[.agg (layArr wk cp pg st tr wt ck pr ca bi ba (startsV cp pg st ca bi))] w (Gives w (.agg #[.int .i64 wk, .int .i64 cp, .int .i64 pg, .int .i64 st, .int .i64 tr, .int .i64 wt, .int .i64 ck, .int .i64 pr, .int .i64 ca, .int .i64 bi, .int .i64 ba])) := lconfig wk cp pg st tr wt ck pr ca bi ba (startsV cp pg st ca bi) w
theorem xplace_in (R : CfgOk wk cp pg st tr wt ck pr ca bi ba) (w : World) (a : Int) (c0 : userV cp pg st ca bi ≤ a) (c1 : a < wordsV cp pg st ca bi) : Calls Try.prog 33 #[.agg (layArr wk cp pg st tr wt ck pr ca bi ba (startsV cp pg st ca bi)), .int .i64 a] w (Gives w (.tuple #[.int .i64 ((a - userV cp pg st ca bi) / 32), .int .i64 ((a - userV cp pg st ca bi) % 32), .bool true])) := lplace_in wk cp pg st tr wt ck pr ca bi ba (startsV cp pg st ca bi) w a (layOk_starts R) c0 c1
theorem xplace_out (R : CfgOk wk cp pg st tr wt ck pr ca bi ba) (w : World) (a : Int) (c : a < userV cp pg st ca bi ∨ wordsV cp pg st ca bi ≤ a) : Calls Try.prog 33 #[.agg (layArr wk cp pg st tr wt ck pr ca bi ba (startsV cp pg st ca bi)), .int .i64 a] w (Gives w (.tuple #[.int .i64 0, .int .i64 0, .bool false])) := lplace_out wk cp pg st tr wt ck pr ca bi ba (startsV cp pg st ca bi) w a (layOk_starts R) c

end Go.Proofs.Ytollofgcijlofaa
