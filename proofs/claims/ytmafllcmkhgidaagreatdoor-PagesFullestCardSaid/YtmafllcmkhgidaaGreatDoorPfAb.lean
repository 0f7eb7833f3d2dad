/-
  At a configuration that may be, the landed layout answers as the document does.
-/
import Derived.Test.YtmafllcmkhgidaaGreatDoorPfAa
set_option maxRecDepth 100000
set_option maxHeartbeats 8000000
set_option linter.unusedVariables false
set_option linter.unusedSimpArgs false
set_option linter.unusedSectionVars false
namespace Go.Proofs.YtmafllcmkhgidaaGreatDoor
open Go.RowKit
section
variable {wk cp pg st tr wt ck pr ca bi ba : Int}
theorem tbl_eq (R : CfgOk wk cp pg st tr wt ck pr ca bi ba) (k : Int) : partV ((startsV cp pg st ca bi) 1) ((startsV cp pg st ca bi) 2) k = tblV pg st k := by
 show (if 0 ≤ k ∧ k < tableV st + chunksV pg - tableV st then _ else _) = _
 unfold tblV
 rw [show tableV st + chunksV pg - tableV st = chunksV pg by omega]
 rfl
theorem page_eq0 (R : CfgOk wk cp pg st tr wt ck pr ca bi ba) (p : Int) : partV ((startsV cp pg st ca bi) 2) ((startsV cp pg st ca bi) 3) p = pageV pg st 0 p := by
 simp only [partV,startsV,pageV,headsV]
 by_cases h : 0 ≤ p ∧ p < pg
 · rw [if_pos (by omega),if_pos h] <;> (try omega)
 · rw [if_neg (by omega),if_neg h]
theorem page_eq1 (R : CfgOk wk cp pg st tr wt ck pr ca bi ba) (p : Int) : partV ((startsV cp pg st ca bi) 3) ((startsV cp pg st ca bi) 4) p = pageV pg st 1 p := by
 simp only [partV,startsV,pageV,headsV]
 by_cases h : 0 ≤ p ∧ p < pg
 · rw [if_pos (by omega),if_pos h] <;> (try omega)
 · rw [if_neg (by omega),if_neg h]
theorem page_eq2 (R : CfgOk wk cp pg st tr wt ck pr ca bi ba) (p : Int) : partV ((startsV cp pg st ca bi) 4) ((startsV cp pg st ca bi) 5) p = pageV pg st 2 p := by
 simp only [partV,startsV,pageV,headsV]
 by_cases h : 0 ≤ p ∧ p < pg
 · rw [if_pos (by omega),if_pos h] <;> (try omega)
 · rw [if_neg (by omega),if_neg h]
theorem page_eq3 (R : CfgOk wk cp pg st tr wt ck pr ca bi ba) (p : Int) : partV ((startsV cp pg st ca bi) 5) ((startsV cp pg st ca bi) 6) p = pageV pg st 3 p := by
 simp only [partV,startsV,pageV,headsV]
 by_cases h : 0 ≤ p ∧ p < pg
 · rw [if_pos (by omega),if_pos h] <;> (try omega)
 · rw [if_neg (by omega),if_neg h]
theorem page_eq4 (R : CfgOk wk cp pg st tr wt ck pr ca bi ba) (p : Int) : partV ((startsV cp pg st ca bi) 6) ((startsV cp pg st ca bi) 7) p = pageV pg st 4 p := by
 simp only [partV,startsV,pageV,headsV]
 by_cases h : 0 ≤ p ∧ p < pg
 · rw [if_pos (by omega),if_pos h] <;> (try omega)
 · rw [if_neg (by omega),if_neg h]
theorem head_eq (R : CfgOk wk cp pg st tr wt ck pr ca bi ba) (c f : Int) : lheadV (startsV cp pg st ca bi) c f = headV pg st c f := by
 unfold lheadV headV
 by_cases h : 0 ≤ c ∧ c ≤ 4 ∧ 1 ≤ f ∧ f ≤ slotsV c
 · rw [if_pos h,if_pos h]
   have : c = 0 ∨ c = 1 ∨ c = 2 ∨ c = 3 ∨ c = 4 := by omega
   simp only [partV,startsV,cachesV]
   rcases this with rfl | rfl | rfl | rfl | rfl <;> simp [slotsV,aheadV] at h ⊢ <;> (rw [if_pos (by omega)]; omega)
 · rw [if_neg h,if_neg h]
theorem addr_eq (R : CfgOk wk cp pg st tr wt ck pr ca bi ba) (p : Int) : laddrV pg (startsV cp pg st ca bi) p = addrV cp pg st ca bi p := by
 unfold laddrV addrV
 by_cases h : 0 ≤ p ∧ p < pg
 · rw [if_pos h,if_pos h]
   simp only [partV,startsV,wordsV]
   rw [if_pos (by omega)]; omega
 · rw [if_neg h,if_neg h]
end
variable {wk cp pg st tr wt ck pr ca bi ba : Int} (R : CfgOk wk cp pg st tr wt ck pr ca bi ba) (w : World)
theorem xtable (R : CfgOk wk cp pg st tr wt ck pr ca bi ba) (w : World) (k : Int) : Calls Tryz.prog 121 #[.agg (layArr wk cp pg st tr wt ck pr ca bi ba (startsV cp pg st ca bi)),.int .i64 k] w (Gives w (.int .i64 (tblV pg st k))) := by
 rw [← tbl_eq R k]; exact ltable wk cp pg st tr wt ck pr ca bi ba (startsV cp pg st ca bi) w k (layOk_starts R)
theorem xkind (R : CfgOk wk cp pg st tr wt ck pr ca bi ba) (w : World) (k : Int) : Calls Tryz.prog 7 #[.agg (layArr wk cp pg st tr wt ck pr ca bi ba (startsV cp pg st ca bi)),.int .i64 k] w (Gives w (.int .i64 (pageV pg st 0 k))) := by
 rw [← page_eq0 R k]; exact lkind wk cp pg st tr wt ck pr ca bi ba (startsV cp pg st ca bi) w k (layOk_starts R)
theorem xcount (R : CfgOk wk cp pg st tr wt ck pr ca bi ba) (w : World) (k : Int) : Calls Tryz.prog 69 #[.agg (layArr wk cp pg st tr wt ck pr ca bi ba (startsV cp pg st ca bi)),.int .i64 k] w (Gives w (.int .i64 (pageV pg st 1 k))) := by
 rw [← page_eq1 R k]; exact lcount wk cp pg st tr wt ck pr ca bi ba (startsV cp pg st ca bi) w k (layOk_starts R)
theorem xbits (R : CfgOk wk cp pg st tr wt ck pr ca bi ba) (w : World) (k : Int) : Calls Tryz.prog 11 #[.agg (layArr wk cp pg st tr wt ck pr ca bi ba (startsV cp pg st ca bi)),.int .i64 k] w (Gives w (.int .i64 (pageV pg st 2 k))) := by
 rw [← page_eq2 R k]; exact lbits wk cp pg st tr wt ck pr ca bi ba (startsV cp pg st ca bi) w k (layOk_starts R)
theorem xnext (R : CfgOk wk cp pg st tr wt ck pr ca bi ba) (w : World) (k : Int) : Calls Tryz.prog 95 #[.agg (layArr wk cp pg st tr wt ck pr ca bi ba (startsV cp pg st ca bi)),.int .i64 k] w (Gives w (.int .i64 (pageV pg st 3 k))) := by
 rw [← page_eq3 R k]; exact lnext wk cp pg st tr wt ck pr ca bi ba (startsV cp pg st ca bi) w k (layOk_starts R)
theorem xprev (R : CfgOk wk cp pg st tr wt ck pr ca bi ba) (w : World) (k : Int) : Calls Tryz.prog 96 #[.agg (layArr wk cp pg st tr wt ck pr ca bi ba (startsV cp pg st ca bi)),.int .i64 k] w (Gives w (.int .i64 (pageV pg st 4 k))) := by
 rw [← page_eq4 R k]; exact lprev wk cp pg st tr wt ck pr ca bi ba (startsV cp pg st ca bi) w k (layOk_starts R)
theorem xhead (R : CfgOk wk cp pg st tr wt ck pr ca bi ba) (w : World) (c f : Int) : Calls Tryz.prog 59 #[.agg (layArr wk cp pg st tr wt ck pr ca bi ba (startsV cp pg st ca bi)),.int .i64 c,.int .i64 f] w (Gives w (.int .i64 (headV pg st c f))) := by
 rw [← head_eq R c f]; exact lhead wk cp pg st tr wt ck pr ca bi ba (startsV cp pg st ca bi) w c f (layOk_starts R)
theorem xaddr (R : CfgOk wk cp pg st tr wt ck pr ca bi ba) (w : World) (p : Int) : Calls Tryz.prog 41 #[.agg (layArr wk cp pg st tr wt ck pr ca bi ba (startsV cp pg st ca bi)),.int .i64 p] w (Gives w (.int .i64 (addrV cp pg st ca bi p))) := by
 rw [← addr_eq R p]; exact laddr wk cp pg st tr wt ck pr ca bi ba (startsV cp pg st ca bi) w p (layOk_starts R)
theorem xuser (R : CfgOk wk cp pg st tr wt ck pr ca bi ba) (w : World) : Calls Tryz.prog 23 #[.agg (layArr wk cp pg st tr wt ck pr ca bi ba (startsV cp pg st ca bi))] w (Gives w (.int .i64 (userV cp pg st ca bi))) := luser wk cp pg st tr wt ck pr ca bi ba (startsV cp pg st ca bi) w
theorem xwords (R : CfgOk wk cp pg st tr wt ck pr ca bi ba) (w : World) : Calls Tryz.prog 20 #[.agg (layArr wk cp pg st tr wt ck pr ca bi ba (startsV cp pg st ca bi))] w (Gives w (.int .i64 (wordsV cp pg st ca bi))) := lwords wk cp pg st tr wt ck pr ca bi ba (startsV cp pg st ca bi) w
theorem xconfig (R : CfgOk wk cp pg st tr wt ck pr ca bi ba) (w : World) : Calls Tryz.prog 6 #[.agg (layArr wk cp pg st tr wt ck pr ca bi ba (startsV cp pg st ca bi))] w (Gives w (.agg #[.int .i64 wk,.int .i64 cp,.int .i64 pg,.int .i64 st,.int .i64 tr,.int .i64 wt,.int .i64 ck,.int .i64 pr,.int .i64 ca,.int .i64 bi,.int .i64 ba])) := lconfig wk cp pg st tr wt ck pr ca bi ba (startsV cp pg st ca bi) w
theorem xplace_in (R : CfgOk wk cp pg st tr wt ck pr ca bi ba) (w : World) (a : Int) (c0 : userV cp pg st ca bi ≤ a) (c1 : a < wordsV cp pg st ca bi) : Calls Tryz.prog 16 #[.agg (layArr wk cp pg st tr wt ck pr ca bi ba (startsV cp pg st ca bi)),.int .i64 a] w (Gives w (.tuple #[.int .i64 ((a - userV cp pg st ca bi) / 32),.int .i64 ((a - userV cp pg st ca bi) % 32),.bool true])) := lplace_in wk cp pg st tr wt ck pr ca bi ba (startsV cp pg st ca bi) w a (layOk_starts R) c0 c1
theorem xplace_out (R : CfgOk wk cp pg st tr wt ck pr ca bi ba) (w : World) (a : Int) (c : a < userV cp pg st ca bi ∨ wordsV cp pg st ca bi ≤ a) : Calls Tryz.prog 16 #[.agg (layArr wk cp pg st tr wt ck pr ca bi ba (startsV cp pg st ca bi)),.int .i64 a] w (Gives w (.tuple #[.int .i64 0,.int .i64 0,.bool false])) := lplace_out wk cp pg st tr wt ck pr ca bi ba (startsV cp pg st ca bi) w a (layOk_starts R) c
end Go.Proofs.YtmafllcmkhgidaaGreatDoor
