/-
  Contracts of package layout's lengths, Check and Of.
-/
import Derived.Test.YtonenkgjlmcfkaaLayB
import Derived.Test.YtonenkgjlmcfkaaQuietTail
namespace Go.Proofs.Ytonenkgjlmcfkaa
open Go.RowKit
set_option linter.unusedVariables false
set_option linter.unusedSimpArgs false

/-- How many words each part has. -/
def lensArr (cp pg st ca bi : Int) : Array Value := #[.int .i64 st, .int .i64 (chunksV pg), .int .i64 pg, .int .i64 pg, .int .i64 pg, .int .i64 pg, .int .i64 pg, .int .i64 62, .int .i64 (cp * 5 * (ca + 1)), .int .i64 (5 * (bi + 1)), .int .i64 (pg * 32), .int .i64 (pg * 32)]

variable (wk cp pg st tr wt ck pr ca bi ba : Int) (w : World)

set_option maxHeartbeats 2000000 in
theorem llengths (R : CfgOk wk cp pg st tr wt ck pr ca bi ba) : Calls Try.prog 45 #[.agg #[.int .i64 wk, .int .i64 cp, .int .i64 pg, .int .i64 st, .int .i64 tr, .int .i64 wt, .int .i64 ck, .int .i64 pr, .int .i64 ca, .int .i64 bi, .int .i64 ba]] w (Gives w (.agg (lensArr cp pg st ca bi))) := by
  have g1 := R.cp1
  have g2 := R.cp2
  have g3 := R.ca1
  have g4 := R.ca2
  have g5 := R.bi1
  have g6 := R.bi2
  have g7 := R.pg1
  have g8 := R.pg2
  have g9 := mulB (a := cp * 5) (b := ca + 1) (A := 40) (B := 9) (by omega) (by omega) (by omega) (by omega)
  have q0 : IntKind.i64.wrap (cp * 5) = cp * 5 := wrap_in (by omega) (by omega)
  have q1 : IntKind.i64.wrap (ca + 1) = ca + 1 := wrap_in (by omega) (by omega)
  have q2 : IntKind.i64.wrap (cp * 5 * (ca + 1)) = cp * 5 * (ca + 1) := wrap_in (by omega) (by omega)
  have q3 : IntKind.i64.wrap (bi + 1) = bi + 1 := wrap_in (by omega) (by omega)
  have q4 : IntKind.i64.wrap (5 * (bi + 1)) = 5 * (bi + 1) := wrap_in (by omega) (by omega)
  have q5 : IntKind.i64.wrap (pg * 32) = pg * 32 := wrap_in (by omega) (by omega)
  have HH : Hid (∀ W, Calls Try.prog 62 #[.int .i64 5] W fun e w' => e = .returned (.int .i64 62) ∧ w' = W) := fun W => lheadsAhead 5 (by omega) W
  have HK := Lib.hid (fun W => lchunks wk cp pg st tr wt ck pr ca bi ba (by omega) g8 W)
  have HC0 := Lib.hid (row_new w #[.int .i64 wk, .int .i64 cp, .int .i64 pg, .int .i64 st, .int .i64 tr, .int .i64 wt, .int .i64 ck, .int .i64 pr, .int .i64 ca, .int .i64 bi, .int .i64 ba] 23)
  have HC : Hid (((w.alloc (.cells #[.int .i64 wk, .int .i64 cp, .int .i64 pg, .int .i64 st, .int .i64 tr, .int .i64 wt, .int .i64 ck, .int .i64 pr, .int .i64 ca, .int .i64 bi, .int .i64 ba] 23)).alloc (.cells #[.int .i64 0, .int .i64 0, .int .i64 0, .int .i64 0, .int .i64 0, .int .i64 0, .int .i64 0, .int .i64 0, .int .i64 0, .int .i64 0, .int .i64 0, .int .i64 0] 76)).heap[w.heap.size]? = some (.cells #[.int .i64 wk, .int .i64 cp, .int .i64 pg, .int .i64 st, .int .i64 tr, .int .i64 wt, .int .i64 ck, .int .i64 pr, .int .i64 ca, .int .i64 bi, .int .i64 ba] 23 (0, 0))) := ((More.refl _).alloc _).block HC0.out
  have HB : Hid (((w.alloc (.cells #[.int .i64 wk, .int .i64 cp, .int .i64 pg, .int .i64 st, .int .i64 tr, .int .i64 wt, .int .i64 ck, .int .i64 pr, .int .i64 ca, .int .i64 bi, .int .i64 ba] 23)).alloc (.cells #[.int .i64 0, .int .i64 0, .int .i64 0, .int .i64 0, .int .i64 0, .int .i64 0, .int .i64 0, .int .i64 0, .int .i64 0, .int .i64 0, .int .i64 0, .int .i64 0] 76)).heap[w.heap.size + 1]? = some (.cells #[.int .i64 0, .int .i64 0, .int .i64 0, .int .i64 0, .int .i64 0, .int .i64 0, .int .i64 0, .int .i64 0, .int .i64 0, .int .i64 0, .int .i64 0, .int .i64 0] 76 (0, 0))) := by
    have := row_new (w.alloc (.cells #[.int .i64 wk, .int .i64 cp, .int .i64 pg, .int .i64 st, .int .i64 tr, .int .i64 wt, .int .i64 ck, .int .i64 pr, .int .i64 ca, .int .i64 bi, .int .i64 ba] 23)) #[.int .i64 0, .int .i64 0, .int .i64 0, .int .i64 0, .int .i64 0, .int .i64 0, .int .i64 0, .int .i64 0, .int .i64 0, .int .i64 0, .int .i64 0, .int .i64 0] 76
    rwa [World.size_alloc] at this
  have HM : Hid (More w ((w.alloc (.cells #[.int .i64 wk, .int .i64 cp, .int .i64 pg, .int .i64 st, .int .i64 tr, .int .i64 wt, .int .i64 ck, .int .i64 pr, .int .i64 ca, .int .i64 bi, .int .i64 ba] 23)).alloc (.cells #[.int .i64 0, .int .i64 0, .int .i64 0, .int .i64 0, .int .i64 0, .int .i64 0, .int .i64 0, .int .i64 0, .int .i64 0, .int .i64 0, .int .i64 0, .int .i64 0] 76))) := ((More.refl w).alloc _).alloc _
  clear R g9
  go_enter Try.func45, Try.ntmps45
  go_wp2_with fail
  generalize (w.alloc (.cells #[.int .i64 wk, .int .i64 cp, .int .i64 pg, .int .i64 st, .int .i64 tr, .int .i64 wt, .int .i64 ck, .int .i64 pr, .int .i64 ca, .int .i64 bi, .int .i64 ba] 23)).alloc (.cells #[.int .i64 0, .int .i64 0, .int .i64 0, .int .i64 0, .int .i64 0, .int .i64 0, .int .i64 0, .int .i64 0, .int .i64 0, .int .i64 0, .int .i64 0, .int .i64 0] 76) = W0 at *
  have hne : ∃ W, More W0 W := ⟨W0, More.refl _⟩
  refine wp_region_more_tail 33 (by kernel_rfl) (by kernel_rfl) ?_
  simp only [List.take_succ_cons, List.take_zero, List.drop_succ_cons, List.drop_zero]
  iterate 33
    first
    | (refine wpQuiet_load_row rfl 23 _ rfl _ rfl 23 _ _ _ (fun W hW => hW.block HC.out) Try.underlying23 rfl (by kernel_rfl) ?_)
    | (with_reducible refine wpQuiet_step (fun K hK => ?_)
       go_simp
       first
       | (refine hK _ ?_; clear hK K)
       | (apply Exists.intro
          refine ⟨fun W hW => ?_, hK _ ?_⟩
          first
          | (go_at_call 62; exact (HH.out W).mono (fun _ _ ⟨he, hw⟩ => ⟨he, hw ▸ hW⟩))
          | (go_at_call 53; exact Calls.more hW (HK.out W))
          | (have x1 := cell_more HC.out hW (show (#[.int .i64 wk, .int .i64 cp, .int .i64 pg, .int .i64 st, .int .i64 tr, .int .i64 wt, .int .i64 ck, .int .i64 pr, .int .i64 ca, .int .i64 bi, .int .i64 ba] : Array Value)[1]? = some (.int .i64 cp) from rfl); have x2 := cell_more HC.out hW (show (#[.int .i64 wk, .int .i64 cp, .int .i64 pg, .int .i64 st, .int .i64 tr, .int .i64 wt, .int .i64 ck, .int .i64 pr, .int .i64 ca, .int .i64 bi, .int .i64 ba] : Array Value)[2]? = some (.int .i64 pg) from rfl); have x3 := cell_more HC.out hW (show (#[.int .i64 wk, .int .i64 cp, .int .i64 pg, .int .i64 st, .int .i64 tr, .int .i64 wt, .int .i64 ck, .int .i64 pr, .int .i64 ca, .int .i64 bi, .int .i64 ba] : Array Value)[3]? = some (.int .i64 st) from rfl); have x8 := cell_more HC.out hW (show (#[.int .i64 wk, .int .i64 cp, .int .i64 pg, .int .i64 st, .int .i64 tr, .int .i64 wt, .int .i64 ck, .int .i64 pr, .int .i64 ca, .int .i64 bi, .int .i64 ba] : Array Value)[8]? = some (.int .i64 ca) from rfl); have x9 := cell_more HC.out hW (show (#[.int .i64 wk, .int .i64 cp, .int .i64 pg, .int .i64 st, .int .i64 tr, .int .i64 wt, .int .i64 ck, .int .i64 pr, .int .i64 ca, .int .i64 bi, .int .i64 ba] : Array Value)[9]? = some (.int .i64 bi) from rfl); (try go_simp); try rfl)
          clear hK K))
  refine wpQuiet_nil ?_
  intro W hW
  have HX := Lib.hid hW
  clear hW
  refine wpList_store_row rfl 76 _ _ rfl _ _ rfl rfl 76 _ (HX.out.block HB.out) (by kernel_rfl) rfl (by simp [Value.oneCell']) ?_
  have HR := Lib.hid (setRow_heap W _ _ (lensArr cp pg st ca bi) _ _ (HX.out.block HB.out))
  have HY : Hid (More w (W.setRow (w.heap.size + 1) (lensArr cp pg st ca bi))) := (HM.out.trans HX.out).setRow _ _ (by omega)
  go_wp2_with fail
  refine bodyPost_ret (v := .agg (lensArr cp pg st ca bi)) (results_cell_row Try.results45 _ _ _ 76 _ (0, 0) _ rfl HR.out Try.underlying76 rfl (by kernel_rfl)) rfl ⟨rfl, ?_⟩
  exact HY.out

set_option maxRecDepth 100000 in
set_option maxHeartbeats 8000000 in
theorem lcheck :
    Calls Try.prog 44 #[.agg #[.int .i64 wk, .int .i64 cp, .int .i64 pg, .int .i64 st, .int .i64 tr, .int .i64 wt, .int .i64 ck, .int .i64 pr, .int .i64 ca, .int .i64 bi, .int .i64 ba]] w (Gives w (.int .i64 (if rightB wk cp pg st tr wt ck pr ca bi ba = true then 0 else 2))) := by
  go_enter Try.func44, Try.ntmps44
  go_wp2_with (go_at_call 61; refine (lwithin _ _ _ _).mono ?_; rintro e w1 ⟨rfl, rfl⟩)
  all_goals go_ret
  all_goals exact ⟨by simp_all [rightB], (More.refl _).alloc _⟩

/-- The parts' beginnings. -/
def startsV (cp pg st ca bi : Int) : Nat → Int
  | 0 => 3
  | 1 => tableV st
  | 2 => tableV st + chunksV pg
  | 3 => tableV st + chunksV pg + 1 * pg
  | 4 => tableV st + chunksV pg + 2 * pg
  | 5 => tableV st + chunksV pg + 3 * pg
  | 6 => tableV st + chunksV pg + 4 * pg
  | 7 => headsV st pg
  | 8 => cachesV st pg
  | 9 => binsV cp pg st ca
  | 10 => liveV cp pg st ca bi
  | 11 => userV cp pg st ca bi
  | _ => wordsV cp pg st ca bi
/-- Where a part would begin, were it not aligned. -/
def nextV (cp pg st ca bi : Int) (k : Nat) : Int := if k = 11 then liveV cp pg st ca bi + pg * 32 else startsV cp pg st ca bi k
def lensV (cp pg st ca bi : Int) : Nat → Int
  | 0 => st
  | 1 => chunksV pg
  | 2 => pg
  | 3 => pg
  | 4 => pg
  | 5 => pg
  | 6 => pg
  | 7 => 62
  | 8 => cp * 5 * (ca + 1)
  | 9 => 5 * (bi + 1)
  | _ => pg * 32
def cutS (S : Nat → Int) (k p : Nat) : Int := if p < k then S p else 0
theorem ways12 {k : Nat} (h : k < 12) : k = 0 ∨ k = 1 ∨ k = 2 ∨ k = 3 ∨ k = 4 ∨ k = 5 ∨ k = 6 ∨ k = 7 ∨ k = 8 ∨ k = 9 ∨ k = 10 ∨ k = 11 := by omega
theorem ways13 {k : Nat} (h : k ≤ 12) : k = 0 ∨ k = 1 ∨ k = 2 ∨ k = 3 ∨ k = 4 ∨ k = 5 ∨ k = 6 ∨ k = 7 ∨ k = 8 ∨ k = 9 ∨ k = 10 ∨ k = 11 ∨ k = 12 := by omega
theorem lensArr_at {k : Nat} (h : k < 12) : (lensArr cp pg st ca bi)[k]? = some (.int .i64 (lensV cp pg st ca bi k)) := by
  rcases ways12 h with rfl | rfl | rfl | rfl | rfl | rfl | rfl | rfl | rfl | rfl | rfl | rfl <;> rfl
theorem mul5 (a b : Int) : a * 5 * b = 5 * a * b := by rw [Int.mul_comm a 5]
theorem start_of_next {k : Nat} (h : k < 11) : startsV cp pg st ca bi k = nextV cp pg st ca bi k := (if_neg (by omega)).symm
theorem next_step {k : Nat} (h : k < 12) : startsV cp pg st ca bi k + lensV cp pg st ca bi k = nextV cp pg st ca bi (k + 1) := by
  rcases ways12 h with rfl | rfl | rfl | rfl | rfl | rfl | rfl | rfl | rfl | rfl | rfl | rfl <;>
    simp only [startsV, lensV, nextV, tableV, headsV, cachesV, binsV, liveV, wordsV, mul5] <;> (try simp) <;> (try omega)
theorem user_of_next : (nextV cp pg st ca bi 11 + 127) / 128 * 128 = startsV cp pg st ca bi 11 := by
  simp only [nextV, startsV, userV]
  rw [Int.mul_comm pg 32]; rfl
theorem cut_set {S : Nat → Int} {k : Nat} (h : k ≤ 12) : (layArr wk cp pg st tr wt ck pr ca bi ba (cutS S k)).setIfInBounds (11 + k) (.int .i64 (S k)) = layArr wk cp pg st tr wt ck pr ca bi ba (cutS S (k + 1)) := by
  rcases ways13 h with rfl | rfl | rfl | rfl | rfl | rfl | rfl | rfl | rfl | rfl | rfl | rfl | rfl <;> rfl
theorem cut_all (S : Nat → Int) : layArr wk cp pg st tr wt ck pr ca bi ba (cutS S 13) = layArr wk cp pg st tr wt ck pr ca bi ba S := rfl
theorem cut_none (S : Nat → Int) : #[.int .i64 wk, .int .i64 cp, .int .i64 pg, .int .i64 st, .int .i64 tr, .int .i64 wt, .int .i64 ck, .int .i64 pr, .int .i64 ca, .int .i64 bi, .int .i64 ba, .int .i64 0, .int .i64 0, .int .i64 0, .int .i64 0, .int .i64 0, .int .i64 0, .int .i64 0, .int .i64 0, .int .i64 0, .int .i64 0, .int .i64 0, .int .i64 0, .int .i64 0] = layArr wk cp pg st tr wt ck pr ca bi ba (cutS S 0) := rfl
section
variable {wk cp pg st tr wt ck pr ca bi ba}
theorem starts_b (R : CfgOk wk cp pg st tr wt ck pr ca bi ba) {k : Nat} (h : k ≤ 12) : 0 ≤ startsV cp pg st ca bi k ∧ startsV cp pg st ca bi k ≤ 18432 := by
  have b1 := tableB R; have b2 := chunksB R; have b3 := headsB R; have b4 := cachesB R; have b5 := binsB R; have b6 := liveB R; have b7 := userB R; have b8 := wordsB R
  have b9 := R.pg1; have b10 := R.pg2
  have hh : headsV st pg = tableV st + chunksV pg + 5 * pg := rfl
  rcases ways13 h with rfl | rfl | rfl | rfl | rfl | rfl | rfl | rfl | rfl | rfl | rfl | rfl | rfl <;> simp only [startsV] <;> omega
theorem next_b (R : CfgOk wk cp pg st tr wt ck pr ca bi ba) {k : Nat} (h : k ≤ 12) : 0 ≤ nextV cp pg st ca bi k ∧ nextV cp pg st ca bi k ≤ 18432 := by
  unfold nextV
  have b6 := liveB R; have b9 := R.pg1; have b10 := R.pg2
  split
  · omega
  · exact starts_b R h
theorem layOk_starts (R : CfgOk wk cp pg st tr wt ck pr ca bi ba) : LayOk cp pg st ca bi (startsV cp pg st ca bi) := {
  lo := (starts_b R (by omega)).1
  up := by
    intro p hp
    have b1 := tableB R; have b2 := chunksB R; have b3 := headsB R; have b4 := cachesB R; have b5 := binsB R; have b6 := liveB R; have b7 := userB R; have b8 := wordsB R
    have b9 := R.pg1; have b10 := R.pg2
    have b11 := prod5B R; have b12 := R.bi1
    have hh : headsV st pg = tableV st + chunksV pg + 5 * pg := rfl
    have hc : cachesV st pg = headsV st pg + 62 := rfl
    have hb : binsV cp pg st ca = cachesV st pg + 5 * cp * (ca + 1) := rfl
    have hl : liveV cp pg st ca bi = binsV cp pg st ca + 5 * (bi + 1) := rfl
    have hw : wordsV cp pg st ca bi = userV cp pg st ca bi + 32 * pg := rfl
    rcases ways12 hp with rfl | rfl | rfl | rfl | rfl | rfl | rfl | rfl | rfl | rfl | rfl | rfl <;> simp only [startsV] <;> omega
  hi := by have := (starts_b R (k := 12) (by omega)).2; omega
  cp0 := by have := R.cp1; omega
  cp1 := R.cp2
  pg0 := by have := R.pg1; omega
  pg1 := R.pg2
  st0 := by have := R.st1; omega
  st1 := R.st2
  ca0 := R.ca1
  ca1 := R.ca2
  bi0 := R.bi1
  bi1 := R.bi2
  empty := fun q => by have := R.st1; omega }
end

end Go.Proofs.Ytonenkgjlmcfkaa
