/-
  Contracts of package layout's lengths, Check and Of.
-/
import Derived.Test.YtahejbahnhohcaaDoorLayB
import Derived.Test.YtahejbahnhohcaaDoorBase
import Derived.Laws.ResultCell
namespace Go.Proofs.YtahejbahnhohcaaDoor
open Go.RowKit
set_option linter.unusedVariables false
set_option linter.unusedSimpArgs false

/-- How many words each part has. -/
def lensArr (cp pg st ca bi : Int) : Array Value := #[.int .i64 st, .int .i64 (chunksV pg), .int .i64 pg, .int .i64 pg, .int .i64 pg, .int .i64 pg, .int .i64 pg, .int .i64 62, .int .i64 (cp * 5 * (ca + 1)), .int .i64 (5 * (bi + 1)), .int .i64 (pg * 32), .int .i64 (pg * 32)]

variable (wk cp pg st tr wt ck pr ca bi ba : Int) (w : World)

set_option maxHeartbeats 2000000 in
theorem llengths (R : CfgOk wk cp pg st tr wt ck pr ca bi ba) : Calls Tryd.prog 35 #[.agg #[.int .i64 wk, .int .i64 cp, .int .i64 pg, .int .i64 st, .int .i64 tr, .int .i64 wt, .int .i64 ck, .int .i64 pr, .int .i64 ca, .int .i64 bi, .int .i64 ba]] w (Gives w (.agg (lensArr cp pg st ca bi))) := by
  have g1 := R.cp1
  have g2 := R.cp2
  have g3 := R.ca1
  have g4 := R.ca2
  have g5 := R.bi1
  have g6 := R.bi2
  have g7 := R.pg1
  have g8 := R.pg2
  have g9 := mulB (a := cp * 5) (b := ca + 1) (A := 40) (B := 9) (by omega) (by omega) (by omega) (by omega)
  have q0 : IntKind.i64.wrap (cp * 5) = cp * 5 := wrap_in (by omega) (by omega)
  have q1 : IntKind.i64.wrap (ca + 1) = ca + 1 := wrap_in (by omega) (by omega)
  have q2 : IntKind.i64.wrap (cp * 5 * (ca + 1)) = cp * 5 * (ca + 1) := wrap_in (by omega) (by omega)
  have q3 : IntKind.i64.wrap (bi + 1) = bi + 1 := wrap_in (by omega) (by omega)
  have q4 : IntKind.i64.wrap (5 * (bi + 1)) = 5 * (bi + 1) := wrap_in (by omega) (by omega)
  have q5 : IntKind.i64.wrap (pg * 32) = pg * 32 := wrap_in (by omega) (by omega)
  have HH : Hid (∀ W, Calls Tryd.prog 50 #[.int .i64 5] W fun e w' => e = .returned (.int .i64 62) ∧ w' = W) := fun W => lheadsAhead 5 (by omega) W
  have HK := Lib.hid (fun W => lchunks wk cp pg st tr wt ck pr ca bi ba (by omega) g8 W)
  have HC0 := Lib.hid (row_new w #[.int .i64 wk, .int .i64 cp, .int .i64 pg, .int .i64 st, .int .i64 tr, .int .i64 wt, .int .i64 ck, .int .i64 pr, .int .i64 ca, .int .i64 bi, .int .i64 ba] 23)
  have HC : Hid (((w.alloc (.cells #[.int .i64 wk, .int .i64 cp, .int .i64 pg, .int .i64 st, .int .i64 tr, .int .i64 wt, .int .i64 ck, .int .i64 pr, .int .i64 ca, .int .i64 bi, .int .i64 ba] 23)).alloc (.cells #[.int .i64 0, .int .i64 0, .int .i64 0, .int .i64 0, .int .i64 0, .int .i64 0, .int .i64 0, .int .i64 0, .int .i64 0, .int .i64 0, .int .i64 0, .int .i64 0] 80)).heap[w.heap.size]? = some (.cells #[.int .i64 wk, .int .i64 cp, .int .i64 pg, .int .i64 st, .int .i64 tr, .int .i64 wt, .int .i64 ck, .int .i64 pr, .int .i64 ca, .int .i64 bi, .int .i64 ba] 23 (0, 0))) := ((More.refl _).alloc _).block HC0.out
  have HB : Hid (((w.alloc (.cells #[.int .i64 wk, .int .i64 cp, .int .i64 pg, .int .i64 st, .int .i64 tr, .int .i64 wt, .int .i64 ck, .int .i64 pr, .int .i64 ca, .int .i64 bi, .int .i64 ba] 23)).alloc (.cells #[.int .i64 0, .int .i64 0, .int .i64 0, .int .i64 0, .int .i64 0, .int .i64 0, .int .i64 0, .int .i64 0, .int .i64 0, .int .i64 0, .int .i64 0, .int .i64 0] 80)).heap[w.heap.size + 1]? = some (.cells #[.int .i64 0, .int .i64 0, .int .i64 0, .int .i64 0, .int .i64 0, .int .i64 0, .int .i64 0, .int .i64 0, .int .i64 0, .int .i64 0, .int .i64 0, .int .i64 0] 80 (0, 0))) := by
    have := row_new (w.alloc (.cells #[.int .i64 wk, .int .i64 cp, .int .i64 pg, .int .i64 st, .int .i64 tr, .int .i64 wt, .int .i64 ck, .int .i64 pr, .int .i64 ca, .int .i64 bi, .int .i64 ba] 23)) #[.int .i64 0, .int .i64 0, .int .i64 0, .int .i64 0, .int .i64 0, .int .i64 0, .int .i64 0, .int .i64 0, .int .i64 0, .int .i64 0, .int .i64 0, .int .i64 0] 80
    rwa [World.size_alloc] at this
  have HM : Hid (More w ((w.alloc (.cells #[.int .i64 wk, .int .i64 cp, .int .i64 pg, .int .i64 st, .int .i64 tr, .int .i64 wt, .int .i64 ck, .int .i64 pr, .int .i64 ca, .int .i64 bi, .int .i64 ba] 23)).alloc (.cells #[.int .i64 0, .int .i64 0, .int .i64 0, .int .i64 0, .int .i64 0, .int .i64 0, .int .i64 0, .int .i64 0, .int .i64 0, .int .i64 0, .int .i64 0, .int .i64 0] 80))) := ((More.refl w).alloc _).alloc _
  clear R g9
  go_enter Tryd.func35, Tryd.ntmps35
  go_wp2_with fail
  generalize (w.alloc (.cells #[.int .i64 wk, .int .i64 cp, .int .i64 pg, .int .i64 st, .int .i64 tr, .int .i64 wt, .int .i64 ck, .int .i64 pr, .int .i64 ca, .int .i64 bi, .int .i64 ba] 23)).alloc (.cells #[.int .i64 0, .int .i64 0, .int .i64 0, .int .i64 0, .int .i64 0, .int .i64 0, .int .i64 0, .int .i64 0, .int .i64 0, .int .i64 0, .int .i64 0, .int .i64 0] 80) = W0 at *
  have hne : ∃ W, More W0 W := ⟨W0, More.refl _⟩
  refine wp_region_more_tail 33 (by kernel_rfl) (by kernel_rfl) ?_
  simp only [List.take_succ_cons, List.take_zero, List.drop_succ_cons, List.drop_zero]
  iterate 33
    first
    | (refine wpQuiet_load_row rfl 23 _ rfl _ rfl 23 _ _ _ (fun W hW => hW.block HC.out) Tryd.underlying23 rfl (by kernel_rfl) ?_)
    | (with_reducible refine wpQuiet_step (fun K hK => ?_)
       go_simp
       first
       | (refine hK _ ?_; clear hK K)
       | (apply Exists.intro
          refine ⟨fun W hW => ?_, hK _ ?_⟩
          first
          | (go_at_call 50; exact (HH.out W).mono (fun _ _ ⟨he, hw⟩ => ⟨he, hw ▸ hW⟩))
          | (go_at_call 49; exact Calls.more hW (HK.out W))
          | (have x1 := cell_more HC.out hW (show (#[.int .i64 wk, .int .i64 cp, .int .i64 pg, .int .i64 st, .int .i64 tr, .int .i64 wt, .int .i64 ck, .int .i64 pr, .int .i64 ca, .int .i64 bi, .int .i64 ba] : Array Value)[1]? = some (.int .i64 cp) from rfl); have x2 := cell_more HC.out hW (show (#[.int .i64 wk, .int .i64 cp, .int .i64 pg, .int .i64 st, .int .i64 tr, .int .i64 wt, .int .i64 ck, .int .i64 pr, .int .i64 ca, .int .i64 bi, .int .i64 ba] : Array Value)[2]? = some (.int .i64 pg) from rfl); have x3 := cell_more HC.out hW (show (#[.int .i64 wk, .int .i64 cp, .int .i64 pg, .int .i64 st, .int .i64 tr, .int .i64 wt, .int .i64 ck, .int .i64 pr, .int .i64 ca, .int .i64 bi, .int .i64 ba] : Array Value)[3]? = some (.int .i64 st) from rfl); have x8 := cell_more HC.out hW (show (#[.int .i64 wk, .int .i64 cp, .int .i64 pg, .int .i64 st, .int .i64 tr, .int .i64 wt, .int .i64 ck, .int .i64 pr, .int .i64 ca, .int .i64 bi, .int .i64 ba] : Array Value)[8]? = some (.int .i64 ca) from rfl); have x9 := cell_more HC.out hW (show (#[.int .i64 wk, .int .i64 cp, .int .i64 pg, .int .i64 st, .int .i64 tr, .int .i64 wt, .int .i64 ck, .int .i64 pr, .int .i64 ca, .int .i64 bi, .int .i64 ba] : Array Value)[9]? = some (.int .i64 bi) from rfl); (try go_simp); try rfl)
          clear hK K))
  refine wpQuiet_nil ?_
  intro W hW
  have HX := Lib.hid hW
  clear hW
  refine wpList_store_row rfl 80 _ _ rfl _ _ rfl rfl 80 _ (HX.out.block HB.out) (by kernel_rfl) rfl (by simp [Value.oneCell']) ?_
  have HR := Lib.hid (setRow_heap W _ _ (lensArr cp pg st ca bi) _ _ (HX.out.block HB.out))
  have HY : Hid (More w (W.setRow (w.heap.size + 1) (lensArr cp pg st ca bi))) := (HM.out.trans HX.out).setRow _ _ (by omega)
  go_wp2_with fail
  refine bodyPost_ret (v := .agg (lensArr cp pg st ca bi)) (results_cell_row Tryd.results35 _ _ _ 80 _ (0, 0) _ rfl HR.out Tryd.underlying80 rfl (by kernel_rfl)) rfl ⟨rfl, ?_⟩
  exact HY.out

set_option maxRecDepth 100000 in
set_option maxHeartbeats 8000000 in
theorem lcheck :
    Calls Tryd.prog 7 #[.agg #[.int .i64 wk, .int .i64 cp, .int .i64 pg, .int .i64 st, .int .i64 tr, .int .i64 wt, .int .i64 ck, .int .i64 pr, .int .i64 ca, .int .i64 bi, .int .i64 ba]] w (Gives w (.int .i64 (if rightB wk cp pg st tr wt ck pr ca bi ba = true then 0 else 2))) := by
  go_enter Tryd.func7, Tryd.ntmps7
  go_wp2_with (go_at_call 21; refine (lwithin _ _ _ _).mono ?_; rintro e w1 ⟨rfl, rfl⟩)
  all_goals go_ret
  all_goals exact ⟨by simp_all [rightB], (More.refl _).alloc _⟩

/-- The parts' beginnings. -/
def startsV (cp pg st ca bi : Int) : Nat → Int
  | 0 => 3
  | 1 => tableV st
  | 2 => tableV st + chunksV pg
  | 3 => tableV st + chunksV pg + 1 * pg
  | 4 => tableV st + chunksV pg + 2 * pg
  | 5 => tableV st + chunksV pg + 3 * pg
  | 6 => tableV st + chunksV pg + 4 * pg
  | 7 => headsV st pg
  | 8 => cachesV st pg
  | 9 => binsV cp pg st ca
  | 10 => liveV cp pg st ca bi
  | 11 => userV cp pg st ca bi
  | _ => wordsV cp pg st ca bi
/-- Where a part would begin, were it not aligned. -/
def nextV (cp pg st ca bi : Int) (k : Nat) : Int := if k = 11 then liveV cp pg st ca bi + pg * 32 else startsV cp pg st ca bi k
def lensV (cp pg st ca bi : Int) : Nat → Int
  | 0 => st
  | 1 => chunksV pg
  | 2 => pg
  | 3 => pg
  | 4 => pg
  | 5 => pg
  | 6 => pg
  | 7 => 62
  | 8 => cp * 5 * (ca + 1)
  | 9 => 5 * (bi + 1)
  | _ => pg * 32
def cutS (S : Nat → Int) (k p : Nat) : Int := if p < k then S p else 0
theorem ways12 {k : Nat} (h : k < 12) : k = 0 ∨ k = 1 ∨ k = 2 ∨ k = 3 ∨ k = 4 ∨ k = 5 ∨ k = 6 ∨ k = 7 ∨ k = 8 ∨ k = 9 ∨ k = 10 ∨ k = 11 := by omega
theorem ways13 {k : Nat} (h : k ≤ 12) : k = 0 ∨ k = 1 ∨ k = 2 ∨ k = 3 ∨ k = 4 ∨ k = 5 ∨ k = 6 ∨ k = 7 ∨ k = 8 ∨ k = 9 ∨ k = 10 ∨ k = 11 ∨ k = 12 := by omega
theorem lensArr_at {k : Nat} (h : k < 12) : (lensArr cp pg st ca bi)[k]? = some (.int .i64 (lensV cp pg st ca bi k)) := by
  rcases ways12 h with rfl | rfl | rfl | rfl | rfl | rfl | rfl | rfl | rfl | rfl | rfl | rfl <;> rfl
theorem mul5 (a b : Int) : a * 5 * b = 5 * a * b := by rw [Int.mul_comm a 5]
theorem start_of_next {k : Nat} (h : k < 11) : startsV cp pg st ca bi k = nextV cp pg st ca bi k := (if_neg (by omega)).symm
theorem next_step {k : Nat} (h : k < 12) : startsV cp pg st ca bi k + lensV cp pg st ca bi k = nextV cp pg st ca bi (k + 1) := by
  rcases ways12 h with rfl | rfl | rfl | rfl | rfl | rfl | rfl | rfl | rfl | rfl | rfl | rfl <;>
    simp only [startsV, lensV, nextV, tableV, headsV, cachesV, binsV, liveV, wordsV, mul5] <;> (try simp) <;> (try omega)
theorem user_of_next : (nextV cp pg st ca bi 11 + 127) / 128 * 128 = startsV cp pg st ca bi 11 := by
  simp only [nextV, startsV, userV]
  rw [Int.mul_comm pg 32]; rfl
theorem cut_set {S : Nat → Int} {k : Nat} (h : k ≤ 12) : (layArr wk cp pg st tr wt ck pr ca bi ba (cutS S k)).setIfInBounds (11 + k) (.int .i64 (S k)) = layArr wk cp pg st tr wt ck pr ca bi ba (cutS S (k + 1)) := by
  rcases ways13 h with rfl | rfl | rfl | rfl | rfl | rfl | rfl | rfl | rfl | rfl | rfl | rfl | rfl <;> rfl
theorem cut_all (S : Nat → Int) : layArr wk cp pg st tr wt ck pr ca bi ba (cutS S 13) = layArr wk cp pg st tr wt ck pr ca bi ba S := rfl
theorem cut_none (S : Nat → Int) : #[.int .i64 wk, .int .i64 cp, .int .i64 pg, .int .i64 st, .int .i64 tr, .int .i64 wt, .int .i64 ck, .int .i64 pr, .int .i64 ca, .int .i64 bi, .int .i64 ba, .int .i64 0, .int .i64 0, .int .i64 0, .int .i64 0, .int .i64 0, .int .i64 0, .int .i64 0, .int .i64 0, .int .i64 0, .int .i64 0, .int .i64 0, .int .i64 0, .int .i64 0] = layArr wk cp pg st tr wt ck pr ca bi ba (cutS S 0) := rfl
section
variable {wk cp pg st tr wt ck pr ca bi ba}
theorem starts_b (R : CfgOk wk cp pg st tr wt ck pr ca bi ba) {k : Nat} (h : k ≤ 12) : 0 ≤ startsV cp pg st ca bi k ∧ startsV cp pg st ca bi k ≤ 18432 := by
  have b1 := tableB R; have b2 := chunksB R; have b3 := headsB R; have b4 := cachesB R; have b5 := binsB R; have b6 := liveB R; have b7 := userB R; have b8 := wordsB R
  have b9 := R.pg1; have b10 := R.pg2
  have hh : headsV st pg = tableV st + chunksV pg + 5 * pg := rfl
  rcases ways13 h with rfl | rfl | rfl | rfl | rfl | rfl | rfl | rfl | rfl | rfl | rfl | rfl | rfl <;> simp only [startsV] <;> omega
theorem next_b (R : CfgOk wk cp pg st tr wt ck pr ca bi ba) {k : Nat} (h : k ≤ 12) : 0 ≤ nextV cp pg st ca bi k ∧ nextV cp pg st ca bi k ≤ 18432 := by
  unfold nextV
  have b6 := liveB R; have b9 := R.pg1; have b10 := R.pg2
  split
  · omega
  · exact starts_b R h
theorem layOk_starts (R : CfgOk wk cp pg st tr wt ck pr ca bi ba) : LayOk cp pg st ca bi (startsV cp pg st ca bi) := {
  lo := (starts_b R (by omega)).1
  up := by
    intro p hp
    have b1 := tableB R; have b2 := chunksB R; have b3 := headsB R; have b4 := cachesB R; have b5 := binsB R; have b6 := liveB R; have b7 := userB R; have b8 := wordsB R
    have b9 := R.pg1; have b10 := R.pg2
    have b11 := prod5B R; have b12 := R.bi1
    have hh : headsV st pg = tableV st + chunksV pg + 5 * pg := rfl
    have hc : cachesV st pg = headsV st pg + 62 := rfl
    have hb : binsV cp pg st ca = cachesV st pg + 5 * cp * (ca + 1) := rfl
    have hl : liveV cp pg st ca bi = binsV cp pg st ca + 5 * (bi + 1) := rfl
    have hw : wordsV cp pg st ca bi = userV cp pg st ca bi + 32 * pg := rfl
    rcases ways12 hp with rfl | rfl | rfl | rfl | rfl | rfl | rfl | rfl | rfl | rfl | rfl | rfl <;> simp only [startsV] <;> omega
  hi := by have := (starts_b R (k := 12) (by omega)).2; omega
  cp0 := by have := R.cp1; omega
  cp1 := R.cp2
  pg0 := by have := R.pg1; omega
  pg1 := R.pg2
  st0 := by have := R.st1; omega
  st1 := R.st2
  ca0 := R.ca1
  ca1 := R.ca2
  bi0 := R.bi1
  bi1 := R.bi2
  empty := fun q => by have := R.st1; omega }
end

end Go.Proofs.YtahejbahnhohcaaDoor

namespace Go.Proofs.YtahejbahnhohcaaDoor
open Go.RowKit
set_option linter.unusedVariables false
set_option linter.unusedSimpArgs false

variable (wk cp pg st tr wt ck pr ca bi ba : Int) (w : World)

theorem results_row2 {P : Program} {fn : Func} {p u : Tmp} {ty : TypeId} (h : fn.results = #[.cell p ty, .tmp u]) (tmps : Array Value) (w : World) (g : Nat) (t : TypeId) (cs : Array Value) (fr : Nat × Nat) (d : TypeDesc)
    (hp : tmps.getD p undef = .pointer (some ⟨g, 0, none⟩)) (hg : w.heap[g]? = some (.cells cs t fr))
    (hu : P.underlying ty = some d) (hd : (match d with | .struct _ | .array _ _ => true | _ => false) = true) (hi : (P.info? ty).map (·.size) = some cs.size) :
    (results fn tmps).run P w = .ok (.tuple #[.agg cs, tmps.getD u undef]) w := by
  rw [results_cell_tmp h, hp]
  simp [asAddr, run_loadVar_row w g t ty cs fr d hg hu hd hi]

theorem rightB_ok (R : CfgOk wk cp pg st tr wt ck pr ca bi ba) : rightB wk cp pg st tr wt ck pr ca bi ba = true := by
  obtain ⟨h0, h1, h2, h3, h4, h5, h6, h7, h8, h9, h10, h11, h12, h13, h14, h15, h16, h17, h18, h19, h20, h21⟩ := R
  simp [rightB, btw, *]

theorem of_wrong (h : rightB wk cp pg st tr wt ck pr ca bi ba = false) : Calls Tryd.prog 19 #[.agg #[.int .i64 wk, .int .i64 cp, .int .i64 pg, .int .i64 st, .int .i64 tr, .int .i64 wt, .int .i64 ck, .int .i64 pr, .int .i64 ca, .int .i64 bi, .int .i64 ba]] w (Gives w (.tuple #[.agg (layArr 0 0 0 0 0 0 0 0 0 0 0 (fun _ => 0)), .int .i64 2])) := by
  have HC0 := Lib.hid (row_new w #[.int .i64 wk, .int .i64 cp, .int .i64 pg, .int .i64 st, .int .i64 tr, .int .i64 wt, .int .i64 ck, .int .i64 pr, .int .i64 ca, .int .i64 bi, .int .i64 ba] 23)
  have HC : Hid (((w.alloc (.cells #[.int .i64 wk, .int .i64 cp, .int .i64 pg, .int .i64 st, .int .i64 tr, .int .i64 wt, .int .i64 ck, .int .i64 pr, .int .i64 ca, .int .i64 bi, .int .i64 ba] 23)).alloc (.cells #[.int .i64 0, .int .i64 0, .int .i64 0, .int .i64 0, .int .i64 0, .int .i64 0, .int .i64 0, .int .i64 0, .int .i64 0, .int .i64 0, .int .i64 0, .int .i64 0, .int .i64 0, .int .i64 0, .int .i64 0, .int .i64 0, .int .i64 0, .int .i64 0, .int .i64 0, .int .i64 0, .int .i64 0, .int .i64 0, .int .i64 0, .int .i64 0] 49)).heap[w.heap.size]? = some (.cells #[.int .i64 wk, .int .i64 cp, .int .i64 pg, .int .i64 st, .int .i64 tr, .int .i64 wt, .int .i64 ck, .int .i64 pr, .int .i64 ca, .int .i64 bi, .int .i64 ba] 23 (0, 0))) := ((More.refl _).alloc _).block HC0.out
  have HB : Hid (((w.alloc (.cells #[.int .i64 wk, .int .i64 cp, .int .i64 pg, .int .i64 st, .int .i64 tr, .int .i64 wt, .int .i64 ck, .int .i64 pr, .int .i64 ca, .int .i64 bi, .int .i64 ba] 23)).alloc (.cells #[.int .i64 0, .int .i64 0, .int .i64 0, .int .i64 0, .int .i64 0, .int .i64 0, .int .i64 0, .int .i64 0, .int .i64 0, .int .i64 0, .int .i64 0, .int .i64 0, .int .i64 0, .int .i64 0, .int .i64 0, .int .i64 0, .int .i64 0, .int .i64 0, .int .i64 0, .int .i64 0, .int .i64 0, .int .i64 0, .int .i64 0, .int .i64 0] 49)).heap[w.heap.size + 1]? = some (.cells #[.int .i64 0, .int .i64 0, .int .i64 0, .int .i64 0, .int .i64 0, .int .i64 0, .int .i64 0, .int .i64 0, .int .i64 0, .int .i64 0, .int .i64 0, .int .i64 0, .int .i64 0, .int .i64 0, .int .i64 0, .int .i64 0, .int .i64 0, .int .i64 0, .int .i64 0, .int .i64 0, .int .i64 0, .int .i64 0, .int .i64 0, .int .i64 0] 49 (0, 0))) := by
    have := row_new (w.alloc (.cells #[.int .i64 wk, .int .i64 cp, .int .i64 pg, .int .i64 st, .int .i64 tr, .int .i64 wt, .int .i64 ck, .int .i64 pr, .int .i64 ca, .int .i64 bi, .int .i64 ba] 23)) #[.int .i64 0, .int .i64 0, .int .i64 0, .int .i64 0, .int .i64 0, .int .i64 0, .int .i64 0, .int .i64 0, .int .i64 0, .int .i64 0, .int .i64 0, .int .i64 0, .int .i64 0, .int .i64 0, .int .i64 0, .int .i64 0, .int .i64 0, .int .i64 0, .int .i64 0, .int .i64 0, .int .i64 0, .int .i64 0, .int .i64 0, .int .i64 0] 49
    rwa [World.size_alloc] at this
  have HM : Hid (More w ((w.alloc (.cells #[.int .i64 wk, .int .i64 cp, .int .i64 pg, .int .i64 st, .int .i64 tr, .int .i64 wt, .int .i64 ck, .int .i64 pr, .int .i64 ca, .int .i64 bi, .int .i64 ba] 23)).alloc (.cells #[.int .i64 0, .int .i64 0, .int .i64 0, .int .i64 0, .int .i64 0, .int .i64 0, .int .i64 0, .int .i64 0, .int .i64 0, .int .i64 0, .int .i64 0, .int .i64 0, .int .i64 0, .int .i64 0, .int .i64 0, .int .i64 0, .int .i64 0, .int .i64 0, .int .i64 0, .int .i64 0, .int .i64 0, .int .i64 0, .int .i64 0, .int .i64 0] 49))) := ((More.refl w).alloc _).alloc _
  have HK := Lib.hid (fun W => lcheck wk cp pg st tr wt ck pr ca bi ba W)
  rw [if_neg (by rw [h]; simp)] at HK
  go_enter Tryd.func19, Tryd.ntmps19
  go_wp2_with (refine wpList_load_row rfl 23 _ rfl _ rfl 23 _ _ _ (HC.out) Tryd.underlying23 rfl (by kernel_rfl) ?_)
  refine (HK.out _).mono ?_
  rintro e w1 ⟨rfl, h1⟩
  have H1 := Lib.hid h1
  clear h1
  go_wp2_with (refine wpList_store_row rfl 49 _ _ rfl _ _ rfl rfl 49 _ (H1.out.block HB.out) (by kernel_rfl) rfl (by simp [Value.oneCell']) ?_)
  have HR := Lib.hid (setRow_heap w1 _ _ #[.int .i64 0, .int .i64 0, .int .i64 0, .int .i64 0, .int .i64 0, .int .i64 0, .int .i64 0, .int .i64 0, .int .i64 0, .int .i64 0, .int .i64 0, .int .i64 0, .int .i64 0, .int .i64 0, .int .i64 0, .int .i64 0, .int .i64 0, .int .i64 0, .int .i64 0, .int .i64 0, .int .i64 0, .int .i64 0, .int .i64 0, .int .i64 0] _ _ (H1.out.block HB.out))
  have HY : Hid (More w (w1.setRow (w.heap.size + 1) #[.int .i64 0, .int .i64 0, .int .i64 0, .int .i64 0, .int .i64 0, .int .i64 0, .int .i64 0, .int .i64 0, .int .i64 0, .int .i64 0, .int .i64 0, .int .i64 0, .int .i64 0, .int .i64 0, .int .i64 0, .int .i64 0, .int .i64 0, .int .i64 0, .int .i64 0, .int .i64 0, .int .i64 0, .int .i64 0, .int .i64 0, .int .i64 0])) := (HM.out.trans H1.out).setRow _ _ (by omega)
  go_wp2_with fail
  refine bodyPost_ret (v := .tuple #[.agg (layArr 0 0 0 0 0 0 0 0 0 0 0 (fun _ => 0)), .int .i64 2]) (results_row2 Tryd.results19 _ _ _ 49 _ (0, 0) _ rfl HR.out Tryd.underlying49 rfl (by kernel_rfl)) rfl ⟨rfl, HY.out⟩

set_option maxHeartbeats 4000000 in
theorem of_right (R : CfgOk wk cp pg st tr wt ck pr ca bi ba) : Calls Tryd.prog 19 #[.agg #[.int .i64 wk, .int .i64 cp, .int .i64 pg, .int .i64 st, .int .i64 tr, .int .i64 wt, .int .i64 ck, .int .i64 pr, .int .i64 ca, .int .i64 bi, .int .i64 ba]] w (Gives w (.tuple #[.agg (layArr wk cp pg st tr wt ck pr ca bi ba (startsV cp pg st ca bi)), .int .i64 0])) := by
  have HC0 := Lib.hid (row_new w #[.int .i64 wk, .int .i64 cp, .int .i64 pg, .int .i64 st, .int .i64 tr, .int .i64 wt, .int .i64 ck, .int .i64 pr, .int .i64 ca, .int .i64 bi, .int .i64 ba] 23)
  have HC : Hid (((w.alloc (.cells #[.int .i64 wk, .int .i64 cp, .int .i64 pg, .int .i64 st, .int .i64 tr, .int .i64 wt, .int .i64 ck, .int .i64 pr, .int .i64 ca, .int .i64 bi, .int .i64 ba] 23)).alloc (.cells #[.int .i64 0, .int .i64 0, .int .i64 0, .int .i64 0, .int .i64 0, .int .i64 0, .int .i64 0, .int .i64 0, .int .i64 0, .int .i64 0, .int .i64 0, .int .i64 0, .int .i64 0, .int .i64 0, .int .i64 0, .int .i64 0, .int .i64 0, .int .i64 0, .int .i64 0, .int .i64 0, .int .i64 0, .int .i64 0, .int .i64 0, .int .i64 0] 49)).heap[w.heap.size]? = some (.cells #[.int .i64 wk, .int .i64 cp, .int .i64 pg, .int .i64 st, .int .i64 tr, .int .i64 wt, .int .i64 ck, .int .i64 pr, .int .i64 ca, .int .i64 bi, .int .i64 ba] 23 (0, 0))) := ((More.refl _).alloc _).block HC0.out
  have HB : Hid (((w.alloc (.cells #[.int .i64 wk, .int .i64 cp, .int .i64 pg, .int .i64 st, .int .i64 tr, .int .i64 wt, .int .i64 ck, .int .i64 pr, .int .i64 ca, .int .i64 bi, .int .i64 ba] 23)).alloc (.cells #[.int .i64 0, .int .i64 0, .int .i64 0, .int .i64 0, .int .i64 0, .int .i64 0, .int .i64 0, .int .i64 0, .int .i64 0, .int .i64 0, .int .i64 0, .int .i64 0, .int .i64 0, .int .i64 0, .int .i64 0, .int .i64 0, .int .i64 0, .int .i64 0, .int .i64 0, .int .i64 0, .int .i64 0, .int .i64 0, .int .i64 0, .int .i64 0] 49)).heap[w.heap.size + 1]? = some (.cells #[.int .i64 0, .int .i64 0, .int .i64 0, .int .i64 0, .int .i64 0, .int .i64 0, .int .i64 0, .int .i64 0, .int .i64 0, .int .i64 0, .int .i64 0, .int .i64 0, .int .i64 0, .int .i64 0, .int .i64 0, .int .i64 0, .int .i64 0, .int .i64 0, .int .i64 0, .int .i64 0, .int .i64 0, .int .i64 0, .int .i64 0, .int .i64 0] 49 (0, 0))) := by
    have := row_new (w.alloc (.cells #[.int .i64 wk, .int .i64 cp, .int .i64 pg, .int .i64 st, .int .i64 tr, .int .i64 wt, .int .i64 ck, .int .i64 pr, .int .i64 ca, .int .i64 bi, .int .i64 ba] 23)) #[.int .i64 0, .int .i64 0, .int .i64 0, .int .i64 0, .int .i64 0, .int .i64 0, .int .i64 0, .int .i64 0, .int .i64 0, .int .i64 0, .int .i64 0, .int .i64 0, .int .i64 0, .int .i64 0, .int .i64 0, .int .i64 0, .int .i64 0, .int .i64 0, .int .i64 0, .int .i64 0, .int .i64 0, .int .i64 0, .int .i64 0, .int .i64 0] 49
    rwa [World.size_alloc] at this
  have HM : Hid (More w ((w.alloc (.cells #[.int .i64 wk, .int .i64 cp, .int .i64 pg, .int .i64 st, .int .i64 tr, .int .i64 wt, .int .i64 ck, .int .i64 pr, .int .i64 ca, .int .i64 bi, .int .i64 ba] 23)).alloc (.cells #[.int .i64 0, .int .i64 0, .int .i64 0, .int .i64 0, .int .i64 0, .int .i64 0, .int .i64 0, .int .i64 0, .int .i64 0, .int .i64 0, .int .i64 0, .int .i64 0, .int .i64 0, .int .i64 0, .int .i64 0, .int .i64 0, .int .i64 0, .int .i64 0, .int .i64 0, .int .i64 0, .int .i64 0, .int .i64 0, .int .i64 0, .int .i64 0] 49))) := ((More.refl w).alloc _).alloc _
  have HK := Lib.hid (fun W => lcheck wk cp pg st tr wt ck pr ca bi ba W)
  rw [if_pos (rightB_ok _ _ _ _ _ _ _ _ _ _ _ R)] at HK
  have HL := Lib.hid (fun W => llengths wk cp pg st tr wt ck pr ca bi ba W R)
  have HRR := Lib.hid R
  have HS := Lib.hid (cut_none wk cp pg st tr wt ck pr ca bi ba (startsV cp pg st ca bi))
  have Hlen : Hid (((w.alloc (.cells #[.int .i64 wk, .int .i64 cp, .int .i64 pg, .int .i64 st, .int .i64 tr, .int .i64 wt, .int .i64 ck, .int .i64 pr, .int .i64 ca, .int .i64 bi, .int .i64 ba] 23)).alloc (.cells #[.int .i64 0, .int .i64 0, .int .i64 0, .int .i64 0, .int .i64 0, .int .i64 0, .int .i64 0, .int .i64 0, .int .i64 0, .int .i64 0, .int .i64 0, .int .i64 0, .int .i64 0, .int .i64 0, .int .i64 0, .int .i64 0, .int .i64 0, .int .i64 0, .int .i64 0, .int .i64 0, .int .i64 0, .int .i64 0, .int .i64 0, .int .i64 0] 49)).heap.size = w.heap.size + 1 + 1) := by rw [World.size_alloc, World.size_alloc]; exact rfl
  clear R
  go_enter Tryd.func19, Tryd.ntmps19
  go_wp2_with (refine wpList_load_row rfl 23 _ rfl _ rfl 23 _ _ _ (HC.out) Tryd.underlying23 rfl (by kernel_rfl) ?_)
  refine (HK.out _).mono ?_
  rintro e w1 ⟨rfl, h1⟩
  have H1 := Lib.hid h1
  have HC1 := Lib.hid (h1.block HC.out)
  have HB1 := Lib.hid (h1.block HB.out)
  have HM1 := Lib.hid (HM.out.trans h1)
  have hs1 := h1.size
  have hs1 : w.heap.size + 2 ≤ w1.heap.size := by have := Hlen.out; omega
  have Hs1 := Lib.hid hs1
  clear h1
  have HC1b : Hid (((w1.alloc (.cells #[.int .i64 0, .int .i64 0, .int .i64 0, .int .i64 0, .int .i64 0, .int .i64 0, .int .i64 0, .int .i64 0, .int .i64 0, .int .i64 0, .int .i64 0, .int .i64 0, .int .i64 0, .int .i64 0, .int .i64 0, .int .i64 0, .int .i64 0, .int .i64 0, .int .i64 0, .int .i64 0, .int .i64 0, .int .i64 0, .int .i64 0, .int .i64 0] 49)).setRow w1.heap.size #[.int .i64 wk, .int .i64 cp, .int .i64 pg, .int .i64 st, .int .i64 tr, .int .i64 wt, .int .i64 ck, .int .i64 pr, .int .i64 ca, .int .i64 bi, .int .i64 ba, .int .i64 0, .int .i64 0, .int .i64 0, .int .i64 0, .int .i64 0, .int .i64 0, .int .i64 0, .int .i64 0, .int .i64 0, .int .i64 0, .int .i64 0, .int .i64 0, .int .i64 0]).heap[w.heap.size]? = some (.cells #[.int .i64 wk, .int .i64 cp, .int .i64 pg, .int .i64 st, .int .i64 tr, .int .i64 wt, .int .i64 ck, .int .i64 pr, .int .i64 ca, .int .i64 bi, .int .i64 ba] 23 (0, 0))) := by
    rw [setRow_other _ _ _ _ (by omega)]; exact ((More.refl _).alloc _).block HC1.out
  clear hs1
  go_wp2_with (first
    | (refine wpList_load_row rfl 23 _ rfl _ rfl 23 _ _ _ (HC1.out) Tryd.underlying23 rfl (by kernel_rfl) ?_)
    | (refine wpList_store_row rfl 49 _ _ rfl _ _ rfl rfl 49 _ (row_new w1 #[.int .i64 0, .int .i64 0, .int .i64 0, .int .i64 0, .int .i64 0, .int .i64 0, .int .i64 0, .int .i64 0, .int .i64 0, .int .i64 0, .int .i64 0, .int .i64 0, .int .i64 0, .int .i64 0, .int .i64 0, .int .i64 0, .int .i64 0, .int .i64 0, .int .i64 0, .int .i64 0, .int .i64 0, .int .i64 0, .int .i64 0, .int .i64 0] 49) (by kernel_rfl) rfl (by simp [Value.oneCell']) ?_)
    | (refine wpList_load_row rfl 23 _ rfl _ rfl 23 _ _ _ (HC1b.out) Tryd.underlying23 rfl (by kernel_rfl) ?_))
  have HMA : Hid (More w ((w1.alloc (.cells #[.int .i64 0, .int .i64 0, .int .i64 0, .int .i64 0, .int .i64 0, .int .i64 0, .int .i64 0, .int .i64 0, .int .i64 0, .int .i64 0, .int .i64 0, .int .i64 0, .int .i64 0, .int .i64 0, .int .i64 0, .int .i64 0, .int .i64 0, .int .i64 0, .int .i64 0, .int .i64 0, .int .i64 0, .int .i64 0, .int .i64 0, .int .i64 0] 49)).setRow w1.heap.size #[.int .i64 wk, .int .i64 cp, .int .i64 pg, .int .i64 st, .int .i64 tr, .int .i64 wt, .int .i64 ck, .int .i64 pr, .int .i64 ca, .int .i64 bi, .int .i64 ba, .int .i64 0, .int .i64 0, .int .i64 0, .int .i64 0, .int .i64 0, .int .i64 0, .int .i64 0, .int .i64 0, .int .i64 0, .int .i64 0, .int .i64 0, .int .i64 0, .int .i64 0])) := (HM1.out.alloc _).setRow _ _ (by have := Hs1.out; omega)
  have HBA : Hid (((w1.alloc (.cells #[.int .i64 0, .int .i64 0, .int .i64 0, .int .i64 0, .int .i64 0, .int .i64 0, .int .i64 0, .int .i64 0, .int .i64 0, .int .i64 0, .int .i64 0, .int .i64 0, .int .i64 0, .int .i64 0, .int .i64 0, .int .i64 0, .int .i64 0, .int .i64 0, .int .i64 0, .int .i64 0, .int .i64 0, .int .i64 0, .int .i64 0, .int .i64 0] 49)).setRow w1.heap.size #[.int .i64 wk, .int .i64 cp, .int .i64 pg, .int .i64 st, .int .i64 tr, .int .i64 wt, .int .i64 ck, .int .i64 pr, .int .i64 ca, .int .i64 bi, .int .i64 ba, .int .i64 0, .int .i64 0, .int .i64 0, .int .i64 0, .int .i64 0, .int .i64 0, .int .i64 0, .int .i64 0, .int .i64 0, .int .i64 0, .int .i64 0, .int .i64 0, .int .i64 0]).heap[w1.heap.size]? = some (.cells (layArr wk cp pg st tr wt ck pr ca bi ba (cutS (startsV cp pg st ca bi) 0)) 49 (0, 0))) := setRow_heap _ _ _ _ _ _ (row_new w1 #[.int .i64 0, .int .i64 0, .int .i64 0, .int .i64 0, .int .i64 0, .int .i64 0, .int .i64 0, .int .i64 0, .int .i64 0, .int .i64 0, .int .i64 0, .int .i64 0, .int .i64 0, .int .i64 0, .int .i64 0, .int .i64 0, .int .i64 0, .int .i64 0, .int .i64 0, .int .i64 0, .int .i64 0, .int .i64 0, .int .i64 0, .int .i64 0] 49)
  have HRA : Hid (((w1.alloc (.cells #[.int .i64 0, .int .i64 0, .int .i64 0, .int .i64 0, .int .i64 0, .int .i64 0, .int .i64 0, .int .i64 0, .int .i64 0, .int .i64 0, .int .i64 0, .int .i64 0, .int .i64 0, .int .i64 0, .int .i64 0, .int .i64 0, .int .i64 0, .int .i64 0, .int .i64 0, .int .i64 0, .int .i64 0, .int .i64 0, .int .i64 0, .int .i64 0] 49)).setRow w1.heap.size #[.int .i64 wk, .int .i64 cp, .int .i64 pg, .int .i64 st, .int .i64 tr, .int .i64 wt, .int .i64 ck, .int .i64 pr, .int .i64 ca, .int .i64 bi, .int .i64 ba, .int .i64 0, .int .i64 0, .int .i64 0, .int .i64 0, .int .i64 0, .int .i64 0, .int .i64 0, .int .i64 0, .int .i64 0, .int .i64 0, .int .i64 0, .int .i64 0, .int .i64 0]).heap[w.heap.size + 1]? = some (.cells #[.int .i64 0, .int .i64 0, .int .i64 0, .int .i64 0, .int .i64 0, .int .i64 0, .int .i64 0, .int .i64 0, .int .i64 0, .int .i64 0, .int .i64 0, .int .i64 0, .int .i64 0, .int .i64 0, .int .i64 0, .int .i64 0, .int .i64 0, .int .i64 0, .int .i64 0, .int .i64 0, .int .i64 0, .int .i64 0, .int .i64 0, .int .i64 0] 49 (0, 0))) := by
    rw [setRow_other _ _ _ _ (by have := Hs1.out; omega)]; exact ((More.refl _).alloc _).block HB1.out
  refine (HL.out _).mono ?_
  rintro e w2 ⟨rfl, h2⟩
  have HM2 := Lib.hid (HMA.out.trans h2)
  have HB2 := Lib.hid (h2.block HBA.out)
  have HR2 := Lib.hid (h2.block HRA.out)
  clear h2
  clear HC0 HC HB HM HK HL HS Hlen H1 HC1 HB1 HC1b HMA HBA HRA HM1
  go_wp2_with fail
  go_loopw [6, 7, 8, 19] (fun nx _ _ i wr => ∃ k : Nat, k ≤ 12 ∧ i = .int .i64 k ∧ nx = .int .i64 (nextV cp pg st ca bi k) ∧ wr.heap[w1.heap.size]? = some (.cells (layArr wk cp pg st tr wt ck pr ca bi ba (cutS (startsV cp pg st ca bi) k)) 49 (0, 0)) ∧ wr.heap[w.heap.size + 1]? = some (.cells #[.int .i64 0, .int .i64 0, .int .i64 0, .int .i64 0, .int .i64 0, .int .i64 0, .int .i64 0, .int .i64 0, .int .i64 0, .int .i64 0, .int .i64 0, .int .i64 0, .int .i64 0, .int .i64 0, .int .i64 0, .int .i64 0, .int .i64 0, .int .i64 0, .int .i64 0, .int .i64 0, .int .i64 0, .int .i64 0, .int .i64 0, .int .i64 0] 49 (0, 0)) ∧ More w wr) (fun _ _ _ i _ => 12 - (intOf i).toNat)
  case atStart => exact ⟨0, by omega, rfl, rfl, HB2.out, HR2.out, HM2.out⟩
  case round =>
    clear HB2 HR2 HM2
    obtain ⟨k, hk, rfl, rfl, hb, hr, hm⟩ := hrel
    have nb := next_b HRR.out hk
    have sb := starts_b HRR.out hk
    have xc : wr.cell? ⟨w1.heap.size, 11 + k, none⟩ = some (.int .i64 (cutS (startsV cp pg st ca bi) k k)) := by rw [cell_of_row _ _ _ _ _ _ hb]; exact layArr_start wk cp pg st tr wt ck pr ca bi ba _ k hk
    have xf : wr.frozen? ⟨w1.heap.size, 11 + k, none⟩ = false := by simp [World.frozen?, hb]
    have HE := Lib.hid (setCell_eq_setRow wr w1.heap.size (11 + k) _ 49 (0, 0) (.int .i64 (startsV cp pg st ca bi k)) hb)
    have HN := Lib.hid (setRow_heap wr w1.heap.size _ ((layArr wk cp pg st tr wt ck pr ca bi ba (cutS (startsV cp pg st ca bi) k)).setIfInBounds (11 + k) (.int .i64 (startsV cp pg st ca bi k))) 49 (0, 0) hb)
    rw [cut_set wk cp pg st tr wt ck pr ca bi ba hk] at HE HN
    have HO : Hid ((wr.setRow w1.heap.size (layArr wk cp pg st tr wt ck pr ca bi ba (cutS (startsV cp pg st ca bi) (k + 1)))).heap[w.heap.size + 1]? = some (.cells #[.int .i64 0, .int .i64 0, .int .i64 0, .int .i64 0, .int .i64 0, .int .i64 0, .int .i64 0, .int .i64 0, .int .i64 0, .int .i64 0, .int .i64 0, .int .i64 0, .int .i64 0, .int .i64 0, .int .i64 0, .int .i64 0, .int .i64 0, .int .i64 0, .int .i64 0, .int .i64 0, .int .i64 0, .int .i64 0, .int .i64 0, .int .i64 0] 49 (0, 0))) := by
      rw [setRow_other _ _ _ _ (by have := Hs1.out; omega)]; exact hr
    have HP : Hid (More w (wr.setRow w1.heap.size (layArr wk cp pg st tr wt ck pr ca bi ba (cutS (startsV cp pg st ca bi) (k + 1))))) := hm.setRow _ _ (by have := Hs1.out; omega)
    clear hb hr hm
    by_cases hlt : k < 12
    · have d0 : decide ((k : Int) < 12) = true := by simp; omega
      have hl : ∀ W, (Instr.index 80 (.agg (lensArr cp pg st ca bi)) (.int .i64 k)).run Tryd.prog W = .ok (.int .i64 (lensV cp pg st ca bi k)) W := fun W => run_index_row W Tryd.underlying80 Tryd.underlying3 (by kernel_rfl) hlt (lensArr_at cp pg st ca bi hlt)
      have HQ := Lib.hid (next_step cp pg st ca bi hlt)
      have nb2 := next_b HRR.out (show k + 1 ≤ 12 by omega)
      have q0 : IntKind.i64.wrap (startsV cp pg st ca bi k + lensV cp pg st ca bi k) = nextV cp pg st ca bi (k + 1) := by rw [HQ.out]; exact wrap_in (by omega) (by omega)
      have r0 : (0 : Int) ≤ (k : Int) := by omega
      have r1 : (k : Int) < 13 := by omega
      by_cases h11 : k = 11
      · have d1 : decide ((k : Int) = 11) = true := by simp; omega
        have HU : Hid ((nextV cp pg st ca bi k + 127) / 128 * 128 = startsV cp pg st ca bi k) := by subst h11; exact user_of_next cp pg st ca bi
        have d2 : ((k : Int) == 11) = true := by simp; omega
        have d3 : decide (k = 11) = true := by simp; omega
        clear h11
        go_wp2_with fail
        refine (laligned _ nb.1 (by omega) _).mono ?_
        rw [HU.out]
        rintro e w3 ⟨rfl, rfl⟩
        go_wp2_with fail
        rw [HE.out]
        go_roundw
        case rel => exact ⟨k + 1, by omega, by go_num, rfl, HN.out, HO.out, HP.out⟩
        case measure => simp [intOf]; omega
      · have d1 : decide ((k : Int) = 11) = false := by simp; omega
        rw [← start_of_next cp pg st ca bi (by omega : k < 11)]
        go_wp2_with fail
        rw [HE.out]
        go_roundw
        case rel => exact ⟨k + 1, by omega, by go_num, rfl, HN.out, HO.out, HP.out⟩
        case measure => simp [intOf]; omega
    · have he : k = 12 := by omega
      subst he
      rw [show nextV cp pg st ca bi 12 = startsV cp pg st ca bi 12 from rfl]
      go_wp2_with (first
        | (refine wpList_load_row rfl 49 _ rfl _ rfl 49 _ _ _ (HN.out) Tryd.underlying49 rfl (by kernel_rfl) ?_)
        | (rw [HE.out]; refine wpList_load_row rfl 49 _ rfl _ rfl 49 _ _ _ (HN.out) Tryd.underlying49 rfl (by kernel_rfl) ?_)
        | (refine wpList_store_row rfl 49 _ _ rfl _ _ rfl rfl 49 _ HO.out (by kernel_rfl) rfl (layArr_one ..) ?_))
      have HF := Lib.hid (setRow_heap _ (w.heap.size + 1) _ (layArr wk cp pg st tr wt ck pr ca bi ba (startsV cp pg st ca bi)) _ _ HO.out)
      have HG : Hid (More w ((wr.setRow w1.heap.size (layArr wk cp pg st tr wt ck pr ca bi ba (startsV cp pg st ca bi))).setRow (w.heap.size + 1) (layArr wk cp pg st tr wt ck pr ca bi ba (startsV cp pg st ca bi)))) := HP.out.setRow _ _ (by omega)
      refine bodyPost_ret (v := .tuple #[.agg (layArr wk cp pg st tr wt ck pr ca bi ba (startsV cp pg st ca bi)), .int .i64 0]) (results_row2 Tryd.results19 _ _ _ 49 _ (0, 0) _ rfl HF.out Tryd.underlying49 rfl (by kernel_rfl)) rfl ⟨rfl, HG.out⟩

end Go.Proofs.YtahejbahnhohcaaDoor

namespace Go.Proofs.YtahejbahnhohcaaDoor
open Go.RowKit
set_option linter.unusedVariables false
set_option linter.unusedSimpArgs false

section
variable {wk cp pg st tr wt ck pr ca bi ba : Int}
theorem tbl_eq (R : CfgOk wk cp pg st tr wt ck pr ca bi ba) (k : Int) : partV ((startsV cp pg st ca bi) 1) ((startsV cp pg st ca bi) 2) k = tblV pg st k := by
  show (if 0 ≤ k ∧ k < tableV st + chunksV pg - tableV st then _ else _) = _
  unfold tblV
  rw [show tableV st + chunksV pg - tableV st = chunksV pg by omega]
  rfl
theorem page_eq0 (R : CfgOk wk cp pg st tr wt ck pr ca bi ba) (p : Int) : partV ((startsV cp pg st ca bi) 2) ((startsV cp pg st ca bi) 3) p = pageV pg st 0 p := by
  simp only [partV, startsV, pageV, headsV]
  by_cases h : 0 ≤ p ∧ p < pg
  · rw [if_pos (by omega), if_pos h] <;> (try omega)
  · rw [if_neg (by omega), if_neg h]
theorem page_eq1 (R : CfgOk wk cp pg st tr wt ck pr ca bi ba) (p : Int) : partV ((startsV cp pg st ca bi) 3) ((startsV cp pg st ca bi) 4) p = pageV pg st 1 p := by
  simp only [partV, startsV, pageV, headsV]
  by_cases h : 0 ≤ p ∧ p < pg
  · rw [if_pos (by omega), if_pos h] <;> (try omega)
  · rw [if_neg (by omega), if_neg h]
theorem page_eq2 (R : CfgOk wk cp pg st tr wt ck pr ca bi ba) (p : Int) : partV ((startsV cp pg st ca bi) 4) ((startsV cp pg st ca bi) 5) p = pageV pg st 2 p := by
  simp only [partV, startsV, pageV, headsV]
  by_cases h : 0 ≤ p ∧ p < pg
  · rw [if_pos (by omega), if_pos h] <;> (try omega)
  · rw [if_neg (by omega), if_neg h]
theorem page_eq3 (R : CfgOk wk cp pg st tr wt ck pr ca bi ba) (p : Int) : partV ((startsV cp pg st ca bi) 5) ((startsV cp pg st ca bi) 6) p = pageV pg st 3 p := by
  simp only [partV, startsV, pageV, headsV]
  by_cases h : 0 ≤ p ∧ p < pg
  · rw [if_pos (by omega), if_pos h] <;> (try omega)
  · rw [if_neg (by omega), if_neg h]
theorem page_eq4 (R : CfgOk wk cp pg st tr wt ck pr ca bi ba) (p : Int) : partV ((startsV cp pg st ca bi) 6) ((startsV cp pg st ca bi) 7) p = pageV pg st 4 p := by
  simp only [partV, startsV, pageV, headsV]
  by_cases h : 0 ≤ p ∧ p < pg
  · rw [if_pos (by omega), if_pos h] <;> (try omega)
  · rw [if_neg (by omega), if_neg h]
theorem head_eq (R : CfgOk wk cp pg st tr wt ck pr ca bi ba) (c f : Int) : lheadV (startsV cp pg st ca bi) c f = headV pg st c f := by
  unfold lheadV headV
  by_cases h : 0 ≤ c ∧ c ≤ 4 ∧ 1 ≤ f ∧ f ≤ slotsV c
  · rw [if_pos h, if_pos h]
    have : c = 0 ∨ c = 1 ∨ c = 2 ∨ c = 3 ∨ c = 4 := by omega
    simp only [partV, startsV, cachesV]
    rcases this with rfl | rfl | rfl | rfl | rfl <;> simp [slotsV, aheadV] at h ⊢ <;> (rw [if_pos (by omega)]; omega)
  · rw [if_neg h, if_neg h]
theorem cache_eq (R : CfgOk wk cp pg st tr wt ck pr ca bi ba) (u c : Int) : lcacheV cp ca (startsV cp pg st ca bi) u c = cacheV cp pg st ca u c := by
  unfold lcacheV cacheV
  by_cases h : 0 ≤ u ∧ u < cp ∧ 0 ≤ c ∧ c ≤ 4
  · rw [if_pos h, if_pos h]
    have h1 := R.ca1
    have h2 : 5 * u + c ≤ 5 * cp - 1 := by omega
    have h3 : (5 * u + c) * (ca + 1) ≤ (5 * cp - 1) * (ca + 1) := Int.mul_le_mul_of_nonneg_right h2 (by omega)
    have h4 : (5 * cp - 1) * (ca + 1) = 5 * cp * (ca + 1) - (ca + 1) := by rw [Int.sub_mul, Int.one_mul]
    have h5 : 0 ≤ (5 * u + c) * (ca + 1) := Int.mul_nonneg (by omega) (by omega)
    rw [show u * 5 + c = 5 * u + c by omega]
    simp only [partV, startsV, binsV]
    rw [if_pos (by omega)]
  · rw [if_neg h, if_neg h]
theorem bin_eq (R : CfgOk wk cp pg st tr wt ck pr ca bi ba) (c : Int) : lbinV bi (startsV cp pg st ca bi) c = binV cp pg st ca bi c := by
  unfold lbinV binV
  by_cases h : 0 ≤ c ∧ c ≤ 4
  · rw [if_pos h, if_pos h]
    have h1 := R.bi1
    have h3 : c * (bi + 1) ≤ 4 * (bi + 1) := Int.mul_le_mul_of_nonneg_right h.2 (by omega)
    have h5 : 0 ≤ c * (bi + 1) := Int.mul_nonneg h.1 (by omega)
    simp only [partV, startsV, liveV]
    rw [if_pos (by omega)]
  · rw [if_neg h, if_neg h]
theorem live_eq (R : CfgOk wk cp pg st tr wt ck pr ca bi ba) (a : Int) : lliveV (startsV cp pg st ca bi) a = liveAtV cp pg st ca bi a := by
  unfold lliveV liveAtV
  have b := userB R
  by_cases h : userV cp pg st ca bi ≤ a ∧ a < wordsV cp pg st ca bi
  · rw [if_pos h, if_pos (show (startsV cp pg st ca bi) 11 ≤ a ∧ a < (startsV cp pg st ca bi) 12 from h)]
    have : wordsV cp pg st ca bi = userV cp pg st ca bi + 32 * pg := rfl
    simp only [partV, startsV]
    rw [if_pos (by omega)]; omega
  · rw [if_neg h, if_neg (show ¬ ((startsV cp pg st ca bi) 11 ≤ a ∧ a < (startsV cp pg st ca bi) 12) from h)]
theorem addr_eq (R : CfgOk wk cp pg st tr wt ck pr ca bi ba) (p : Int) : laddrV pg (startsV cp pg st ca bi) p = addrV cp pg st ca bi p := by
  unfold laddrV addrV
  by_cases h : 0 ≤ p ∧ p < pg
  · rw [if_pos h, if_pos h]
    simp only [partV, startsV, wordsV]
    rw [if_pos (by omega)]; omega
  · rw [if_neg h, if_neg h]
theorem lock_eq (R : CfgOk wk cp pg st tr wt ck pr ca bi ba) (a : Int) : llockV st (startsV cp pg st ca bi) a = lockV cp pg st ca bi a := by
  unfold llockV lockV
  by_cases h : 0 ≤ a ∧ a < wordsV cp pg st ca bi
  · rw [if_pos h, if_pos (show 0 ≤ a ∧ a < (startsV cp pg st ca bi) 12 from h)]
    have h1 := R.st1
    have m0 := Int.emod_nonneg a (show st ≠ 0 by omega)
    have m1 := Int.emod_lt_of_pos a (show 0 < st by omega)
    simp only [partV, startsV, tableV]
    rw [if_pos (by omega)]
  · rw [if_neg h, if_neg (show ¬ (0 ≤ a ∧ a < (startsV cp pg st ca bi) 12) from h)]
end

variable {wk cp pg st tr wt ck pr ca bi ba : Int} (R : CfgOk wk cp pg st tr wt ck pr ca bi ba) (w : World)
theorem xuser (R : CfgOk wk cp pg st tr wt ck pr ca bi ba) (w : World) : Calls Tryd.prog 15 #[.agg (layArr wk cp pg st tr wt ck pr ca bi ba (startsV cp pg st ca bi))] w (Gives w (.int .i64 (userV cp pg st ca bi))) := luser wk cp pg st tr wt ck pr ca bi ba (startsV cp pg st ca bi) w
theorem xwords (R : CfgOk wk cp pg st tr wt ck pr ca bi ba) (w : World) : Calls Tryd.prog 16 #[.agg (layArr wk cp pg st tr wt ck pr ca bi ba (startsV cp pg st ca bi))] w (Gives w (.int .i64 (wordsV cp pg st ca bi))) := lwords wk cp pg st tr wt ck pr ca bi ba (startsV cp pg st ca bi) w
theorem xconfig (R : CfgOk wk cp pg st tr wt ck pr ca bi ba) (w : World) : Calls Tryd.prog 43 #[.agg (layArr wk cp pg st tr wt ck pr ca bi ba (startsV cp pg st ca bi))] w (Gives w (.agg #[.int .i64 wk, .int .i64 cp, .int .i64 pg, .int .i64 st, .int .i64 tr, .int .i64 wt, .int .i64 ck, .int .i64 pr, .int .i64 ca, .int .i64 bi, .int .i64 ba])) := lconfig wk cp pg st tr wt ck pr ca bi ba (startsV cp pg st ca bi) w
theorem xplace_in (R : CfgOk wk cp pg st tr wt ck pr ca bi ba) (w : World) (a : Int) (c0 : userV cp pg st ca bi ≤ a) (c1 : a < wordsV cp pg st ca bi) : Calls Tryd.prog 29 #[.agg (layArr wk cp pg st tr wt ck pr ca bi ba (startsV cp pg st ca bi)), .int .i64 a] w (Gives w (.tuple #[.int .i64 ((a - userV cp pg st ca bi) / 32), .int .i64 ((a - userV cp pg st ca bi) % 32), .bool true])) := lplace_in wk cp pg st tr wt ck pr ca bi ba (startsV cp pg st ca bi) w a (layOk_starts R) c0 c1
theorem xplace_out (R : CfgOk wk cp pg st tr wt ck pr ca bi ba) (w : World) (a : Int) (c : a < userV cp pg st ca bi ∨ wordsV cp pg st ca bi ≤ a) : Calls Tryd.prog 29 #[.agg (layArr wk cp pg st tr wt ck pr ca bi ba (startsV cp pg st ca bi)), .int .i64 a] w (Gives w (.tuple #[.int .i64 0, .int .i64 0, .bool false])) := lplace_out wk cp pg st tr wt ck pr ca bi ba (startsV cp pg st ca bi) w a (layOk_starts R) c

end Go.Proofs.YtahejbahnhohcaaDoor

