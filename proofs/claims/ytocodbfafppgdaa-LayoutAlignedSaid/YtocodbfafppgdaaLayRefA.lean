/-
  Contracts of the document's own answers for layout, at a configuration that may be.
-/
import Derived.Test.YtocodbfafppgdaaRows
import Derived.Test.YtocodbfafppgdaaPure
import Derived.WalkKit
import Derived.WalkSpells
import Derived.WalkLawsBesides
import Derived.Outline
import Derived.IntWalk
import Derived.Lib.Hide
namespace Go.Proofs.Ytocodbfafppgdaa
open Go.RowKit
set_option linter.unusedVariables false
set_option linter.unusedSimpArgs false

/-- A configuration that may be. -/
structure CfgOk (wk cp pg st tr wt ck pr ca bi ba : Int) : Prop where
  wk1 : 1 ≤ wk
  wk2 : wk ≤ 64
  cp1 : 1 ≤ cp
  cp2 : cp ≤ 8
  pg1 : 1 ≤ pg
  pg2 : pg ≤ 256
  st1 : 1 ≤ st
  st2 : st ≤ 64
  tr1 : 0 ≤ tr
  tr2 : tr ≤ 16
  wt1 : 0 ≤ wt
  wt2 : wt ≤ 64
  ck1 : 1 ≤ ck
  ck2 : ck ≤ 1099511627776
  pr1 : 1 ≤ pr
  pr2 : pr ≤ 8
  ca1 : 0 ≤ ca
  ca2 : ca ≤ 8
  bi1 : 0 ≤ bi
  bi2 : bi ≤ 16
  ba1 : 1 ≤ ba
  ba2 : ba ≤ 8

/-! The places, as plain sums. -/
def tableV (st : Int) : Int := 3 + st
def chunksV (pg : Int) : Int := (pg + 3) / 4
def headsV (st pg : Int) : Int := tableV st + chunksV pg + 5 * pg
def cachesV (st pg : Int) : Int := headsV st pg + 62
def binsV (cp pg st ca : Int) : Int := cachesV st pg + 5 * cp * (ca + 1)
def liveV (cp pg st ca bi : Int) : Int := binsV cp pg st ca + 5 * (bi + 1)
def userV (cp pg st ca bi : Int) : Int := (liveV cp pg st ca bi + 32 * pg + 127) / 128 * 128
def wordsV (cp pg st ca bi : Int) : Int := userV cp pg st ca bi + 32 * pg

theorem wrap_in {x : Int} (h0 : -9223372036854775808 ≤ x) (h1 : x ≤ 9223372036854775807) : IntKind.i64.wrap x = x := IntWalk.i64_in _ (by omega)

section
variable {wk cp pg st tr wt ck pr ca bi ba : Int} (R : CfgOk wk cp pg st tr wt ck pr ca bi ba)
include R
theorem tableB : 4 ≤ tableV st ∧ tableV st ≤ 67 := by have := R.st1; have := R.st2; unfold tableV; omega
theorem chunksB : 1 ≤ chunksV pg ∧ chunksV pg ≤ 64 := by have := R.pg1; have := R.pg2; unfold chunksV; omega
theorem headsB : 10 ≤ headsV st pg ∧ headsV st pg ≤ 1411 := by have := tableB R; have := chunksB R; have := R.pg1; have := R.pg2; unfold headsV; omega
theorem cachesB : 72 ≤ cachesV st pg ∧ cachesV st pg ≤ 1473 := by have := headsB R; unfold cachesV; omega
theorem prodB : 1 ≤ cp * (ca + 1) ∧ cp * (ca + 1) ≤ 72 := by
  have h1 := R.cp1; have h2 := R.cp2; have h3 := R.ca1; have h4 := R.ca2
  constructor
  · have := Int.mul_le_mul h1 (show (1 : Int) ≤ ca + 1 by omega) (by omega) (by omega)
    omega
  · have := Int.mul_le_mul h2 (show ca + 1 ≤ 9 by omega) (by omega) (by omega)
    omega
theorem prod5B : 5 ≤ 5 * cp * (ca + 1) ∧ 5 * cp * (ca + 1) ≤ 360 := by
  have := prodB R
  rw [Int.mul_assoc]; omega
theorem binsB : 77 ≤ binsV cp pg st ca ∧ binsV cp pg st ca ≤ 1833 := by have := cachesB R; have := prod5B R; unfold binsV; omega
theorem liveB : 82 ≤ liveV cp pg st ca bi ∧ liveV cp pg st ca bi ≤ 1918 := by have := binsB R; have := R.bi1; have := R.bi2; unfold liveV; omega
theorem userB : 128 ≤ userV cp pg st ca bi ∧ userV cp pg st ca bi ≤ 10240 ∧ liveV cp pg st ca bi + 32 * pg ≤ userV cp pg st ca bi := by have := liveB R; have := R.pg1; have := R.pg2; unfold userV; omega
theorem wordsB : 160 ≤ wordsV cp pg st ca bi ∧ wordsV cp pg st ca bi ≤ 18432 := by have := userB R; have := R.pg1; have := R.pg2; unfold wordsV; omega
end

/-- A block that holds a configuration. -/
def CfgAt (w : World) (k : Nat) (T : Nat) (wk cp pg st tr wt ck pr ca bi ba : Int) : Prop := w.heap[k]? = some (.cells #[.int .i64 wk, .int .i64 cp, .int .i64 pg, .int .i64 st, .int .i64 tr, .int .i64 wt, .int .i64 ck, .int .i64 pr, .int .i64 ca, .int .i64 bi, .int .i64 ba] T (0, 0))
theorem cfgAt_new (w : World) (T : Nat) (wk cp pg st tr wt ck pr ca bi ba : Int) : CfgAt (w.alloc (.cells #[.int .i64 wk, .int .i64 cp, .int .i64 pg, .int .i64 st, .int .i64 tr, .int .i64 wt, .int .i64 ck, .int .i64 pr, .int .i64 ca, .int .i64 bi, .int .i64 ba] T)) w.heap.size T wk cp pg st tr wt ck pr ca bi ba := heap_new w _
theorem CfgAt.cells {w W : World} {k T : Nat} {wk cp pg st tr wt ck pr ca bi ba : Int} (h : CfgAt w k T wk cp pg st tr wt ck pr ca bi ba) (hW : More w W) :
    W.cell? ⟨k, 0, none⟩ = some (.int .i64 wk) ∧ W.cell? ⟨k, 1, none⟩ = some (.int .i64 cp) ∧ W.cell? ⟨k, 2, none⟩ = some (.int .i64 pg) ∧ W.cell? ⟨k, 3, none⟩ = some (.int .i64 st) ∧ W.cell? ⟨k, 4, none⟩ = some (.int .i64 tr) ∧ W.cell? ⟨k, 5, none⟩ = some (.int .i64 wt) ∧ W.cell? ⟨k, 6, none⟩ = some (.int .i64 ck) ∧ W.cell? ⟨k, 7, none⟩ = some (.int .i64 pr) ∧ W.cell? ⟨k, 8, none⟩ = some (.int .i64 ca) ∧ W.cell? ⟨k, 9, none⟩ = some (.int .i64 bi) ∧ W.cell? ⟨k, 10, none⟩ = some (.int .i64 ba) := by
  have := hW.block h
  simp [World.cell?, this]

variable (wk cp pg st tr wt ck pr ca bi ba : Int) (w : World)

theorem rtable (R : CfgOk wk cp pg st tr wt ck pr ca bi ba) :
    Calls Try.prog 55 #[.agg #[.int .i64 wk, .int .i64 cp, .int .i64 pg, .int .i64 st, .int .i64 tr, .int .i64 wt, .int .i64 ck, .int .i64 pr, .int .i64 ca, .int .i64 bi, .int .i64 ba]] w (Gives w (.int .i64 (tableV st))) := by
  have h_st1 := R.st1
  have h_st2 := R.st2
  go_enter Try.func55, Try.ntmps55
  go_wp2
  go_ret
  exact ⟨rfl, (More.refl _).alloc _⟩

theorem rchunks (R : CfgOk wk cp pg st tr wt ck pr ca bi ba) :
    Calls Try.prog 16 #[.agg #[.int .i64 wk, .int .i64 cp, .int .i64 pg, .int .i64 st, .int .i64 tr, .int .i64 wt, .int .i64 ck, .int .i64 pr, .int .i64 ca, .int .i64 bi, .int .i64 ba]] w (Gives w (.int .i64 (chunksV pg))) := by
  have h_pg1 := R.pg1
  have h_pg2 := R.pg2
  go_enter Try.func16, Try.ntmps16
  go_wp2
  go_ret
  exact ⟨rfl, (More.refl _).alloc _⟩

theorem rheads (R : CfgOk wk cp pg st tr wt ck pr ca bi ba) :
    Calls Try.prog 60 #[.agg #[.int .i64 wk, .int .i64 cp, .int .i64 pg, .int .i64 st, .int .i64 tr, .int .i64 wt, .int .i64 ck, .int .i64 pr, .int .i64 ca, .int .i64 bi, .int .i64 ba]] w (Gives w (.int .i64 (headsV st pg))) := by
  have HR := Lib.hid R
  have b1 := tableB R
  have b2 := chunksB R
  have h1 := R.pg1
  have h2 := R.pg2
  have q0 : IntKind.i64.wrap (tableV st + chunksV pg) = tableV st + chunksV pg := wrap_in (by omega) (by omega)
  have q1 : IntKind.i64.wrap (5 * pg) = 5 * pg := wrap_in (by omega) (by omega)
  have q2 : IntKind.i64.wrap (tableV st + chunksV pg + 5 * pg) = tableV st + chunksV pg + 5 * pg := wrap_in (by omega) (by omega)
  have HC := Lib.hid (cfgAt_new w 37 wk cp pg st tr wt ck pr ca bi ba)
  have HM : Hid (More w (w.alloc (.cells #[.int .i64 wk, .int .i64 cp, .int .i64 pg, .int .i64 st, .int .i64 tr, .int .i64 wt, .int .i64 ck, .int .i64 pr, .int .i64 ca, .int .i64 bi, .int .i64 ba] 37))) := (More.refl w).alloc _
  clear R
  go_enter Try.func60, Try.ntmps60
  go_wp2_with fail
  generalize w.alloc (.cells #[.int .i64 wk, .int .i64 cp, .int .i64 pg, .int .i64 st, .int .i64 tr, .int .i64 wt, .int .i64 ck, .int .i64 pr, .int .i64 ca, .int .i64 bi, .int .i64 ba] 37) = W0 at *
  have hne : ∃ W, More W0 W := ⟨W0, More.refl _⟩
  refine wp_region_more (by kernel_rfl) (by kernel_rfl) ?_
  iterate 11
    refine wpQuiet_step (fun K hK => ?_)
    go_simp
    first
    | (refine hK _ ?_; clear hK K)
    | (apply Exists.intro
       refine ⟨fun W hW => ?_, hK _ ?_⟩
       first
       | (go_at_call 55; exact Calls.more hW (rtable _ _ _ _ _ _ _ _ _ _ _ _ HR.out))
       | (go_at_call 16; exact Calls.more hW (rchunks _ _ _ _ _ _ _ _ _ _ _ _ HR.out))
       | (obtain ⟨e0, e1, e2, e3, e4, e5, e6, e7, e8, e9, e10⟩ := HC.out.cells hW; go_simp; try rfl)
       clear hK K)
  refine wpQuiet_nil ?_
  intro W hW
  have HW := Lib.hid hW
  clear hW
  go_wp2_with fail
  go_ret
  exact ⟨rfl, HM.out.trans HW.out⟩

theorem rcaches (R : CfgOk wk cp pg st tr wt ck pr ca bi ba) :
    Calls Try.prog 63 #[.agg #[.int .i64 wk, .int .i64 cp, .int .i64 pg, .int .i64 st, .int .i64 tr, .int .i64 wt, .int .i64 ck, .int .i64 pr, .int .i64 ca, .int .i64 bi, .int .i64 ba]] w (Gives w (.int .i64 (cachesV st pg))) := by
  have b1 := headsB R
  have HR := Lib.hid R
  have e := (cfgAt_new w 37 wk cp pg st tr wt ck pr ca bi ba).cells (More.refl _)
  clear R
  go_enter Try.func63, Try.ntmps63
  go_wp2_with fail
  refine (rheads _ _ _ _ _ _ _ _ _ _ _ _ HR.out).mono ?_
  rintro e w1 ⟨rfl, h1⟩
  go_wp2_with fail
  go_ret
  exact ⟨rfl, ((More.refl _).alloc _).trans h1⟩

theorem rbins (R : CfgOk wk cp pg st tr wt ck pr ca bi ba) :
    Calls Try.prog 64 #[.agg #[.int .i64 wk, .int .i64 cp, .int .i64 pg, .int .i64 st, .int .i64 tr, .int .i64 wt, .int .i64 ck, .int .i64 pr, .int .i64 ca, .int .i64 bi, .int .i64 ba]] w (Gives w (.int .i64 (binsV cp pg st ca))) := by
  have HR := Lib.hid R
  have b1 := cachesB R
  have b2 := prod5B R
  have h1 := R.cp1
  have h2 := R.cp2
  have h3 := R.ca1
  have h4 := R.ca2
  have q0 : IntKind.i64.wrap (5 * cp) = 5 * cp := wrap_in (by omega) (by omega)
  have q1 : IntKind.i64.wrap (ca + 1) = ca + 1 := wrap_in (by omega) (by omega)
  have q2 : IntKind.i64.wrap (5 * cp * (ca + 1)) = 5 * cp * (ca + 1) := wrap_in (by omega) (by omega)
  have q3 : IntKind.i64.wrap (cachesV st pg + 5 * cp * (ca + 1)) = cachesV st pg + 5 * cp * (ca + 1) := wrap_in (by omega) (by omega)
  have HC := Lib.hid (cfgAt_new w 37 wk cp pg st tr wt ck pr ca bi ba)
  have HM : Hid (More w (w.alloc (.cells #[.int .i64 wk, .int .i64 cp, .int .i64 pg, .int .i64 st, .int .i64 tr, .int .i64 wt, .int .i64 ck, .int .i64 pr, .int .i64 ca, .int .i64 bi, .int .i64 ba] 37))) := (More.refl w).alloc _
  clear R
  go_enter Try.func64, Try.ntmps64
  go_wp2_with fail
  generalize w.alloc (.cells #[.int .i64 wk, .int .i64 cp, .int .i64 pg, .int .i64 st, .int .i64 tr, .int .i64 wt, .int .i64 ck, .int .i64 pr, .int .i64 ca, .int .i64 bi, .int .i64 ba] 37) = W0 at *
  have hne : ∃ W, More W0 W := ⟨W0, More.refl _⟩
  refine wp_region_more (by kernel_rfl) (by kernel_rfl) ?_
  iterate 13
    refine wpQuiet_step (fun K hK => ?_)
    go_simp
    first
    | (refine hK _ ?_; clear hK K)
    | (apply Exists.intro
       refine ⟨fun W hW => ?_, hK _ ?_⟩
       first
       | (go_at_call 63; exact Calls.more hW (rcaches _ _ _ _ _ _ _ _ _ _ _ _ HR.out))
       | (obtain ⟨e0, e1, e2, e3, e4, e5, e6, e7, e8, e9, e10⟩ := HC.out.cells hW; go_simp; try rfl)
       clear hK K)
  refine wpQuiet_nil ?_
  intro W hW
  have HW := Lib.hid hW
  clear hW
  go_wp2_with fail
  go_ret
  exact ⟨rfl, HM.out.trans HW.out⟩

theorem rlive (R : CfgOk wk cp pg st tr wt ck pr ca bi ba) :
    Calls Try.prog 62 #[.agg #[.int .i64 wk, .int .i64 cp, .int .i64 pg, .int .i64 st, .int .i64 tr, .int .i64 wt, .int .i64 ck, .int .i64 pr, .int .i64 ca, .int .i64 bi, .int .i64 ba]] w (Gives w (.int .i64 (liveV cp pg st ca bi))) := by
  have HR := Lib.hid R
  have b1 := binsB R
  have h1 := R.bi1
  have h2 := R.bi2
  have q0 : IntKind.i64.wrap (bi + 1) = bi + 1 := wrap_in (by omega) (by omega)
  have q1 : IntKind.i64.wrap (5 * (bi + 1)) = 5 * (bi + 1) := wrap_in (by omega) (by omega)
  have q2 : IntKind.i64.wrap (binsV cp pg st ca + 5 * (bi + 1)) = binsV cp pg st ca + 5 * (bi + 1) := wrap_in (by omega) (by omega)
  have HC := Lib.hid (cfgAt_new w 37 wk cp pg st tr wt ck pr ca bi ba)
  have HM : Hid (More w (w.alloc (.cells #[.int .i64 wk, .int .i64 cp, .int .i64 pg, .int .i64 st, .int .i64 tr, .int .i64 wt, .int .i64 ck, .int .i64 pr, .int .i64 ca, .int .i64 bi, .int .i64 ba] 37))) := (More.refl w).alloc _
  clear R
  go_enter Try.func62, Try.ntmps62
  go_wp2_with fail
  generalize w.alloc (.cells #[.int .i64 wk, .int .i64 cp, .int .i64 pg, .int .i64 st, .int .i64 tr, .int .i64 wt, .int .i64 ck, .int .i64 pr, .int .i64 ca, .int .i64 bi, .int .i64 ba] 37) = W0 at *
  have hne : ∃ W, More W0 W := ⟨W0, More.refl _⟩
  refine wp_region_more (by kernel_rfl) (by kernel_rfl) ?_
  iterate 9
    refine wpQuiet_step (fun K hK => ?_)
    go_simp
    first
    | (refine hK _ ?_; clear hK K)
    | (apply Exists.intro
       refine ⟨fun W hW => ?_, hK _ ?_⟩
       first
       | (go_at_call 64; exact Calls.more hW (rbins _ _ _ _ _ _ _ _ _ _ _ _ HR.out))
       | (obtain ⟨e0, e1, e2, e3, e4, e5, e6, e7, e8, e9, e10⟩ := HC.out.cells hW; go_simp; try rfl)
       clear hK K)
  refine wpQuiet_nil ?_
  intro W hW
  have HW := Lib.hid hW
  clear hW
  go_wp2_with fail
  go_ret
  exact ⟨rfl, HM.out.trans HW.out⟩

theorem ruser (R : CfgOk wk cp pg st tr wt ck pr ca bi ba) :
    Calls Try.prog 37 #[.agg #[.int .i64 wk, .int .i64 cp, .int .i64 pg, .int .i64 st, .int .i64 tr, .int .i64 wt, .int .i64 ck, .int .i64 pr, .int .i64 ca, .int .i64 bi, .int .i64 ba]] w (Gives w (.int .i64 (userV cp pg st ca bi))) := by
  have HR := Lib.hid R
  have b1 := liveB R
  have h1 := R.pg1
  have h2 := R.pg2
  have q0 : IntKind.i64.wrap (32 * pg) = 32 * pg := wrap_in (by omega) (by omega)
  have q1 : IntKind.i64.wrap (liveV cp pg st ca bi + 32 * pg) = liveV cp pg st ca bi + 32 * pg := wrap_in (by omega) (by omega)
  have q2 : IntKind.i64.wrap (liveV cp pg st ca bi + 32 * pg + 127) = liveV cp pg st ca bi + 32 * pg + 127 := wrap_in (by omega) (by omega)
  have q3 : IntKind.i64.wrap ((liveV cp pg st ca bi + 32 * pg + 127) / 128 * 128) = (liveV cp pg st ca bi + 32 * pg + 127) / 128 * 128 := wrap_in (by omega) (by omega)
  have qd : IntKind.i64.wrap ((liveV cp pg st ca bi + 32 * pg + 127).tdiv 128) = (liveV cp pg st ca bi + 32 * pg + 127) / 128 := by
    rw [Int.tdiv_eq_ediv_of_nonneg (by omega)]; exact wrap_in (by omega) (by omega)
  have HC := Lib.hid (cfgAt_new w 37 wk cp pg st tr wt ck pr ca bi ba)
  have HM : Hid (More w (w.alloc (.cells #[.int .i64 wk, .int .i64 cp, .int .i64 pg, .int .i64 st, .int .i64 tr, .int .i64 wt, .int .i64 ck, .int .i64 pr, .int .i64 ca, .int .i64 bi, .int .i64 ba] 37))) := (More.refl w).alloc _
  clear R
  go_enter Try.func37, Try.ntmps37
  go_wp2_with fail
  generalize w.alloc (.cells #[.int .i64 wk, .int .i64 cp, .int .i64 pg, .int .i64 st, .int .i64 tr, .int .i64 wt, .int .i64 ck, .int .i64 pr, .int .i64 ca, .int .i64 bi, .int .i64 ba] 37) = W0 at *
  have hne : ∃ W, More W0 W := ⟨W0, More.refl _⟩
  refine wp_region_more (by kernel_rfl) (by kernel_rfl) ?_
  iterate 11
    refine wpQuiet_step (fun K hK => ?_)
    go_simp
    first
    | (refine hK _ ?_; clear hK K)
    | (apply Exists.intro
       refine ⟨fun W hW => ?_, hK _ ?_⟩
       first
       | (go_at_call 62; exact Calls.more hW (rlive _ _ _ _ _ _ _ _ _ _ _ _ HR.out))
       | (obtain ⟨e0, e1, e2, e3, e4, e5, e6, e7, e8, e9, e10⟩ := HC.out.cells hW; go_simp; try rfl)
       clear hK K)
  refine wpQuiet_nil ?_
  intro W hW
  have HW := Lib.hid hW
  clear hW
  go_wp2_with fail
  go_ret
  exact ⟨rfl, HM.out.trans HW.out⟩

theorem rwords (R : CfgOk wk cp pg st tr wt ck pr ca bi ba) :
    Calls Try.prog 35 #[.agg #[.int .i64 wk, .int .i64 cp, .int .i64 pg, .int .i64 st, .int .i64 tr, .int .i64 wt, .int .i64 ck, .int .i64 pr, .int .i64 ca, .int .i64 bi, .int .i64 ba]] w (Gives w (.int .i64 (wordsV cp pg st ca bi))) := by
  have HR := Lib.hid R
  have b1 := userB R
  have h1 := R.pg1
  have h2 := R.pg2
  have q0 : IntKind.i64.wrap (32 * pg) = 32 * pg := wrap_in (by omega) (by omega)
  have q1 : IntKind.i64.wrap (userV cp pg st ca bi + 32 * pg) = userV cp pg st ca bi + 32 * pg := wrap_in (by omega) (by omega)
  have HC := Lib.hid (cfgAt_new w 37 wk cp pg st tr wt ck pr ca bi ba)
  have HM : Hid (More w (w.alloc (.cells #[.int .i64 wk, .int .i64 cp, .int .i64 pg, .int .i64 st, .int .i64 tr, .int .i64 wt, .int .i64 ck, .int .i64 pr, .int .i64 ca, .int .i64 bi, .int .i64 ba] 37))) := (More.refl w).alloc _
  clear R
  go_enter Try.func35, Try.ntmps35
  go_wp2_with fail
  generalize w.alloc (.cells #[.int .i64 wk, .int .i64 cp, .int .i64 pg, .int .i64 st, .int .i64 tr, .int .i64 wt, .int .i64 ck, .int .i64 pr, .int .i64 ca, .int .i64 bi, .int .i64 ba] 37) = W0 at *
  have hne : ∃ W, More W0 W := ⟨W0, More.refl _⟩
  refine wp_region_more (by kernel_rfl) (by kernel_rfl) ?_
  iterate 8
    refine wpQuiet_step (fun K hK => ?_)
    go_simp
    first
    | (refine hK _ ?_; clear hK K)
    | (apply Exists.intro
       refine ⟨fun W hW => ?_, hK _ ?_⟩
       first
       | (go_at_call 37; exact Calls.more hW (ruser _ _ _ _ _ _ _ _ _ _ _ _ HR.out))
       | (obtain ⟨e0, e1, e2, e3, e4, e5, e6, e7, e8, e9, e10⟩ := HC.out.cells hW; go_simp; try rfl)
       clear hK K)
  refine wpQuiet_nil ?_
  intro W hW
  have HW := Lib.hid hW
  clear hW
  go_wp2_with fail
  go_ret
  exact ⟨rfl, HM.out.trans HW.out⟩

end Go.Proofs.Ytocodbfafppgdaa
