/-
  The places of layout as plain sums, and what is known of them: no function of the program.
-/
import Derived.Test.YtahejbahnhohcaaDoorRows
import Derived.Test.YtahejbahnhohcaaDoorBase
import Derived.WalkKit
import Derived.WalkSpells
import Derived.WalkLawsBesides
import Derived.Outline
import Derived.IntWalk
import Derived.Lib.Hide
namespace Go.Proofs.YtahejbahnhohcaaDoor
open Go.RowKit
set_option linter.unusedVariables false
set_option linter.unusedSimpArgs false

/-- A configuration that may be. -/
structure CfgOk (wk cp pg st tr wt ck pr ca bi ba : Int) : Prop where
  wk1 : 1 ≤ wk
  wk2 : wk ≤ 64
  cp1 : 1 ≤ cp
  cp2 : cp ≤ 8
  pg1 : 1 ≤ pg
  pg2 : pg ≤ 256
  st1 : 1 ≤ st
  st2 : st ≤ 64
  tr1 : 0 ≤ tr
  tr2 : tr ≤ 16
  wt1 : 0 ≤ wt
  wt2 : wt ≤ 64
  ck1 : 1 ≤ ck
  ck2 : ck ≤ 1099511627776
  pr1 : 1 ≤ pr
  pr2 : pr ≤ 8
  ca1 : 0 ≤ ca
  ca2 : ca ≤ 8
  bi1 : 0 ≤ bi
  bi2 : bi ≤ 16
  ba1 : 1 ≤ ba
  ba2 : ba ≤ 8

/-! The places, as plain sums. -/
def tableV (st : Int) : Int := 3 + st
def chunksV (pg : Int) : Int := (pg + 3) / 4
def headsV (st pg : Int) : Int := tableV st + chunksV pg + 5 * pg
def cachesV (st pg : Int) : Int := headsV st pg + 62
def binsV (cp pg st ca : Int) : Int := cachesV st pg + 5 * cp * (ca + 1)
def liveV (cp pg st ca bi : Int) : Int := binsV cp pg st ca + 5 * (bi + 1)
def userV (cp pg st ca bi : Int) : Int := (liveV cp pg st ca bi + 32 * pg + 127) / 128 * 128
def wordsV (cp pg st ca bi : Int) : Int := userV cp pg st ca bi + 32 * pg

theorem wrap_in {x : Int} (h0 : -9223372036854775808 ≤ x) (h1 : x ≤ 9223372036854775807) : IntKind.i64.wrap x = x := IntWalk.i64_in _ (by omega)

section
variable {wk cp pg st tr wt ck pr ca bi ba : Int} (R : CfgOk wk cp pg st tr wt ck pr ca bi ba)
include R
theorem tableB : 4 ≤ tableV st ∧ tableV st ≤ 67 := by have := R.st1; have := R.st2; unfold tableV; omega
theorem chunksB : 1 ≤ chunksV pg ∧ chunksV pg ≤ 64 := by have := R.pg1; have := R.pg2; unfold chunksV; omega
theorem headsB : 10 ≤ headsV st pg ∧ headsV st pg ≤ 1411 := by have := tableB R; have := chunksB R; have := R.pg1; have := R.pg2; unfold headsV; omega
theorem cachesB : 72 ≤ cachesV st pg ∧ cachesV st pg ≤ 1473 := by have := headsB R; unfold cachesV; omega
theorem prodB : 1 ≤ cp * (ca + 1) ∧ cp * (ca + 1) ≤ 72 := by
  have h1 := R.cp1; have h2 := R.cp2; have h3 := R.ca1; have h4 := R.ca2
  constructor
  · have := Int.mul_le_mul h1 (show (1 : Int) ≤ ca + 1 by omega) (by omega) (by omega)
    omega
  · have := Int.mul_le_mul h2 (show ca + 1 ≤ 9 by omega) (by omega) (by omega)
    omega
theorem prod5B : 5 ≤ 5 * cp * (ca + 1) ∧ 5 * cp * (ca + 1) ≤ 360 := by
  have := prodB R
  rw [Int.mul_assoc]; omega
theorem binsB : 77 ≤ binsV cp pg st ca ∧ binsV cp pg st ca ≤ 1833 := by have := cachesB R; have := prod5B R; unfold binsV; omega
theorem liveB : 82 ≤ liveV cp pg st ca bi ∧ liveV cp pg st ca bi ≤ 1918 := by have := binsB R; have := R.bi1; have := R.bi2; unfold liveV; omega
theorem userB : 128 ≤ userV cp pg st ca bi ∧ userV cp pg st ca bi ≤ 10240 ∧ liveV cp pg st ca bi + 32 * pg ≤ userV cp pg st ca bi := by have := liveB R; have := R.pg1; have := R.pg2; unfold userV; omega
theorem wordsB : 160 ≤ wordsV cp pg st ca bi ∧ wordsV cp pg st ca bi ≤ 18432 := by have := userB R; have := R.pg1; have := R.pg2; unfold wordsV; omega
end

/-- A block that holds a configuration. -/
def CfgAt (w : World) (k : Nat) (T : Nat) (wk cp pg st tr wt ck pr ca bi ba : Int) : Prop := w.heap[k]? = some (.cells #[.int .i64 wk, .int .i64 cp, .int .i64 pg, .int .i64 st, .int .i64 tr, .int .i64 wt, .int .i64 ck, .int .i64 pr, .int .i64 ca, .int .i64 bi, .int .i64 ba] T (0, 0))
theorem cfgAt_new (w : World) (T : Nat) (wk cp pg st tr wt ck pr ca bi ba : Int) : CfgAt (w.alloc (.cells #[.int .i64 wk, .int .i64 cp, .int .i64 pg, .int .i64 st, .int .i64 tr, .int .i64 wt, .int .i64 ck, .int .i64 pr, .int .i64 ca, .int .i64 bi, .int .i64 ba] T)) w.heap.size T wk cp pg st tr wt ck pr ca bi ba := heap_new w _
theorem CfgAt.cells {w W : World} {k T : Nat} {wk cp pg st tr wt ck pr ca bi ba : Int} (h : CfgAt w k T wk cp pg st tr wt ck pr ca bi ba) (hW : More w W) :
    W.cell? ⟨k, 0, none⟩ = some (.int .i64 wk) ∧ W.cell? ⟨k, 1, none⟩ = some (.int .i64 cp) ∧ W.cell? ⟨k, 2, none⟩ = some (.int .i64 pg) ∧ W.cell? ⟨k, 3, none⟩ = some (.int .i64 st) ∧ W.cell? ⟨k, 4, none⟩ = some (.int .i64 tr) ∧ W.cell? ⟨k, 5, none⟩ = some (.int .i64 wt) ∧ W.cell? ⟨k, 6, none⟩ = some (.int .i64 ck) ∧ W.cell? ⟨k, 7, none⟩ = some (.int .i64 pr) ∧ W.cell? ⟨k, 8, none⟩ = some (.int .i64 ca) ∧ W.cell? ⟨k, 9, none⟩ = some (.int .i64 bi) ∧ W.cell? ⟨k, 10, none⟩ = some (.int .i64 ba) := by
  have := hW.block h
  simp [World.cell?, this]

theorem mulB {a b A B : Int} (h0 : 0 ≤ a) (h1 : a ≤ A) (h2 : 0 ≤ b) (h3 : b ≤ B) : 0 ≤ a * b ∧ a * b ≤ A * B :=
  ⟨Int.mul_nonneg h0 h2, Int.mul_le_mul h1 h3 h2 (by omega)⟩

/-! The places, where there is one; else 0. -/
def tblV (pg st k : Int) : Int := if 0 ≤ k ∧ k < chunksV pg then tableV st + k else 0
def pageV (pg st n p : Int) : Int := if 0 ≤ p ∧ p < pg then tableV st + chunksV pg + n * pg + p else 0
def addrV (cp pg st ca bi p : Int) : Int := if 0 ≤ p ∧ p < pg then userV cp pg st ca bi + 32 * p else 0
def binV (cp pg st ca bi c : Int) : Int := if 0 ≤ c ∧ c ≤ 4 then binsV cp pg st ca + c * (bi + 1) else 0
def liveAtV (cp pg st ca bi a : Int) : Int := if userV cp pg st ca bi ≤ a ∧ a < wordsV cp pg st ca bi then liveV cp pg st ca bi + a - userV cp pg st ca bi else 0
def cacheV (cp pg st ca u c : Int) : Int := if 0 ≤ u ∧ u < cp ∧ 0 ≤ c ∧ c ≤ 4 then cachesV st pg + (5 * u + c) * (ca + 1) else 0

def lockV (cp pg st ca bi a : Int) : Int := if 0 ≤ a ∧ a < wordsV cp pg st ca bi then 3 + a % st else 0
def slotsV (c : Int) : Int := if c ≤ 0 then 32 else if c = 1 then 16 else if c = 2 then 8 else if c = 3 then 4 else if c = 4 then 2 else 1
def aheadV (c : Int) : Int := if c ≤ 0 then 0 else if c = 1 then 32 else if c = 2 then 48 else if c = 3 then 56 else 60
def headV (pg st c f : Int) : Int := if 0 ≤ c ∧ c ≤ 4 ∧ 1 ≤ f ∧ f ≤ slotsV c then headsV st pg + aheadV c + f - 1 else 0

/-- A quarter of the way: the halves of 32. -/
theorem slots_step (i : Int) (h0 : 0 ≤ i) (h5 : i < 5) : slotsV i / 2 = slotsV (i + 1) ∧ 1 ≤ slotsV i ∧ slotsV i ≤ 32 := by
  have : i = 0 ∨ i = 1 ∨ i = 2 ∨ i = 3 ∨ i = 4 := by omega
  rcases this with rfl | rfl | rfl | rfl | rfl <;> decide
theorem slots_lo (c : Int) (h0 : 0 ≤ c) (h4 : c ≤ 4) : 2 ≤ slotsV c ∧ slotsV c ≤ 32 := by
  have : c = 0 ∨ c = 1 ∨ c = 2 ∨ c = 3 ∨ c = 4 := by omega
  rcases this with rfl | rfl | rfl | rfl | rfl <;> decide
theorem ahead_step (i : Int) (h0 : 0 ≤ i) (h5 : i < 4) : aheadV i + slotsV i = aheadV (i + 1) ∧ 0 ≤ aheadV i ∧ aheadV i ≤ 60 := by
  have : i = 0 ∨ i = 1 ∨ i = 2 ∨ i = 3 := by omega
  rcases this with rfl | rfl | rfl | rfl <;> decide
theorem ahead_b (c : Int) (h0 : 0 ≤ c) (h4 : c ≤ 4) : 0 ≤ aheadV c ∧ aheadV c ≤ 60 := by
  have : c = 0 ∨ c = 1 ∨ c = 2 ∨ c = 3 ∨ c = 4 := by omega
  rcases this with rfl | rfl | rfl | rfl | rfl <;> decide

def btw (n lo hi : Int) : Bool := decide (lo ≤ n) && decide (n ≤ hi)
variable (wk cp pg st tr wt ck pr ca bi ba : Int) in
def rightB : Bool := btw wk 1 64 && btw cp 1 8 && btw pg 1 256 && btw st 1 64 && btw tr 0 16 && btw wt 0 64 && btw ck 1 1099511627776 && btw pr 1 8 && btw ca 0 8 && btw bi 0 16 && btw ba 1 8

end Go.Proofs.YtahejbahnhohcaaDoor
