/-
  The landed class: where its table of sizes lies, and what Size and Slots answer.
-/
import Derived.Test.YtahejbahnhohcaaDoorLayPlain
import Derived.ProofKit
import Derived.LaidMore
import Derived.OpenShut
import Derived.Stop.Joined
namespace Go.Proofs.YtahejbahnhohcaaDoor
open Go.ChangeShapes Go.WideShapes Go.ChangeAt Go.RowKit
set_option linter.unusedVariables false
set_option linter.unusedSimpArgs false

/-- The words of a class's block. -/
def szV (c : Int) : Int := if c = 0 then 1 else if c = 1 then 2 else if c = 2 then 4 else if c = 3 then 8 else if c = 4 then 16 else 0
/-- The blocks of a class's page. -/
def slotsC (c : Int) : Int := if c = 0 then 32 else if c = 1 then 16 else if c = 2 then 8 else if c = 3 then 4 else if c = 4 then 2 else 0
/-- What the table holds. -/
def szT (k : Nat) : Int := 2 ^ k
theorem ways5c {k : Nat} (h : k ≤ 4) : k = 0 ∨ k = 1 ∨ k = 2 ∨ k = 3 ∨ k = 4 := by omega
theorem ways8c {k : Nat} (h : k < 8) : k = 0 ∨ k = 1 ∨ k = 2 ∨ k = 3 ∨ k = 4 ∨ k = 5 ∨ k = 6 ∨ k = 7 := by omega
theorem sz_none {c : Int} (h : c < 0 ∨ 4 < c) : szV c = 0 := by
  unfold szV
  rw [if_neg (by omega), if_neg (by omega), if_neg (by omega), if_neg (by omega), if_neg (by omega)]
theorem slotsC_none {c : Int} (h : c < 0 ∨ 4 < c) : slotsC c = 0 := by
  unfold slotsC
  rw [if_neg (by omega), if_neg (by omega), if_neg (by omega), if_neg (by omega), if_neg (by omega)]
theorem sz_b {k : Nat} (h : k ≤ 4) : 1 ≤ szV k ∧ szV k ≤ 16 := by
  rcases ways5c h with rfl | rfl | rfl | rfl | rfl <;> decide
theorem slots_of_sz {k : Nat} (h : k ≤ 4) : (32 : Int).tdiv (szV k) = slotsC k ∧ 2 ≤ slotsC k ∧ slotsC k ≤ 32 := by
  rcases ways5c h with rfl | rfl | rfl | rfl | rfl <;> decide
theorem slotsC_eq {c : Int} (h : 0 ≤ c ∧ c ≤ 4) : slotsC c = slotsV c := by
  obtain ⟨k, rfl⟩ : ∃ k : Nat, c = k := ⟨c.toNat, by omega⟩
  rcases ways5c (show k ≤ 4 by omega) with rfl | rfl | rfl | rfl | rfl <;> decide
theorem slotsC_b (c : Int) : 0 ≤ slotsC c ∧ slotsC c ≤ 32 := by unfold slotsC; (repeat' split) <;> omega
theorem szT_sz {k : Nat} (h : k < 5) : szT k = szV k := by
  rcases ways5c (show k ≤ 4 by omega) with rfl | rfl | rfl | rfl | rfl <;> rfl

def laidL {H : Type} : List (String × DataW H) := [("assart/class.sizes", Rows.laid_assart_class_sizes)]
theorem gSizes : Tryd.prog.globalNamed "assart/class.sizes" = some 0 := by kernel_rfl
theorem tSizes : (Tryd.prog.globals[0]?).map (·.type) = some 66 := by kernel_rfl

theorem door_met (os : Os) (args : Array Value) : laidMetH Tryd.prog laidL ((World.doorLaid Tryd.prog 400 os).forCall (fun _ _ => 0) ⟨#[], args, []⟩).memory :=
  laidMetH_of_parts3 (fuel := 8) (laidMet_of_run' 8 (by kernel_rfl) (by kernel_rfl)) (by kernel_rfl) (by kernel_rfl)

/-- The table of sizes lies in memory. -/
def Sizes (W : World) : Prop := ∃ b o cap, W.cell? ⟨0, 0, none⟩ = some (.slice (some ⟨b, o, none⟩) 8 cap) ∧ 8 ≤ cap ∧ b < W.heap.size ∧ ∀ i : Nat, i < 8 → W.cell? ⟨b, o + i, none⟩ = some (.int .i64 (szT i))

theorem of_laid {W : World} (h : laidMetH Tryd.prog laidL W) : Sizes W := by
  rw [MakeChecks.laidMetH_plain _ _ _ (by kernel_rfl)] at h
  obtain ⟨ps, ⟨g0, t0, cs0, f0, p0, q0, hg0, ht0, hv0, hd0, hrest⟩, _, _⟩ := h
  obtain rfl := Option.some.inj (gSizes.symm.trans hg0)
  obtain rfl := Option.some.inj (tSizes.symm.trans ht0)
  have hcell := World.var?_cell hg0 hv0 0
  rcases open_ints Tryd.underlying66 Tryd.underlying3 (by kernel_rfl) hd0 with ⟨_, hx⟩ | ⟨⟨b, o, spot⟩, len, cap, zs, hcs, _, hlc, _, hzl, hx, hc, _⟩
  · simp [Rows.laid_assart_class_sizes] at hx
  simp only [Prod.mk.injEq, Rows.laid_assart_class_sizes, DataW.slice.injEq] at hx
  obtain ⟨⟨h1, h2⟩, _⟩ := hx
  have hcap : zs.length = cap := by simpa using hzl
  have hz : zs.take len = [1, 2, 4, 8, 16, 32, 64, 128] := by
    have inj : ∀ l : List Int, ([.lit (.int .i64 1), .lit (.int .i64 2), .lit (.int .i64 4), .lit (.int .i64 8), .lit (.int .i64 16), .lit (.int .i64 32), .lit (.int .i64 64), .lit (.int .i64 128)] : List (DataW Unit)) = lits .i64 l → l = [1, 2, 4, 8, 16, 32, 64, 128] := by
      intro l hl
      match l with
      | [] => simp [lits] at hl
      | [a] => simp [lits] at hl
      | [a, b] => simp [lits] at hl
      | [a, b, c] => simp [lits] at hl
      | [a, b, c, d] => simp [lits] at hl
      | [a, b, c, d, e] => simp [lits] at hl
      | [a, b, c, d, e, f] => simp [lits] at hl
      | [a, b, c, d, e, f, g] => simp [lits] at hl
      | [a, b, c, d, e, f, g, h] => simp [lits] at hl; simp; omega
      | a :: b :: c :: d :: e :: f :: g :: h :: i :: r => simp [lits] at hl
    exact inj _ h1
  have hlen : len = 8 := by
    have := congrArg List.length hz
    simp at this
    omega
  subst hlen
  have hall : ∀ i : Nat, i < 8 → zs.getD i 0 = szT i := by
    intro i hi
    have h3 : (zs.take 8).getD i 0 = ([1, 2, 4, 8, 16, 32, 64, 128] : List Int).getD i 0 := by rw [hz]
    have h4 : (zs.take 8).getD i 0 = zs.getD i 0 := by simp [List.getD, List.getElem?_take, hi]
    rw [← h4, h3]
    rcases ways8c hi with rfl | rfl | rfl | rfl | rfl | rfl | rfl | rfl <;> rfl
  have hlz : 8 ≤ zs.length := by omega
  have hspot : spot = none := by simpa [Addr.add] using World.cell?_spot (hc 0 (by omega))
  subst hspot
  have hcells : ∀ i : Nat, i < 8 → W.cell? ⟨b, o + i, none⟩ = some (.int .i64 (szT i)) := fun i hi => by
    rw [← addr_add, hc i (by omega), hall i hi]
  refine ⟨b, o, cap, ?_, by omega, lt_of_cell (hcells 0 (by omega)), hcells⟩
  rw [hcell]
  have : cs0 = #[.slice (some ⟨b, o, none⟩) 8 cap] := by cases cs0; simpa using hcs
  rw [this]; rfl

theorem Sizes.more {W W' : World} (h : Sizes W) (hW : More W W') : Sizes W' := by
  obtain ⟨b, o, cap, h1, h2, h3, h4⟩ := h
  have hc : ∀ k j v, W.cell? ⟨k, j, none⟩ = some v → W'.cell? ⟨k, j, none⟩ = some v := fun k j v q => hW.cell q
  exact ⟨b, o, cap, hc _ _ _ h1, h2, Nat.lt_of_lt_of_le h3 hW.size, fun i hi => hc _ _ _ (h4 i hi)⟩

theorem cl_size (c : Int) (w : World) (h : Sizes w) : Calls Tryd.prog 69 #[.int .i64 c] w fun e w' => e = .returned (.int .i64 (szV c)) ∧ w' = w := by
  by_cases hc : 0 ≤ c ∧ c < 5
  · obtain ⟨k, rfl⟩ : ∃ k : Nat, c = k := ⟨c.toNat, by omega⟩
    obtain ⟨b, o, cap, h1, h2, h3, h4⟩ := h
    have hk : k < 5 := by omega
    have x1 := h4 k (by omega)
    rw [szT_sz hk] at x1
    have d0 : decide ((k : Int) < 0) = false := by simp
    have d1 : decide ((5 : Int) ≤ (k : Int)) = false := by simp; omega
    have d1b : decide (5 ≤ k) = false := by simp; omega
    have d2 : (k : Int) < 8 := by omega
    have d3 : k < 8 := by omega
    clear h4 hc
    go_enter Tryd.func69, Tryd.ntmps69
    go_wp2_with fail
    go_ret
    exact ⟨rfl, rfl⟩
  · rw [sz_none (by omega)]
    by_cases c0 : c < 0
    · have d0 : decide (c < 0) = true := by simp; omega
      go_enter Tryd.func69, Tryd.ntmps69
      go_wp2_with fail
      go_ret
      exact ⟨rfl, rfl⟩
    · have d0 : decide (c < 0) = false := by simp; omega
      have d1 : decide (5 ≤ c) = true := by simp; omega
      go_enter Tryd.func69, Tryd.ntmps69
      go_wp2_with fail
      go_ret
      exact ⟨rfl, rfl⟩

end Go.Proofs.YtahejbahnhohcaaDoor
