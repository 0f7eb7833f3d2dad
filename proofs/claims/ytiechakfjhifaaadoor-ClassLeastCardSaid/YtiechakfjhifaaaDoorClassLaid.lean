/-
  What the package-level table of sizes holds when a call begins.
-/
import Derived.Test.YtiechakfjhifaaaDoorClassFit
import Derived.Test.YtiechakfjhifaaaDoorArgs
import Derived.ProofKit
import Derived.LaidMore
import Derived.OpenShut
import Derived.Stop.Joined
namespace Go.Proofs.YtiechakfjhifaaaDoor
open Go.ChangeShapes Go.WideShapes Go.ChangeAt Go.RowKit
set_option linter.unusedVariables false
set_option linter.unusedSimpArgs false

def laidL {H : Type} : List (String × DataW H) := [("assart/class.sizes", Rows.laid_assart_class_sizes)]
theorem gSizes : Tryd.prog.globalNamed "assart/class.sizes" = some 0 := by kernel_rfl
theorem tSizes : (Tryd.prog.globals[0]?).map (·.type) = some 36 := by kernel_rfl

theorem door_met (os : Os) (args : Array Value) : laidMetH Tryd.prog laidL ((World.doorLaid Tryd.prog 400 os).forCall (fun _ _ => 0) ⟨#[], args, []⟩).memory :=
  laidMetH_of_parts3 (fuel := 8) (laidMet_of_run' 8 (by kernel_rfl) (by kernel_rfl)) (by kernel_rfl) (by kernel_rfl)

/-- The table of sizes lies in memory. -/
def Sizes (W : World) : Prop := ∃ b o cap, W.cell? ⟨0, 0, none⟩ = some (.slice (some ⟨b, o, none⟩) 8 cap) ∧ 8 ≤ cap ∧ b < W.heap.size ∧ ∀ i : Nat, i < 8 → W.cell? ⟨b, o + i, none⟩ = some (.int .i64 (pw i))

theorem of_laid {W : World} (h : laidMetH Tryd.prog laidL W) : Sizes W := by
  rw [MakeChecks.laidMetH_plain _ _ _ (by kernel_rfl)] at h
  obtain ⟨ps, ⟨g0, t0, cs0, f0, p0, q0, hg0, ht0, hv0, hd0, hrest⟩, _, _⟩ := h
  obtain rfl := Option.some.inj (gSizes.symm.trans hg0)
  obtain rfl := Option.some.inj (tSizes.symm.trans ht0)
  have hcell := World.var?_cell hg0 hv0 0
  rcases open_ints Tryd.underlying36 Tryd.underlying3 (by kernel_rfl) hd0 with ⟨_, hx⟩ | ⟨⟨b, o, spot⟩, len, cap, zs, hcs, _, hlc, _, hzl, hx, hc, _⟩
  · simp [Rows.laid_assart_class_sizes] at hx
  simp only [Prod.mk.injEq, Rows.laid_assart_class_sizes, DataW.slice.injEq] at hx
  obtain ⟨⟨h1, h2⟩, _⟩ := hx
  have hcap : zs.length = cap := by simpa using hzl
  have hz : zs.take len = [1, 2, 4, 8, 16, 32, 64, 128] := by
    have inj : ∀ l : List Int, ([.lit (.int .i64 1), .lit (.int .i64 2), .lit (.int .i64 4), .lit (.int .i64 8), .lit (.int .i64 16), .lit (.int .i64 32), .lit (.int .i64 64), .lit (.int .i64 128)] : List (DataW Unit)) = lits .i64 l → l = [1, 2, 4, 8, 16, 32, 64, 128] := by
      intro l hl
      match l with
      | [] => simp [lits] at hl
      | [a] => simp [lits] at hl
      | [a, b] => simp [lits] at hl
      | [a, b, c] => simp [lits] at hl
      | [a, b, c, d] => simp [lits] at hl
      | [a, b, c, d, e] => simp [lits] at hl
      | [a, b, c, d, e, f] => simp [lits] at hl
      | [a, b, c, d, e, f, g] => simp [lits] at hl
      | [a, b, c, d, e, f, g, h] => simp [lits] at hl; simp; omega
      | a :: b :: c :: d :: e :: f :: g :: h :: i :: r => simp [lits] at hl
    exact inj _ h1
  have hlen : len = 8 := by
    have := congrArg List.length hz
    simp at this
    omega
  subst hlen
  have hall : ∀ i : Nat, i < 8 → zs.getD i 0 = pw i := by
    intro i hi
    have h3 : (zs.take 8).getD i 0 = ([1, 2, 4, 8, 16, 32, 64, 128] : List Int).getD i 0 := by rw [hz]
    have h4 : (zs.take 8).getD i 0 = zs.getD i 0 := by simp [List.getD, List.getElem?_take, hi]
    rw [← h4, h3]
    rcases ways8 hi with rfl | rfl | rfl | rfl | rfl | rfl | rfl | rfl <;> rfl
  have hlz : 8 ≤ zs.length := by omega
  have hspot : spot = none := by simpa [Addr.add] using World.cell?_spot (hc 0 (by omega))
  subst hspot
  have hcells : ∀ i : Nat, i < 8 → W.cell? ⟨b, o + i, none⟩ = some (.int .i64 (pw i)) := fun i hi => by
    rw [← addr_add, hc i (by omega), hall i hi]
  refine ⟨b, o, cap, ?_, by omega, lt_of_cell (hcells 0 (by omega)), hcells⟩
  rw [hcell]
  have : cs0 = #[.slice (some ⟨b, o, none⟩) 8 cap] := by cases cs0; simpa using hcs
  rw [this]; rfl

theorem Sizes.more {W W' : World} (h : Sizes W) (hW : More W W') : Sizes W' := by
  obtain ⟨b, o, cap, h1, h2, h3, h4⟩ := h
  have hc : ∀ k j v, W.cell? ⟨k, j, none⟩ = some v → W'.cell? ⟨k, j, none⟩ = some v := fun k j v q => hW.cell q
  exact ⟨b, o, cap, hc _ _ _ h1, h2, Nat.lt_of_lt_of_le h3 hW.size, fun i hi => hc _ _ _ (h4 i hi)⟩

end Go.Proofs.YtiechakfjhifaaaDoor
