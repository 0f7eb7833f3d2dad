/-
  Operations on integers in regions that draw their order.
-/
import Derived.Test.YtahejbahnhohcaaDoorRegP
namespace Go.Proofs.YtahejbahnhohcaaDoor
open Go.RowKit
set_option linter.unusedVariables false
set_option linter.unusedSimpArgs false
section
variable {ops : Array Oper} {C : World → Prop} {o' : Oper} {a : Act} {x y : Operand}
theorem yieldsC_indexI {s len cap j : Nat} (hw : Region.wanted o' (yielded ops a.tmps) = true) (ho : o'.op = .indexAddr 66 x y) (hx : a.eval x = .slice (some ⟨s, 0, none⟩) len cap) (hy : a.eval y = .int .i64 (j : Int)) (hj : j < len) : YieldsC Tryd.prog ops C o' (.pointer (some ⟨s, j, none⟩)) a := by
  have d1 : decide (j < len) = true := by simp [hj]
  refine .inl ⟨hw, fun W hW => ?_⟩
  unfold execOp
  generalize a.eval = ρ at hx hy ⊢
  simp only [ho, hx, hy]
  go_simp
theorem yieldsC_lssI {u z : Int} (hw : Region.wanted o' (yielded ops a.tmps) = true) (ho : o'.op = .binOp .lss 3 x y 3) (hx : a.eval x = .int .i64 u) (hy : a.eval y = .int .i64 z) (b : Bool) (hb : decide (u < z) = b) : YieldsC Tryd.prog ops C o' (.bool b) a :=
  .inl ⟨hw, fun w _ => by unfold execOp; generalize a.eval = ρ at hx hy ⊢; simp only [ho, hx, hy]; subst hb; go_simp⟩
theorem yieldsC_gtrI {u z : Int} (hw : Region.wanted o' (yielded ops a.tmps) = true) (ho : o'.op = .binOp .gtr 3 x y 3) (hx : a.eval x = .int .i64 u) (hy : a.eval y = .int .i64 z) (b : Bool) (hb : decide (z < u) = b) : YieldsC Tryd.prog ops C o' (.bool b) a :=
  .inl ⟨hw, fun w _ => by unfold execOp; generalize a.eval = ρ at hx hy ⊢; simp only [ho, hx, hy]; subst hb; go_simp⟩
theorem yieldsC_geqI {u z : Int} (hw : Region.wanted o' (yielded ops a.tmps) = true) (ho : o'.op = .binOp .geq 3 x y 3) (hx : a.eval x = .int .i64 u) (hy : a.eval y = .int .i64 z) (b : Bool) (hb : decide (z ≤ u) = b) : YieldsC Tryd.prog ops C o' (.bool b) a :=
  .inl ⟨hw, fun w _ => by unfold execOp; generalize a.eval = ρ at hx hy ⊢; simp only [ho, hx, hy]; subst hb; go_simp⟩
theorem yieldsC_neqI {u z : Int} (hw : Region.wanted o' (yielded ops a.tmps) = true) (ho : o'.op = .binOp .neq 3 x y 3) (hx : a.eval x = .int .i64 u) (hy : a.eval y = .int .i64 z) (b : Bool) (hb : (u != z) = b) : YieldsC Tryd.prog ops C o' (.bool b) a :=
  .inl ⟨hw, fun w _ => by unfold execOp; generalize a.eval = ρ at hx hy ⊢; simp only [ho, hx, hy]; subst hb; go_simp⟩
theorem yieldsC_subI {u z : Int} (hw : Region.wanted o' (yielded ops a.tmps) = true) (ho : o'.op = .binOp .sub 3 x y 3) (hx : a.eval x = .int .i64 u) (hy : a.eval y = .int .i64 z) (t : Int) (hq : IntKind.i64.wrap (u - z) = t) : YieldsC Tryd.prog ops C o' (.int .i64 t) a :=
  .inl ⟨hw, fun w _ => by unfold execOp; generalize a.eval = ρ at hx hy ⊢; simp only [ho, hx, hy]; subst hq; go_simp⟩
theorem yieldsC_neqB {b : Bool} (hw : Region.wanted o' (yielded ops a.tmps) = true) (ho : o'.op = .binOp .neq 4 x y 4) (hx : a.eval x = .bool b) (hy : a.eval y = .bool b) : YieldsC Tryd.prog ops C o' (.bool false) a :=
  .inl ⟨hw, fun w _ => by unfold execOp; generalize a.eval = ρ at hx hy ⊢; simp only [ho, hx, hy]; cases b <;> go_simp⟩
theorem yieldsC_leqI {u z : Int} (hw : Region.wanted o' (yielded ops a.tmps) = true) (ho : o'.op = .binOp .leq 3 x y 3) (hx : a.eval x = .int .i64 u) (hy : a.eval y = .int .i64 z) (b : Bool) (hb : decide (u ≤ z) = b) : YieldsC Tryd.prog ops C o' (.bool b) a :=
  .inl ⟨hw, fun w _ => by unfold execOp; generalize a.eval = ρ at hx hy ⊢; simp only [ho, hx, hy]; subst hb; go_simp⟩
theorem yieldsC_eqlBB {b c d : Bool} (hw : Region.wanted o' (yielded ops a.tmps) = true) (ho : o'.op = .binOp .eql 4 x y 4) (hx : a.eval x = .bool b) (hy : a.eval y = .bool c) (hd : (b == c) = d) : YieldsC Tryd.prog ops C o' (.bool d) a :=
  .inl ⟨hw, fun w _ => by unfold execOp; generalize a.eval = ρ at hx hy ⊢; simp only [ho, hx, hy]; subst hd; go_simp⟩
end
end Go.Proofs.YtahejbahnhohcaaDoor
