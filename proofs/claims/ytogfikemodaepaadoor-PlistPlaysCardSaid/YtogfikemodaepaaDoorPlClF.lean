/-
  The landed class: where its table of sizes lies, and what Size and Slots answer.
-/
import Derived.Test.YtogfikemodaepaaDoorPlD
import Derived.ProofKit
import Derived.LaidMore
import Derived.OpenShut
import Derived.Stop.Joined
import Derived.Test.YtogfikemodaepaaDoorReg
import Derived.Test.YtogfikemodaepaaDoorPlA
namespace Go.Proofs.YtogfikemodaepaaDoor
open Go.ChangeShapes Go.WideShapes Go.ChangeAt Go.RowKit
set_option linter.unusedVariables false
set_option linter.unusedSimpArgs false

/-- The words of a class's block. -/
def szV (c : Int) : Int := if c = 0 then 1 else if c = 1 then 2 else if c = 2 then 4 else if c = 3 then 8 else if c = 4 then 16 else 0
/-- The blocks of a class's page. -/
def slotsC (c : Int) : Int := if c = 0 then 32 else if c = 1 then 16 else if c = 2 then 8 else if c = 3 then 4 else if c = 4 then 2 else 0
/-- What the table holds. -/
def szT (k : Nat) : Int := 2 ^ k
theorem ways5c {k : Nat} (h : k ≤ 4) : k = 0 ∨ k = 1 ∨ k = 2 ∨ k = 3 ∨ k = 4 := by omega
theorem ways8c {k : Nat} (h : k < 8) : k = 0 ∨ k = 1 ∨ k = 2 ∨ k = 3 ∨ k = 4 ∨ k = 5 ∨ k = 6 ∨ k = 7 := by omega
theorem sz_none {c : Int} (h : c < 0 ∨ 4 < c) : szV c = 0 := by
  unfold szV
  rw [if_neg (by omega), if_neg (by omega), if_neg (by omega), if_neg (by omega), if_neg (by omega)]
theorem slotsC_none {c : Int} (h : c < 0 ∨ 4 < c) : slotsC c = 0 := by
  unfold slotsC
  rw [if_neg (by omega), if_neg (by omega), if_neg (by omega), if_neg (by omega), if_neg (by omega)]
theorem sz_b {k : Nat} (h : k ≤ 4) : 1 ≤ szV k ∧ szV k ≤ 16 := by
  rcases ways5c h with rfl | rfl | rfl | rfl | rfl <;> decide
theorem slots_of_sz {k : Nat} (h : k ≤ 4) : (32 : Int).tdiv (szV k) = slotsC k ∧ 2 ≤ slotsC k ∧ slotsC k ≤ 32 := by
  rcases ways5c h with rfl | rfl | rfl | rfl | rfl <;> decide
theorem slotsC_eq {c : Int} (h : 0 ≤ c ∧ c ≤ 4) : slotsC c = slotsV c := by
  obtain ⟨k, rfl⟩ : ∃ k : Nat, c = k := ⟨c.toNat, by omega⟩
  rcases ways5c (show k ≤ 4 by omega) with rfl | rfl | rfl | rfl | rfl <;> decide
theorem slotsC_b (c : Int) : 0 ≤ slotsC c ∧ slotsC c ≤ 32 := by unfold slotsC; (repeat' split) <;> omega
theorem szT_sz {k : Nat} (h : k < 5) : szT k = szV k := by
  rcases ways5c (show k ≤ 4 by omega) with rfl | rfl | rfl | rfl | rfl <;> rfl

def laidL {H : Type} : List (String × DataW H) := [("assart/class.sizes", Rows.laid_assart_class_sizes)]
theorem gSizes : Tryd.prog.globalNamed "assart/class.sizes" = some 0 := by kernel_rfl
theorem tSizes : (Tryd.prog.globals[0]?).map (·.type) = some 31 := by kernel_rfl

theorem door_met (os : Os) (args : Array Value) : laidMetH Tryd.prog laidL ((World.doorLaid Tryd.prog 400 os).forCall (fun _ _ => 0) ⟨#[], args, []⟩).memory :=
  laidMetH_of_parts3 (fuel := 8) (laidMet_of_run' 8 (by kernel_rfl) (by kernel_rfl)) (by kernel_rfl) (by kernel_rfl)

/-- The table of sizes lies in memory. -/
def Sizes (W : World) : Prop := ∃ b o cap, W.cell? ⟨0, 0, none⟩ = some (.slice (some ⟨b, o, none⟩) 8 cap) ∧ 8 ≤ cap ∧ b < W.heap.size ∧ ∀ i : Nat, i < 8 → W.cell? ⟨b, o + i, none⟩ = some (.int .i64 (szT i))

theorem of_laid {W : World} (h : laidMetH Tryd.prog laidL W) : Sizes W := by
  rw [MakeChecks.laidMetH_plain _ _ _ (by kernel_rfl)] at h
  obtain ⟨ps, ⟨g0, t0, cs0, f0, p0, q0, hg0, ht0, hv0, hd0, hrest⟩, _, _⟩ := h
  obtain rfl := Option.some.inj (gSizes.symm.trans hg0)
  obtain rfl := Option.some.inj (tSizes.symm.trans ht0)
  have hcell := World.var?_cell hg0 hv0 0
  rcases open_ints Tryd.underlying31 Tryd.underlying3 (by kernel_rfl) hd0 with ⟨_, hx⟩ | ⟨⟨b, o, spot⟩, len, cap, zs, hcs, _, hlc, _, hzl, hx, hc, _⟩
  · simp [Rows.laid_assart_class_sizes] at hx
  simp only [Prod.mk.injEq, Rows.laid_assart_class_sizes, DataW.slice.injEq] at hx
  obtain ⟨⟨h1, h2⟩, _⟩ := hx
  have hcap : zs.length = cap := by simpa using hzl
  have hz : zs.take len = [1, 2, 4, 8, 16, 32, 64, 128] := by
    have inj : ∀ l : List Int, ([.lit (.int .i64 1), .lit (.int .i64 2), .lit (.int .i64 4), .lit (.int .i64 8), .lit (.int .i64 16), .lit (.int .i64 32), .lit (.int .i64 64), .lit (.int .i64 128)] : List (DataW Unit)) = lits .i64 l → l = [1, 2, 4, 8, 16, 32, 64, 128] := by
      intro l hl
      match l with
      | [] => simp [lits] at hl
      | [a] => simp [lits] at hl
      | [a, b] => simp [lits] at hl
      | [a, b, c] => simp [lits] at hl
      | [a, b, c, d] => simp [lits] at hl
      | [a, b, c, d, e] => simp [lits] at hl
      | [a, b, c, d, e, f] => simp [lits] at hl
      | [a, b, c, d, e, f, g] => simp [lits] at hl
      | [a, b, c, d, e, f, g, h] => simp [lits] at hl; simp; omega
      | a :: b :: c :: d :: e :: f :: g :: h :: i :: r => simp [lits] at hl
    exact inj _ h1
  have hlen : len = 8 := by
    have := congrArg List.length hz
    simp at this
    omega
  subst hlen
  have hall : ∀ i : Nat, i < 8 → zs.getD i 0 = szT i := by
    intro i hi
    have h3 : (zs.take 8).getD i 0 = ([1, 2, 4, 8, 16, 32, 64, 128] : List Int).getD i 0 := by rw [hz]
    have h4 : (zs.take 8).getD i 0 = zs.getD i 0 := by simp [List.getD, List.getElem?_take, hi]
    rw [← h4, h3]
    rcases ways8c hi with rfl | rfl | rfl | rfl | rfl | rfl | rfl | rfl <;> rfl
  have hlz : 8 ≤ zs.length := by omega
  have hspot : spot = none := by simpa [Addr.add] using World.cell?_spot (hc 0 (by omega))
  subst hspot
  have hcells : ∀ i : Nat, i < 8 → W.cell? ⟨b, o + i, none⟩ = some (.int .i64 (szT i)) := fun i hi => by
    rw [← addr_add, hc i (by omega), hall i hi]
  refine ⟨b, o, cap, ?_, by omega, lt_of_cell (hcells 0 (by omega)), hcells⟩
  rw [hcell]
  have : cs0 = #[.slice (some ⟨b, o, none⟩) 8 cap] := by cases cs0; simpa using hcs
  rw [this]; rfl

theorem Sizes.more {W W' : World} (h : Sizes W) (hW : More W W') : Sizes W' := by
  obtain ⟨b, o, cap, h1, h2, h3, h4⟩ := h
  have hc : ∀ k j v, W.cell? ⟨k, j, none⟩ = some v → W'.cell? ⟨k, j, none⟩ = some v := fun k j v q => hW.cell q
  exact ⟨b, o, cap, hc _ _ _ h1, h2, Nat.lt_of_lt_of_le h3 hW.size, fun i hi => hc _ _ _ (h4 i hi)⟩

theorem cl_size (c : Int) (w : World) (h : Sizes w) : Calls Tryd.prog 41 #[.int .i64 c] w fun e w' => e = .returned (.int .i64 (szV c)) ∧ w' = w := by
  by_cases hc : 0 ≤ c ∧ c < 5
  · obtain ⟨k, rfl⟩ : ∃ k : Nat, c = k := ⟨c.toNat, by omega⟩
    obtain ⟨b, o, cap, h1, h2, h3, h4⟩ := h
    have hk : k < 5 := by omega
    have x1 := h4 k (by omega)
    rw [szT_sz hk] at x1
    have d0 : decide ((k : Int) < 0) = false := by simp
    have d1 : decide ((5 : Int) ≤ (k : Int)) = false := by simp; omega
    have d1b : decide (5 ≤ k) = false := by simp; omega
    have d2 : (k : Int) < 8 := by omega
    have d3 : k < 8 := by omega
    clear h4 hc
    go_enter Tryd.func41, Tryd.ntmps41
    go_wp2_with fail
    go_ret
    exact ⟨rfl, rfl⟩
  · rw [sz_none (by omega)]
    by_cases c0 : c < 0
    · have d0 : decide (c < 0) = true := by simp; omega
      go_enter Tryd.func41, Tryd.ntmps41
      go_wp2_with fail
      go_ret
      exact ⟨rfl, rfl⟩
    · have d0 : decide (c < 0) = false := by simp; omega
      have d1 : decide (5 ≤ c) = true := by simp; omega
      go_enter Tryd.func41, Tryd.ntmps41
      go_wp2_with fail
      go_ret
      exact ⟨rfl, rfl⟩

theorem cl_slots (c : Int) (w : World) (h : Sizes w) : Calls Tryd.prog 21 #[.int .i64 c] w fun e w' => e = .returned (.int .i64 (slotsC c)) ∧ w' = w := by
  by_cases hc : 0 ≤ c ∧ c < 5
  · obtain ⟨k, rfl⟩ : ∃ k : Nat, c = k := ⟨c.toNat, by omega⟩
    have hk : k ≤ 4 := by omega
    have sb := sz_b hk
    obtain ⟨s1, s2, s3⟩ := slots_of_sz hk
    have d2 : (szV k == 0) = false := by simp; omega
    have q0 : IntKind.i64.wrap ((32 : Int).tdiv (szV k)) = slotsC k := by rw [s1]; exact wrap_in (by omega) (by omega)
    clear s1 hc
    go_enter Tryd.func21, Tryd.ntmps21
    go_wp2_with fail
    refine (cl_size _ _ h).mono ?_
    rintro e w1 ⟨rfl, rfl⟩
    go_wp2_with fail
    go_ret
    exact ⟨rfl, rfl⟩
  · have HK : Hid (∀ W, Sizes W → Calls Tryd.prog 41 #[.int .i64 c] W fun e w' => e = .returned (.int .i64 0) ∧ w' = W) := fun W hW => by
      have := cl_size c W hW
      rwa [sz_none (by omega)] at this
    rw [slotsC_none (by omega)]
    go_enter Tryd.func21, Tryd.ntmps21
    go_wp2_with fail
    refine (HK.out _ h).mono ?_
    rintro e w1 ⟨rfl, rfl⟩
    go_wp2_with fail
    go_ret
    exact ⟨rfl, rfl⟩

/-- As above, the world told the other way round. -/
theorem cl_slotsW (c : Int) (w : World) (h : Sizes w) : Calls Tryd.prog 21 #[.int .i64 c] w fun e w' => e = .returned (.int .i64 (slotsC c)) ∧ w = w' := (cl_slots c w h).mono fun e w' q => ⟨q.1, q.2.symm⟩
end Go.Proofs.YtogfikemodaepaaDoor

namespace Go.Proofs.YtogfikemodaepaaDoor
open Go.RowKit Go.Sort Go.Maps Go.Shelf
set_option linter.unusedVariables false
set_option linter.unusedSimpArgs false
section
variable {ops : Array Oper} {C : World → Prop} {o' : Oper} {a : Act} {x y : Operand}
theorem yieldsC_indexI {s len cap j : Nat} (hw : Region.wanted o' (yielded ops a.tmps) = true) (ho : o'.op = .indexAddr 31 x y) (hx : a.eval x = .slice (some ⟨s, 0, none⟩) len cap) (hy : a.eval y = .int .i64 (j : Int)) (hj : j < len) : YieldsC Tryd.prog ops C o' (.pointer (some ⟨s, j, none⟩)) a := by
  have d1 : decide (j < len) = true := by simp [hj]
  refine .inl ⟨hw, fun W hW => ?_⟩
  unfold execOp
  generalize a.eval = ρ at hx hy ⊢
  simp only [ho, hx, hy]
  go_simp
theorem yieldsC_lssI {u z : Int} (hw : Region.wanted o' (yielded ops a.tmps) = true) (ho : o'.op = .binOp .lss 3 x y 3) (hx : a.eval x = .int .i64 u) (hy : a.eval y = .int .i64 z) (b : Bool) (hb : decide (u < z) = b) : YieldsC Tryd.prog ops C o' (.bool b) a :=
  .inl ⟨hw, fun w _ => by unfold execOp; generalize a.eval = ρ at hx hy ⊢; simp only [ho, hx, hy]; subst hb; go_simp⟩
theorem yieldsC_gtrI {u z : Int} (hw : Region.wanted o' (yielded ops a.tmps) = true) (ho : o'.op = .binOp .gtr 3 x y 3) (hx : a.eval x = .int .i64 u) (hy : a.eval y = .int .i64 z) (b : Bool) (hb : decide (z < u) = b) : YieldsC Tryd.prog ops C o' (.bool b) a :=
  .inl ⟨hw, fun w _ => by unfold execOp; generalize a.eval = ρ at hx hy ⊢; simp only [ho, hx, hy]; subst hb; go_simp⟩
theorem yieldsC_geqI {u z : Int} (hw : Region.wanted o' (yielded ops a.tmps) = true) (ho : o'.op = .binOp .geq 3 x y 3) (hx : a.eval x = .int .i64 u) (hy : a.eval y = .int .i64 z) (b : Bool) (hb : decide (z ≤ u) = b) : YieldsC Tryd.prog ops C o' (.bool b) a :=
  .inl ⟨hw, fun w _ => by unfold execOp; generalize a.eval = ρ at hx hy ⊢; simp only [ho, hx, hy]; subst hb; go_simp⟩
theorem yieldsC_neqI {u z : Int} (hw : Region.wanted o' (yielded ops a.tmps) = true) (ho : o'.op = .binOp .neq 3 x y 3) (hx : a.eval x = .int .i64 u) (hy : a.eval y = .int .i64 z) (b : Bool) (hb : (u != z) = b) : YieldsC Tryd.prog ops C o' (.bool b) a :=
  .inl ⟨hw, fun w _ => by unfold execOp; generalize a.eval = ρ at hx hy ⊢; simp only [ho, hx, hy]; subst hb; go_simp⟩
theorem yieldsC_subI {u z : Int} (hw : Region.wanted o' (yielded ops a.tmps) = true) (ho : o'.op = .binOp .sub 3 x y 3) (hx : a.eval x = .int .i64 u) (hy : a.eval y = .int .i64 z) (t : Int) (hq : IntKind.i64.wrap (u - z) = t) : YieldsC Tryd.prog ops C o' (.int .i64 t) a :=
  .inl ⟨hw, fun w _ => by unfold execOp; generalize a.eval = ρ at hx hy ⊢; simp only [ho, hx, hy]; subst hq; go_simp⟩
theorem yieldsC_neqB {b : Bool} (hw : Region.wanted o' (yielded ops a.tmps) = true) (ho : o'.op = .binOp .neq 4 x y 4) (hx : a.eval x = .bool b) (hy : a.eval y = .bool b) : YieldsC Tryd.prog ops C o' (.bool false) a :=
  .inl ⟨hw, fun w _ => by unfold execOp; generalize a.eval = ρ at hx hy ⊢; simp only [ho, hx, hy]; cases b <;> go_simp⟩
theorem yieldsC_leqI {u z : Int} (hw : Region.wanted o' (yielded ops a.tmps) = true) (ho : o'.op = .binOp .leq 3 x y 3) (hx : a.eval x = .int .i64 u) (hy : a.eval y = .int .i64 z) (b : Bool) (hb : decide (u ≤ z) = b) : YieldsC Tryd.prog ops C o' (.bool b) a :=
  .inl ⟨hw, fun w _ => by unfold execOp; generalize a.eval = ρ at hx hy ⊢; simp only [ho, hx, hy]; subst hb; go_simp⟩
theorem yieldsC_eqlBB {b c d : Bool} (hw : Region.wanted o' (yielded ops a.tmps) = true) (ho : o'.op = .binOp .eql 4 x y 4) (hx : a.eval x = .bool b) (hy : a.eval y = .bool c) (hd : (b == c) = d) : YieldsC Tryd.prog ops C o' (.bool d) a :=
  .inl ⟨hw, fun w _ => by unfold execOp; generalize a.eval = ρ at hx hy ⊢; simp only [ho, hx, hy]; subst hd; go_simp⟩
end
end Go.Proofs.YtogfikemodaepaaDoor

namespace Go.Proofs.YtogfikemodaepaaDoor
open Go.RowKit Go.Sort Go.Maps Go.Shelf
set_option linter.unusedVariables false
set_option linter.unusedSimpArgs false

/-- The table of sizes lies at b. -/
def SzAt (b : Nat) (W : World) : Prop := ∃ o cap, W.cell? ⟨0, 0, none⟩ = some (.slice (some ⟨b, o, none⟩) 8 cap) ∧ 8 ≤ cap ∧ b < W.heap.size ∧ ∀ i : Nat, i < 8 → W.cell? ⟨b, o + i, none⟩ = some (.int .i64 (szT i))
theorem SzAt.sizes {b : Nat} {w : World} (h : SzAt b w) : Sizes w := ⟨b, h⟩
theorem SzAt.lt {b : Nat} {w : World} (h : SzAt b w) : b < w.heap.size := by obtain ⟨_, _, _, _, h, _⟩ := h; exact h
theorem SzAt.lt0 {b : Nat} {w : World} (h : SzAt b w) : 0 < w.heap.size := by obtain ⟨_, _, h, _⟩ := h; exact lt_of_cell h
theorem SzAt.keep {b : Nat} {w w' : World} {S : Nat → Prop} (h : SzAt b w) (t : Turned S w w') (n0 : ¬ S 0) (nb : ¬ S b) : SzAt b w' := by
  have hc : ∀ k, ¬ S k → ∀ j v, w.cell? ⟨k, j, none⟩ = some v → w'.cell? ⟨k, j, none⟩ = some v := fun k nk j v q => by
    rw [World.cell?_of_block (w := w) (t.block k (lt_of_cell q) nk)]; exact q
  obtain ⟨o, cap, h1, h2, h3, h4⟩ := h
  exact ⟨o, cap, hc _ n0 _ _ h1, h2, Nat.lt_of_lt_of_le h3 t.size, fun i hi => hc _ nb _ _ (h4 i hi)⟩
theorem SzAt.more {b : Nat} {w w' : World} (h : SzAt b w) (t : More w w') : SzAt b w' := h.keep t (fun q => q) (fun q => q)

set_option maxRecDepth 100000 in
set_option maxHeartbeats 4000000 in
theorem pl_First {c : Cfg} (R : c.Ok) {n : Nat} (H : HdIn c.pg c.st n) (F : Nat → Prop) (p : Nat) (kn : Int → Option Int) (D : List KV) (cl : Int) (w : World) (hv : ViewAt w F p kn D) (hk : OkK kn) (hD : InvD n D) (b : Nat) (hs : SzAt b w) (nF0 : ¬ F 0) (nFb : ¬ F b) :
    Calls Tryd.prog 13 #[.pointer (some ⟨p, 0, none⟩), .agg c.arr, .int .i64 cl] w (WentV w F p kn (fun x => .int .i64 x) (plFirstN c.pg c.st cl (slotsC cl).toNat 1 kn D)) := by
  obtain ⟨Rr, hRr⟩ : ∃ Rr, plFirstN c.pg c.st cl (slotsC cl).toNat 1 kn D = Rr := ⟨_, rfl⟩
  rw [hRr]
  obtain ⟨w1, e1, hl1, m1, s1⟩ := entry1 w (.cells c.arr 28)
  have nFl : ¬ F w.heap.size := fun q => by have := hv.lt _ q; omega
  have MM := Lib.hid m1
  have L0 := Lib.hid hl1
  have M0 : Hid (MidV w1 w1 F (fun _ => False) p kn n D F) := Lib.hid (MidV.begin (hv.more m1) hD)
  have KL : Hid (∀ wr D' F', MidV w1 wr F (fun _ => False) p kn n D' F' → wr.heap[w.heap.size]? = some (.cells c.arr 28 (0, 0))) := Lib.hid fun wr D' F' h => mid_own h L0.out nFl (fun q => q)
  have NEED : Hid (∀ a w2, Rr = .need a → DeadAt w2 p a → Turned (fun b => F b ∨ False) w1 w2 → WentV w F p kn (fun x : Int => Value.int .i64 x) Rr (.panicked (endOf p)) w2) := Lib.hid fun a w2 e hd ht => mid_need MM.out (fun _ q => q.elim) e hd ht
  have DONE : Hid (∀ x w2 D' F', Rr = .ok x D' → MidV w1 w2 F (fun _ => False) p kn n D' F' → WentV w F p kn (fun x : Int => Value.int .i64 x) Rr (.returned ((fun x : Int => Value.int .i64 x) x)) w2) := Lib.hid fun x w2 D' F' e h => mid_done MM.out (fun _ q => q.elim) h e
  have HK := Lib.hid hk
  have HR := Lib.hid R
  have HH := Lib.hid H
  clear hl1 m1 hv hD hk R H nFl
  have SZ : Hid (∀ wr D' F', MidV w1 wr F (fun _ => False) p kn n D' F' → Sizes wr) := Lib.hid fun wr D' F' h => ((hs.more MM.out).keep h.turn (by rintro (q | q); exact nF0 q; exact q) (by rintro (q | q); exact nFb q; exact q)).sizes
  have HRr := Lib.hid hRr
  have hsl := slotsC_b cl
  clear hRr hs nF0 nFb
  go_enter Tryd.func13, Tryd.ntmps13
  go_wp2_with fail
  go_loopw [7] (fun v7 wr => ∃ (f : Int) (k : Nat) (D' : List KV) (F' : Nat → Prop), v7 = .int .i64 f ∧ 1 ≤ f ∧ f + k = slotsC cl + 1 ∧ MidV w1 wr F (fun _ => False) p kn n D' F' ∧ plFirstN c.pg c.st cl k f kn D' = Rr) (fun v7 _ => (slotsC cl + 1 - intOf v7).toNat)
  case atStart => exact ⟨1, (slotsC cl).toNat, D, F, rfl, by omega, by omega, M0.out, HRr.out⟩
  case round =>
    clear HRr
    obtain ⟨f, k, D', F', rfl, hf1, hfk, MI, hrest⟩ := hrel
    have MI := Lib.hid MI
    go_wp2_with fail
    refine (cl_slotsW cl wr (SZ.out _ _ _ MI.out)).mono ?_
    rintro e w9 ⟨rfl, rfl⟩
    match k with
    | 0 =>
      have d1 : decide (f ≤ slotsC cl) = false := by simp; omega
      have FIN := Lib.hid (DONE.out (-1) _ D' F' hrest.symm MI.out)
      clear hrest
      go_wp2_with fail
      go_ret
      exact FIN.out
    | k + 1 =>
      have d1 : decide (f ≤ slotsC cl) = true := by simp; omega
      have qf : IntKind.i64.wrap (f + 1) = f + 1 := wrap_in (by omega) (by omega)
      have RI := Lib.hid (show bindP (plLeadP c.pg (headV c.pg c.st cl f)) (fun q => if q = -1 then plFirstN c.pg c.st cl k (f + 1) else pureP q) kn D' = Rr from hrest)
      clear hrest
      go_wp2_with fail
      refine wp_region_anyC (TrC c w.heap.size) (by kernel_rfl) ?_
      have MR := Lib.hid (MI.out.more ((More.refl wr).drewN 1))
      change anyC _ _ _ _ _ _ _ _ (wr.drewN 1)
      generalize wr.drewN 1 = wq at MR ⊢
      generalize hA : Act.mk _ _ = A
      have HF : AG 25 A [(0, .pointer (some ⟨p, 0, none⟩)), (1, .agg c.arr), (2, .int .i64 cl), (4, .pointer (some ⟨w.heap.size, 0, none⟩)), (7, .int .i64 f)] := by
        rw [← hA]
        refine ⟨⟨Nat.le_of_ble_eq_true rfl, rfl⟩, ?_⟩
        intro z hz; simp only [List.mem_cons, List.not_mem_nil, or_false] at hz; rcases hz with rfl | rfl | rfl | rfl | rfl <;> rfl
      refine anyC_start (fun a W => ∃ (u15 u16 u17 u18 u19 u20 : Value) (x9 : Int) (D9 : List KV) (F9 : Nat → Prop), a = (Act.put (Act.put (Act.put (Act.put (Act.put (Act.put (Act.put (Act.put A (some 15) u15) (some 16) u16) (some 17) u17) (some 18) u18) (some 19) u19) (some 20) u20) (some 21) (.int .i64 x9)) (some 8) (.int .i64 x9)) ∧ MidV w1 W F (fun _ => False) p kn n D9 F9 ∧ (if x9 = -1 then plFirstN c.pg c.st cl k (f + 1) else pureP x9) kn D9 = Rr) (fun W => WentV w F p kn (fun x : Int => Value.int .i64 x) Rr (.panicked (endOf p)) W) (endOf p) (fun a W hd h => ⟨hd, h⟩) (fun _ _ _ _ _ h => h) ?_ ?_
      · skip
        rintro a wa ⟨u15, u16, u17, u18, u19, u20, x9, D9, F9, rfl, MS, RS⟩
        rw [← hA]
        replace MS := Lib.hid MS
        clear HF hA MR RI MI
        go_simp
        by_cases hx : x9 = -1
        · have d2 : (x9 != -1) = false := by simp [hx]
          rw [if_pos hx] at RS
          replace RS := Lib.hid RS
          clear hx
          go_wp2_with fail
          go_roundw
          case rel => exact ⟨f + 1, k, D9, F9, by go_num, by omega, by omega, MS.out, RS.out⟩
          case measure => simp [intOf]; omega
        · have d2 : (x9 != -1) = true := by simp [hx]
          rw [if_neg hx] at RS
          have FIN := Lib.hid (DONE.out x9 wa D9 F9 RS.symm MS.out)
          clear RS hx
          go_wp2_with fail
          go_ret
          exact FIN.out
      intro QQ FINE FIND FINQ
      clear hA
      refine anyC_takeD (i := 0) (v := .pointer (some ⟨p, 0, none⟩)) (some 15) rfl rfl (by kernel_rfl) (by kernel_rfl) (by kernel_rfl) (fun c a w => FINQ c a _ _ w) (KL.out _ _ _ MR.out) (by exact yieldsC_moveG (wanted_none rfl) _ rfl (HF.get 0 rfl)) ?_
      replace HF := HF.put 15 (.pointer (some ⟨p, 0, none⟩)) (by decide) rfl
      generalize hB1_15 : Act.put _ _ _ = A at HF ⊢
      refine anyC_takeD (i := 1) (v := .agg c.arr) (some 16) rfl rfl (by kernel_rfl) (by kernel_rfl) (by kernel_rfl) (fun c a w => FINQ c a _ _ w) (KL.out _ _ _ MR.out) (by exact yieldsC_row (C := (TrC c w.heap.size)) (wanted_none rfl) 28 _ rfl w.heap.size (HF.get 4 rfl) 28 _ _ _ (fun W hW => hW) Tryd.underlying28 rfl (by kernel_rfl)) ?_
      replace HF := HF.put 16 (.agg c.arr) (by decide) rfl
      generalize hB2_16 : Act.put _ _ _ = A at HF ⊢
      refine anyC_takeD (i := 2) (v := .agg c.arr) (some 17) rfl rfl (by kernel_rfl) (by kernel_rfl) (by kernel_rfl) (fun c a w => FINQ c a _ _ w) (KL.out _ _ _ MR.out) (by exact yieldsC_row (C := (TrC c w.heap.size)) (wanted_none rfl) 28 _ rfl w.heap.size (HF.get 5 rfl) 28 _ _ _ (fun W hW => hW) Tryd.underlying28 rfl (by kernel_rfl)) ?_
      replace HF := HF.put 17 (.agg c.arr) (by decide) rfl
      generalize hB3_17 : Act.put _ _ _ = A at HF ⊢
      refine anyC_takeD (i := 3) (v := .int .i64 cl) (some 18) rfl rfl (by kernel_rfl) (by kernel_rfl) (by kernel_rfl) (fun c a w => FINQ c a _ _ w) (KL.out _ _ _ MR.out) (by exact yieldsC_moveG (wanted_none rfl) _ rfl (HF.get 5 rfl)) ?_
      replace HF := HF.put 18 (.int .i64 cl) (by decide) rfl
      generalize hB4_18 : Act.put _ _ _ = A at HF ⊢
      refine anyC_takeD (i := 4) (v := .int .i64 f) (some 19) rfl rfl (by kernel_rfl) (by kernel_rfl) (by kernel_rfl) (fun c a w => FINQ c a _ _ w) (KL.out _ _ _ MR.out) (by exact yieldsC_moveG (wanted_none rfl) _ rfl (HF.get 8 rfl)) ?_
      replace HF := HF.put 19 (.int .i64 f) (by decide) rfl
      generalize hB5_19 : Act.put _ _ _ = A at HF ⊢
      refine anyC_oneK (i := 5) (some 20) (by kernel_rfl) rfl (wanted_none rfl) rfl (fun K hK => ?_)
      refine wp_call3 (v0 := .agg c.arr) (v1 := .int .i64 cl) (v2 := .int .i64 f) rfl (HF.get 2 rfl) (HF.get 1 rfl) (HF.get 0 rfl) (enters_of Tryd.func35 (by kernel_rfl) rfl) ?_
      refine (y_head HR.out wq cl f).mono ?_
      rintro e w4 ⟨rfl, h4⟩
      have M4 := Lib.hid (MR.out.more h4)
      clear h4
      refine hK _ _ (KL.out _ _ _ M4.out) ?_
      clear hK K
      replace HF := HF.put 20 (.int .i64 (headV c.pg c.st cl f)) (by decide) rfl
      generalize hB6_20 : Act.put _ _ _ = A at HF ⊢
      refine anyC_oneK (i := 6) (some 21) (by kernel_rfl) rfl (wanted_none rfl) rfl (fun K hK => ?_)
      refine wp_call3 (v0 := .pointer (some ⟨p, 0, none⟩)) (v1 := .agg c.arr) (v2 := .int .i64 (headV c.pg c.st cl f)) rfl (HF.get 5 rfl) (HF.get 4 rfl) (HF.get 0 rfl) (enters_of Tryd.func34 (by kernel_rfl) rfl) ?_
      refine (pl_leads HR.out HH.out F' p kn D' (headV c.pg c.st cl f) (head_b HH.out).2.2 (head_b HH.out).2.1 w4 M4.out.view HK.out M4.out.inv).mono ?_
      intro e w5 he
      rcases M4.out.step (More.refl _) HK.out (good_plLead HH.out (head_b HH.out).2.1) he with ⟨a', hE, rfl, hd', ht', _⟩ | ⟨x5, D5, F5, hE, rfl, M5, hq5, _, _⟩
      · exact FIND _ _ HF.1.2 (NEED.out a' w5 (RI.out.symm.trans (bindP_need hE)) hd' ht')
      have R5 := Lib.hid ((bindP_ok hE).symm.trans RI.out)
      have M5 := Lib.hid M5
      clear he hE
      refine hK _ _ (KL.out _ _ _ M5.out) ?_
      clear hK K
      replace HF := HF.put 21 (.int .i64 x5) (by decide) rfl
      generalize hB7_21 : Act.put _ _ _ = A at HF ⊢
      refine anyC_takeD (i := 7) (v := .int .i64 x5) (some 8) rfl rfl (by kernel_rfl) (by kernel_rfl) (by kernel_rfl) (fun c a w => FINQ c a _ _ w) (KL.out _ _ _ M5.out) (by exact yieldsC_assign (wanted_none rfl) _ rfl (HF.get 0 rfl)) ?_
      replace HF := HF.put 8 (.int .i64 x5) (by decide) rfl
      generalize hB8_8 : Act.put _ _ _ = A at HF ⊢
      exact anyC_done (by kernel_rfl) (FINE _ _ ⟨(.pointer (some ⟨p, 0, none⟩)), (.agg c.arr), (.agg c.arr), (.int .i64 cl), (.int .i64 f), (.int .i64 (headV c.pg c.st cl f)), x5, D5, F5, by rw [← hB8_8, ← hB7_21, ← hB6_20, ← hB5_19, ← hB4_18, ← hB3_17, ← hB2_16, ← hB1_15], M5.out, R5.out⟩)
end Go.Proofs.YtogfikemodaepaaDoor

