/-
  The landed package view: a view in memory, what is known and what was written; Read and Write.
-/
import Derived.Test.YtonenkgjlmcfkaaMapCopy
import Derived.Test.YtonenkgjlmcfkaaViewD
import Derived.Maps.OwnSet
import Derived.WalkArith
import Derived.LaidEqlPtr
namespace Go.Proofs.Ytonenkgjlmcfkaa
open Go.RowKit Go.Sort Go.Maps
set_option linter.unusedVariables false
set_option linter.unusedSimpArgs false

theorem wf_of {x : Int} (h : W64 x) : (Lit.int .i64 x).wf = true := WalkArith.wf_i64 h
theorem of_wf {x : Int} (h : (Lit.int .i64 x).wf = true) : W64 x := by
  simp only [Lit.wf, Bool.and_eq_true, decide_eq_true_eq] at h
  exact ⟨h.1, h.2⟩
theorem law_int : Keyed Try.prog 3 := int_keyed Try.underlying3
theorem zero_int (w : World) : (zeroValue 3).run Try.prog w = .ok (.int .i64 0) w := by kernel_rfl
theorem key_int {x : Int} (h : W64 x) : keyOf Try.prog 3 (.int .i64 x) = some (.int .i64 x) := keyOf_int_mk Try.underlying3 (wf_of h)

/-- Block M is a map of at most n words, which are as kn says. -/
def KnownAt (w : World) (M n : Nat) (kn : Int → Option Int) : Prop :=
  ∃ D : DataW Unit, w.ownsMap Try.prog 3 (plainElem Try.prog 3) M n D ∧ ∀ x, W64 x → Maps.has D (.int .i64 x) = (kn x).isSome ∧ D.atKey (.int .i64 x) (.lit (.int .i64 0)) = .lit (.int .i64 ((kn x).getD 0))
namespace KnownAt
variable {w w' : World} {M n : Nat} {kn : Int → Option Int}
theorem lt (h : KnownAt w M n kn) : M < w.heap.size := by obtain ⟨D, hD, _⟩ := h; exact hD.lt
theorem keep (h : KnownAt w M n kn) {S : Nat → Prop} (t : Turned S w w') (hs : ¬ S M) : KnownAt w' M n kn := by
  obtain ⟨D, ⟨es, clock, hb, F⟩, hk⟩ := h
  exact ⟨D, ⟨es, clock, (Turned.block t M (lt_of_heap hb) hs).trans hb, F⟩, hk⟩
theorem more (h : KnownAt w M n kn) (t : More w w') : KnownAt w' M n kn := h.keep t (fun q => q)
theorem look (h : KnownAt w M n kn) {a : Int} (ha : W64 a) : (Instr.lookup 64 (.map (some M)) (.int .i64 a) true).run Try.prog w = .ok (.tuple #[.int .i64 ((kn a).getD 0), .bool (kn a).isSome]) w := by
  obtain ⟨D, hD, hk⟩ := h
  obtain ⟨v, ps, hr, hv⟩ := hD.look_ok law_int Try.underlying64 (zero_int w) (plainElem_int Try.underlying3 (by decide)) (key_int ha)
  obtain ⟨c, rfl, hc, _⟩ := plainElem_int_inv Try.underlying3 hv
  obtain ⟨h1, h2⟩ := hk a ha
  rw [h1] at hr
  rw [h2] at hc
  simp only [Prod.mk.injEq, DataW.lit.injEq, Lit.int.injEq, true_and] at hc
  rw [hr, ← hc.1]
theorem made (w : World) : KnownAt (w.alloc (.map #[] 0)) w.heap.size 0 (fun _ => none) :=
  ⟨.map [], World.ownsMap_made _ _ _ _, fun x _ => ⟨rfl, rfl⟩⟩
theorem store (h : KnownAt w M n kn) {a x : Int} (ha : W64 a) (hx : W64 x) (hn : n < maxLen) :
    ∃ w', (Instr.mapUpdate 64 (.map (some M)) (.int .i64 a) (.int .i64 x)).run Try.prog w = .ok () w' ∧ KnownAt w' M (n + 1) (fun y => if y = a then some x else kn y) ∧ Turned (fun k => k = M) w w' := by
  obtain ⟨D, hD, hk⟩ := h
  obtain ⟨w', hr, h1, h2⟩ := hD.update law_int Try.underlying64 hn (key_int ha) (plainElem_int Try.underlying3 (wf_of hx))
  refine ⟨w', hr, ⟨_, h1, fun y hy => ?_⟩, ⟨h2.os, h2.tape, h2.output, h2.size, fun k hk hne => h2.block k hk (fun e => hne (Option.some.inj e))⟩⟩
  by_cases e : y = a
  · subst e
    dsimp only
    rw [if_pos rfl]
    refine ⟨has_put_same hD.isMap ?_ _, atKey_put_same hD.isMap ?_ _ _⟩ <;> exact law_int.key (key_int ha)
  · have hne : (Lit.int .i64 y) ≠ Lit.int .i64 a := fun q => e (by simpa using q)
    dsimp only
    rw [if_neg e, has_put_other hne, atKey_put_other hne]
    exact hk y hy
end KnownAt

/-- The cells of a view. -/
def viewCells (self : Option Addr) (M q : Nat) (need : Int) : Array Value := #[.pointer self, .map (some M), .pointer (some ⟨q, 0, none⟩), .int .i64 need]
/-- At p, in the blocks F, stands a view that knows kn, of what was written D. -/
structure ViewAt (w : World) (F : Nat → Prop) (p : Nat) (kn : Int → Option Int) (D : List KV) : Prop where
  ex : ∃ M q n F0, w.heap[p]? = some (.cells (viewCells (some ⟨p, 0, none⟩) M q (-1)) 93 (0, 0)) ∧ KnownAt w M n kn ∧ MapAt w F0 q D ∧ F p ∧ (∀ k, F0 k → F k ∧ k ≠ p) ∧ ¬ F M
  lt : ∀ k, F k → k < w.heap.size
/-- At p is a view whose run is over; need: where it ended. -/
def DeadAt (w : World) (p : Nat) (need : Int) : Prop := ∃ M q, w.heap[p]? = some (.cells (viewCells none M q need) 93 (0, 0))

theorem ViewAt.keep {w w' : World} {F S : Nat → Prop} {p : Nat} {kn : Int → Option Int} {D : List KV} (h : ViewAt w F p kn D) (ht : Turned S w w') (hs : ∀ k, F k → ¬ S k) (hM : ∀ k, S k → F k ∨ False) : ViewAt w' F p kn D := by
  obtain ⟨M, q, n, F0, hp, hk, hm, fp, f0, fM⟩ := h.ex
  refine ⟨⟨M, q, n, F0, by rw [Turned.block ht p (lt_of_heap hp) (hs p fp)]; exact hp, hk.keep ht (fun q => ?_), hm.keep ht (fun k q => hs k (f0 k q).1), fp, f0, fM⟩, fun k hk => Nat.lt_of_lt_of_le (h.lt k hk) ht.size⟩
  rcases hM M q with r | r
  · exact fM r
  · exact r
theorem ViewAt.more {w w' : World} {F : Nat → Prop} {p : Nat} {kn : Int → Option Int} {D : List KV} (h : ViewAt w F p kn D) (ht : More w w') : ViewAt w' F p kn D := h.keep ht (fun _ _ q => q) (fun _ q => .inr q)
theorem DeadAt.keep {w w' : World} {S : Nat → Prop} {p : Nat} {a : Int} (h : DeadAt w p a) (ht : Turned S w w') (hs : ¬ S p) : DeadAt w' p a := by
  obtain ⟨M, q, hp⟩ := h
  exact ⟨M, q, by rw [Turned.block ht p (lt_of_heap hp) hs]; exact hp⟩

/-- What a run's end is made of. -/
def endOf (p : Nat) : List PanicEntry := [{ v := .iface 95 (.agg #[.pointer (some ⟨p, 0, none⟩)]), recovered := false }]

theorem view_cells {w : World} {p M q : Nat} {self : Option Addr} {need : Int} (h : w.heap[p]? = some (.cells (viewCells self M q need) 93 (0, 0))) :
    w.cell? ⟨p, 0, none⟩ = some (.pointer self) ∧ w.cell? ⟨p, 1, none⟩ = some (.map (some M)) ∧ w.cell? ⟨p, 2, none⟩ = some (.pointer (some ⟨q, 0, none⟩)) ∧ w.cell? ⟨p, 3, none⟩ = some (.int .i64 need) ∧ (∀ j, w.frozen? ⟨p, j, none⟩ = false) ∧ p < w.heap.size :=
  ⟨by simp [World.cell?, h, viewCells], by simp [World.cell?, h, viewCells], by simp [World.cell?, h, viewCells], by simp [World.cell?, h, viewCells], fun j => by simp [World.frozen?, h], lt_of_heap h⟩

theorem info_view : ∃ j, Try.prog.info? 93 = some j := by
  have h : (Try.prog.info? 93).isSome = true := by kernel_rfl
  exact Option.isSome_iff_exists.1 h
theorem eql_view (p : Addr) (w : World) : Sem.run Try.prog (binOp BinOp.eql 38 (.pointer (some p)) (.pointer (some p))) w = .ok (.bool true) w := by
  obtain ⟨j, hj⟩ := info_view
  exact run_eql_ptr_same w p Try.underlying38 hj
theorem run_equalIn_none {P : Program} (w : World) (d : Nat) (t : TypeId) {e : TypeId} (h : P.underlying t = some (.pointer e)) (p : Addr) : (Op.equalIn (d + 1) t (.pointer none) (.pointer (some p))).run P w = .ok false w := by
  simp [Op.equalIn, run_underlying h]
theorem eql_none (p : Addr) (w : World) : Sem.run Try.prog (binOp BinOp.eql 38 (.pointer none) (.pointer (some p))) w = .ok (.bool false) w := by
  have h : Sem.run Try.prog (Op.equal 38 (.pointer none) (.pointer (some p))) w = .ok false w := run_equalIn_none w 9999 _ Try.underlying38 p
  simp only [binOp]
  simp [h]
theorem neq_view (p : Addr) (w : World) : Sem.run Try.prog (binOp BinOp.neq 38 (.pointer (some p)) (.pointer (some p))) w = .ok (.bool false) w := by
  obtain ⟨j, hj⟩ := info_view
  have h : Sem.run Try.prog (Op.equal 38 (.pointer (some p)) (.pointer (some p))) w = .ok true w := by
    have := run_eql_ptr_same (P := Try.prog) w p Try.underlying38 hj
    simp only [binOp] at this
    cases e : Sem.run Try.prog (Op.equal 38 (.pointer (some p)) (.pointer (some p))) w <;> rw [Sem.run_bind, e] at this <;> simp [Result.andThen] at this
    obtain ⟨rfl, rfl⟩ := this
    rfl
  simp only [binOp]
  simp [h]

set_option maxHeartbeats 1000000 in
theorem stands_nil (w : World) : Calls Try.prog 75 #[.pointer none] w fun e w' => e = .returned (.bool false) ∧ w' = w := by
  go_enter Try.func75, Try.ntmps75
  go_wp2_with fail
  go_ret
  exact ⟨rfl, rfl⟩
set_option maxHeartbeats 1000000 in
theorem stands_yes (p : Nat) (w : World) (h : w.cell? ⟨p, 0, none⟩ = some (.pointer (some ⟨p, 0, none⟩))) : Calls Try.prog 75 #[.pointer (some ⟨p, 0, none⟩)] w fun e w' => e = .returned (.bool true) ∧ w' = w := by
  have hq := fun w => eql_view ⟨p, 0, none⟩ w
  go_enter Try.func75, Try.ntmps75
  go_wp2_with fail
  go_ret
  exact ⟨rfl, rfl⟩
set_option maxHeartbeats 1000000 in
theorem stands_no (p : Nat) (w : World) (h : w.cell? ⟨p, 0, none⟩ = some (.pointer none)) : Calls Try.prog 75 #[.pointer (some ⟨p, 0, none⟩)] w fun e w' => e = .returned (.bool false) ∧ w' = w := by
  have hq := fun w => eql_none ⟨p, 0, none⟩ w
  go_enter Try.func75, Try.ntmps75
  go_wp2_with fail
  go_ret
  exact ⟨rfl, rfl⟩
end Go.Proofs.Ytonenkgjlmcfkaa
