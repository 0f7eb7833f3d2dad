/-
  Small programs over words, step by step, as plain functions: what a run needs, or writes; and what they do over words.
-/
import Derived.Test.YtflihdcliknggaaMapBase
import Derived.Test.YtflihdcliknggaaMapAll
import Derived.Maps.OwnSet
import Derived.WalkArith
import Derived.LaidEqlPtr
import Derived.Outline
import Derived.WalkSmall
import Derived.WalkLawsBesides
import Derived.StillTailTactics
namespace Go.Proofs.Ytflihdcliknggaa
set_option linter.unusedVariables false
set_option linter.unusedSimpArgs false

/-- A number of 64 bits. -/
def W64 (x : Int) : Prop := -9223372036854775808 ≤ x ∧ x ≤ 9223372036854775807
abbrev Ins3 := Int × Int × Int
/-- What a run comes to: a word that is needed, or what was written. -/
inductive Ran where
  | need (a : Int)
  | done (D : List KV)
/-- What is read at an address. -/
def wordV (kn : Int → Option Int) (D : List KV) (a : Int) : Option Int :=
  if a < 0 then some 0 else (look D a).or (kn a)
def writeV (D : List KV) (a x : Int) : List KV := if a < 0 then D else putD D a x
/-- A run, from a step on; the Bool: is the step left out? -/
def runP (kn : Int → Option Int) : List Ins3 → Bool → Int → List KV → Ran
  | [], _, _, D => .done D
  | _ :: r, true, x, D => runP kn r false x D
  | (k, a, b) :: r, false, x, D =>
    if k = 0 then (match wordV kn D a with | none => .need a | some y => runP kn r false y D)
    else if k = 1 then runP kn r false x (writeV D a b)
    else if k = 2 then runP kn r false x (writeV D a x)
    else if k = 3 then (match wordV kn D x with | none => .need x | some y => runP kn r false y D)
    else if k = 4 then runP kn r (decide (x = b)) x D
    else runP kn r false x D

theorem runP_skip (kn : Int → Option Int) (l : List Ins3) (x : Int) (D : List KV) : runP kn l true x D = runP kn (l.drop 1) false x D := by
  cases l <;> rfl
theorem runP_past (kn : Int → Option Int) (l : List Ins3) (i : Nat) (x : Int) (D : List KV) (h : l.length ≤ i) : runP kn (l.drop i) false x D = .done D := by
  rw [List.drop_eq_nil_of_le h]; rfl

def OkP (l : List Ins3) : Prop := ∀ i ∈ l, W64 i.2.1 ∧ W64 i.2.2
def OkK (kn : Int → Option Int) : Prop := ∀ a v, kn a = some v → W64 v
def OkD (D : List KV) : Prop := ∀ p ∈ D, 0 ≤ p.1 ∧ W64 p.1 ∧ W64 p.2

theorem okD_nil : OkD [] := fun p h => by cases h
theorem mem_putD {D : List KV} {k v : Int} {p : KV} (h : p ∈ putD D k v) : p = (k, v) ∨ p ∈ D := by
  unfold putD less more at h
  rw [List.mem_append, List.mem_cons] at h
  rcases h with h | h | h
  · exact .inr (List.mem_filter.1 h).1
  · exact .inl h
  · exact .inr (List.mem_filter.1 h).1
theorem okD_write {D : List KV} (h : OkD D) {a x : Int} (ha : W64 a) (hx : W64 x) : OkD (writeV D a x) := by
  unfold writeV
  split
  · exact h
  · intro p hp
    rcases mem_putD hp with rfl | hp
    · exact ⟨by simp; omega, ha, hx⟩
    · exact h p hp
theorem asc_write {D : List KV} (h : Asc D) (a x : Int) : Asc (writeV D a x) := by
  unfold writeV
  split
  · exact h
  · exact asc_putD h a x
theorem len_write {D : List KV} (h : Asc D) (a x : Int) : (writeV D a x).length ≤ D.length + 1 := by
  unfold writeV
  split
  · omega
  · exact len_putD_le h a x
theorem word_ok {kn : Int → Option Int} (hk : OkK kn) {D : List KV} (hD : OkD D) {a y : Int} (h : wordV kn D a = some y) : W64 y := by
  unfold wordV at h
  split at h
  · cases h; unfold W64; omega
  · cases e : look D a with
    | none => rw [e] at h; exact hk a y (by simpa using h)
    | some v =>
      rw [e] at h
      have : v = y := by simpa using h
      subst this
      exact (hD _ (look_mem e)).2.2
theorem word_none {kn : Int → Option Int} {D : List KV} {a : Int} (h : wordV kn D a = none) : 0 ≤ a ∧ look D a = none ∧ kn a = none := by
  unfold wordV at h
  split at h
  · cases h
  · cases e : look D a with
    | none => rw [e] at h; exact ⟨by omega, rfl, by simpa using h⟩
    | some v => rw [e] at h; simp at h

/-- What a run comes to is in order. -/
def Fine (kn : Int → Option Int) (n : Nat) : Ran → Prop
  | .need a => 0 ≤ a ∧ W64 a ∧ kn a = none
  | .done D => OkD D ∧ Asc D ∧ D.length ≤ n
theorem runP_fine {kn : Int → Option Int} (hk : OkK kn) : ∀ (l : List Ins3) (s : Bool) (x : Int) (D : List KV) (n : Nat), OkP l → W64 x → OkD D → Asc D → D.length + l.length ≤ n → Fine kn n (runP kn l s x D)
  | [], s, x, D, n, _, _, hD, hA, hn => ⟨hD, hA, by simpa using hn⟩
  | i :: r, true, x, D, n, hl, hx, hD, hA, hn => runP_fine hk r false x D n (fun j hj => hl j (by simp [hj])) hx hD hA (by simp at hn; omega)
  | (k, a, b) :: r, false, x, D, n, hl, hx, hD, hA, hn => by
    have hr : OkP r := fun j hj => hl j (by simp [hj])
    obtain ⟨ha, hb⟩ := hl (k, a, b) (by simp)
    simp only [List.length_cons] at hn
    simp only at ha hb
    have h1 := len_write hA a b
    have h2 := len_write hA a x
    unfold runP
    split
    · split
      · rename_i e; exact ⟨(word_none e).1, ha, (word_none e).2.2⟩
      · rename_i y e; exact runP_fine hk r false y D n hr (word_ok hk hD e) hD hA (by omega)
    split
    · exact runP_fine hk r false x _ n hr hx (okD_write hD ha hb) (asc_write hA a b) (by omega)
    split
    · exact runP_fine hk r false x _ n hr hx (okD_write hD ha hx) (asc_write hA a x) (by omega)
    split
    · split
      · rename_i e; exact ⟨(word_none e).1, hx, (word_none e).2.2⟩
      · rename_i y e; exact runP_fine hk r false y D n hr (word_ok hk hD e) hD hA (by omega)
    split
    · exact runP_fine hk r _ x D n hr hx hD hA (by omega)
    · exact runP_fine hk r false x D n hr hx hD hA (by omega)

/-- The step at i, and from there on. -/
theorem drop_step {l : List Ins3} {i : Nat} {s : Ins3} (h : l[i]? = some s) : l.drop i = s :: l.drop (i + 1) := by
  obtain ⟨hi, rfl⟩ := List.getElem?_eq_some_iff.1 h
  exact List.drop_eq_getElem_cons hi
section
variable {kn : Int → Option Int} {l : List Ins3} {i : Nat} {k a b x y : Int} {D : List KV} {R : Ran}
theorem step0_some (h : l[i]? = some (k, a, b)) (hk : k = 0) (hw : wordV kn D a = some y) (hR : runP kn (l.drop i) false x D = R) : runP kn (l.drop (i + 1)) false y D = R := by
  rw [drop_step h] at hR; unfold runP at hR; rw [if_pos hk, hw] at hR; exact hR
theorem step0_none (h : l[i]? = some (k, a, b)) (hk : k = 0) (hw : wordV kn D a = none) (hR : runP kn (l.drop i) false x D = R) : R = .need a := by
  rw [drop_step h] at hR; unfold runP at hR; rw [if_pos hk, hw] at hR; exact hR.symm
theorem step1 (h : l[i]? = some (k, a, b)) (hk : k = 1) (hR : runP kn (l.drop i) false x D = R) : runP kn (l.drop (i + 1)) false x (writeV D a b) = R := by
  rw [drop_step h] at hR; unfold runP at hR; rw [if_neg (by omega), if_pos hk] at hR; exact hR
theorem step2 (h : l[i]? = some (k, a, b)) (hk : k = 2) (hR : runP kn (l.drop i) false x D = R) : runP kn (l.drop (i + 1)) false x (writeV D a x) = R := by
  rw [drop_step h] at hR; unfold runP at hR; rw [if_neg (by omega), if_neg (by omega), if_pos hk] at hR; exact hR
theorem step3_some (h : l[i]? = some (k, a, b)) (hk : k = 3) (hw : wordV kn D x = some y) (hR : runP kn (l.drop i) false x D = R) : runP kn (l.drop (i + 1)) false y D = R := by
  rw [drop_step h] at hR; unfold runP at hR; rw [if_neg (by omega), if_neg (by omega), if_neg (by omega), if_pos hk, hw] at hR; exact hR
theorem step3_none (h : l[i]? = some (k, a, b)) (hk : k = 3) (hw : wordV kn D x = none) (hR : runP kn (l.drop i) false x D = R) : R = .need x := by
  rw [drop_step h] at hR; unfold runP at hR; rw [if_neg (by omega), if_neg (by omega), if_neg (by omega), if_pos hk, hw] at hR; exact hR.symm
theorem step4_yes (h : l[i]? = some (k, a, b)) (hk : k = 4) (hx : x = b) (hR : runP kn (l.drop i) false x D = R) : runP kn (l.drop (i + 2)) false x D = R := by
  rw [drop_step h] at hR; unfold runP at hR; rw [if_neg (by omega), if_neg (by omega), if_neg (by omega), if_neg (by omega), if_pos hk, decide_eq_true hx, runP_skip, List.drop_drop] at hR; exact hR
theorem step4_no (h : l[i]? = some (k, a, b)) (hk : k = 4) (hx : ¬ x = b) (hR : runP kn (l.drop i) false x D = R) : runP kn (l.drop (i + 1)) false x D = R := by
  rw [drop_step h] at hR; unfold runP at hR; rw [if_neg (by omega), if_neg (by omega), if_neg (by omega), if_neg (by omega), if_pos hk, decide_eq_false hx] at hR; exact hR
theorem step5 (h : l[i]? = some (k, a, b)) (h0 : ¬ k = 0) (h1 : ¬ k = 1) (h2 : ¬ k = 2) (h3 : ¬ k = 3) (h4 : ¬ k = 4) (hR : runP kn (l.drop i) false x D = R) : runP kn (l.drop (i + 1)) false x D = R := by
  rw [drop_step h] at hR; unfold runP at hR; rw [if_neg h0, if_neg h1, if_neg h2, if_neg h3, if_neg h4] at hR; exact hR
end
end Go.Proofs.Ytflihdcliknggaa

namespace Go.Proofs.Ytflihdcliknggaa
open Go.RowKit Go.Sort Go.Maps
set_option linter.unusedVariables false
set_option linter.unusedSimpArgs false

theorem wf_of {x : Int} (h : W64 x) : (Lit.int .i64 x).wf = true := WalkArith.wf_i64 h
theorem of_wf {x : Int} (h : (Lit.int .i64 x).wf = true) : W64 x := by
  simp only [Lit.wf, Bool.and_eq_true, decide_eq_true_eq] at h
  exact ⟨h.1, h.2⟩
theorem law_int : Keyed Try.prog 3 := int_keyed Try.underlying3
theorem zero_int (w : World) : (zeroValue 3).run Try.prog w = .ok (.int .i64 0) w := by kernel_rfl
theorem key_int {x : Int} (h : W64 x) : keyOf Try.prog 3 (.int .i64 x) = some (.int .i64 x) := keyOf_int_mk Try.underlying3 (wf_of h)

/-- Block M is a map of at most n words, which are as kn says. -/
def KnownAt (w : World) (M n : Nat) (kn : Int → Option Int) : Prop :=
  ∃ D : DataW Unit, w.ownsMap Try.prog 3 (plainElem Try.prog 3) M n D ∧ ∀ x, W64 x → Maps.has D (.int .i64 x) = (kn x).isSome ∧ D.atKey (.int .i64 x) (.lit (.int .i64 0)) = .lit (.int .i64 ((kn x).getD 0))
namespace KnownAt
variable {w w' : World} {M n : Nat} {kn : Int → Option Int}
theorem lt (h : KnownAt w M n kn) : M < w.heap.size := by obtain ⟨D, hD, _⟩ := h; exact hD.lt
theorem keep (h : KnownAt w M n kn) {S : Nat → Prop} (t : Turned S w w') (hs : ¬ S M) : KnownAt w' M n kn := by
  obtain ⟨D, ⟨es, clock, hb, F⟩, hk⟩ := h
  exact ⟨D, ⟨es, clock, (Turned.block t M (lt_of_heap hb) hs).trans hb, F⟩, hk⟩
theorem more (h : KnownAt w M n kn) (t : More w w') : KnownAt w' M n kn := h.keep t (fun q => q)
theorem look (h : KnownAt w M n kn) {a : Int} (ha : W64 a) : (Instr.lookup 44 (.map (some M)) (.int .i64 a) true).run Try.prog w = .ok (.tuple #[.int .i64 ((kn a).getD 0), .bool (kn a).isSome]) w := by
  obtain ⟨D, hD, hk⟩ := h
  obtain ⟨v, ps, hr, hv⟩ := hD.look_ok law_int Try.underlying44 (zero_int w) (plainElem_int Try.underlying3 (by decide)) (key_int ha)
  obtain ⟨c, rfl, hc, _⟩ := plainElem_int_inv Try.underlying3 hv
  obtain ⟨h1, h2⟩ := hk a ha
  rw [h1] at hr
  rw [h2] at hc
  simp only [Prod.mk.injEq, DataW.lit.injEq, Lit.int.injEq, true_and] at hc
  rw [hr, ← hc.1]
theorem made (w : World) : KnownAt (w.alloc (.map #[] 0)) w.heap.size 0 (fun _ => none) :=
  ⟨.map [], World.ownsMap_made _ _ _ _, fun x _ => ⟨rfl, rfl⟩⟩
theorem store (h : KnownAt w M n kn) {a x : Int} (ha : W64 a) (hx : W64 x) (hn : n < maxLen) :
    ∃ w', (Instr.mapUpdate 44 (.map (some M)) (.int .i64 a) (.int .i64 x)).run Try.prog w = .ok () w' ∧ KnownAt w' M (n + 1) (fun y => if y = a then some x else kn y) ∧ Turned (fun k => k = M) w w' := by
  obtain ⟨D, hD, hk⟩ := h
  obtain ⟨w', hr, h1, h2⟩ := hD.update law_int Try.underlying44 hn (key_int ha) (plainElem_int Try.underlying3 (wf_of hx))
  refine ⟨w', hr, ⟨_, h1, fun y hy => ?_⟩, ⟨h2.os, h2.tape, h2.output, h2.size, fun k hk hne => h2.block k hk (fun e => hne (Option.some.inj e))⟩⟩
  by_cases e : y = a
  · subst e
    dsimp only
    rw [if_pos rfl]
    refine ⟨has_put_same hD.isMap ?_ _, atKey_put_same hD.isMap ?_ _ _⟩ <;> exact law_int.key (key_int ha)
  · have hne : (Lit.int .i64 y) ≠ Lit.int .i64 a := fun q => e (by simpa using q)
    dsimp only
    rw [if_neg e, has_put_other hne, atKey_put_other hne]
    exact hk y hy
end KnownAt

/-- The cells of a view. -/
def viewCells (self : Option Addr) (M q : Nat) (need : Int) : Array Value := #[.pointer self, .map (some M), .pointer (some ⟨q, 0, none⟩), .int .i64 need]
/-- At p, in the blocks F, stands a view that knows kn, of what was written D. -/
structure ViewAt (w : World) (F : Nat → Prop) (p : Nat) (kn : Int → Option Int) (D : List KV) : Prop where
  ex : ∃ M q n F0, w.heap[p]? = some (.cells (viewCells (some ⟨p, 0, none⟩) M q (-1)) 61 (0, 0)) ∧ KnownAt w M n kn ∧ MapAt w F0 q D ∧ F p ∧ (∀ k, F0 k → F k ∧ k ≠ p) ∧ ¬ F M
  lt : ∀ k, F k → k < w.heap.size
/-- At p is a view whose run is over; need: where it ended. -/
def DeadAt (w : World) (p : Nat) (need : Int) : Prop := ∃ M q, w.heap[p]? = some (.cells (viewCells none M q need) 61 (0, 0))

theorem ViewAt.keep {w w' : World} {F S : Nat → Prop} {p : Nat} {kn : Int → Option Int} {D : List KV} (h : ViewAt w F p kn D) (ht : Turned S w w') (hs : ∀ k, F k → ¬ S k) (hM : ∀ k, S k → F k ∨ False) : ViewAt w' F p kn D := by
  obtain ⟨M, q, n, F0, hp, hk, hm, fp, f0, fM⟩ := h.ex
  refine ⟨⟨M, q, n, F0, by rw [Turned.block ht p (lt_of_heap hp) (hs p fp)]; exact hp, hk.keep ht (fun q => ?_), hm.keep ht (fun k q => hs k (f0 k q).1), fp, f0, fM⟩, fun k hk => Nat.lt_of_lt_of_le (h.lt k hk) ht.size⟩
  rcases hM M q with r | r
  · exact fM r
  · exact r
theorem ViewAt.more {w w' : World} {F : Nat → Prop} {p : Nat} {kn : Int → Option Int} {D : List KV} (h : ViewAt w F p kn D) (ht : More w w') : ViewAt w' F p kn D := h.keep ht (fun _ _ q => q) (fun _ q => .inr q)
theorem DeadAt.keep {w w' : World} {S : Nat → Prop} {p : Nat} {a : Int} (h : DeadAt w p a) (ht : Turned S w w') (hs : ¬ S p) : DeadAt w' p a := by
  obtain ⟨M, q, hp⟩ := h
  exact ⟨M, q, by rw [Turned.block ht p (lt_of_heap hp) hs]; exact hp⟩

/-- What a run's end is made of. -/
def endOf (p : Nat) : List PanicEntry := [{ v := .iface 63 (.agg #[.pointer (some ⟨p, 0, none⟩)]), recovered := false }]

theorem view_cells {w : World} {p M q : Nat} {self : Option Addr} {need : Int} (h : w.heap[p]? = some (.cells (viewCells self M q need) 61 (0, 0))) :
    w.cell? ⟨p, 0, none⟩ = some (.pointer self) ∧ w.cell? ⟨p, 1, none⟩ = some (.map (some M)) ∧ w.cell? ⟨p, 2, none⟩ = some (.pointer (some ⟨q, 0, none⟩)) ∧ w.cell? ⟨p, 3, none⟩ = some (.int .i64 need) ∧ (∀ j, w.frozen? ⟨p, j, none⟩ = false) ∧ p < w.heap.size :=
  ⟨by simp [World.cell?, h, viewCells], by simp [World.cell?, h, viewCells], by simp [World.cell?, h, viewCells], by simp [World.cell?, h, viewCells], fun j => by simp [World.frozen?, h], lt_of_heap h⟩

theorem info_view : ∃ j, Try.prog.info? 61 = some j := by
  have h : (Try.prog.info? 61).isSome = true := by kernel_rfl
  exact Option.isSome_iff_exists.1 h
theorem eql_view (p : Addr) (w : World) : Sem.run Try.prog (binOp BinOp.eql 28 (.pointer (some p)) (.pointer (some p))) w = .ok (.bool true) w := by
  obtain ⟨j, hj⟩ := info_view
  exact run_eql_ptr_same w p Try.underlying28 hj
theorem run_equalIn_none {P : Program} (w : World) (d : Nat) (t : TypeId) {e : TypeId} (h : P.underlying t = some (.pointer e)) (p : Addr) : (Op.equalIn (d + 1) t (.pointer none) (.pointer (some p))).run P w = .ok false w := by
  simp [Op.equalIn, run_underlying h]
theorem eql_none (p : Addr) (w : World) : Sem.run Try.prog (binOp BinOp.eql 28 (.pointer none) (.pointer (some p))) w = .ok (.bool false) w := by
  have h : Sem.run Try.prog (Op.equal 28 (.pointer none) (.pointer (some p))) w = .ok false w := run_equalIn_none w 9999 _ Try.underlying28 p
  simp only [binOp]
  simp [h]
theorem neq_view (p : Addr) (w : World) : Sem.run Try.prog (binOp BinOp.neq 28 (.pointer (some p)) (.pointer (some p))) w = .ok (.bool false) w := by
  obtain ⟨j, hj⟩ := info_view
  have h : Sem.run Try.prog (Op.equal 28 (.pointer (some p)) (.pointer (some p))) w = .ok true w := by
    have := run_eql_ptr_same (P := Try.prog) w p Try.underlying28 hj
    simp only [binOp] at this
    cases e : Sem.run Try.prog (Op.equal 28 (.pointer (some p)) (.pointer (some p))) w <;> rw [Sem.run_bind, e] at this <;> simp [Result.andThen] at this
    obtain ⟨rfl, rfl⟩ := this
    rfl
  simp only [binOp]
  simp [h]

set_option maxHeartbeats 1000000 in
theorem stands_nil (w : World) : Calls Try.prog 31 #[.pointer none] w fun e w' => e = .returned (.bool false) ∧ w' = w := by
  go_enter Try.func31, Try.ntmps31
  go_wp2_with fail
  go_ret
  exact ⟨rfl, rfl⟩
set_option maxHeartbeats 1000000 in
theorem stands_yes (p : Nat) (w : World) (h : w.cell? ⟨p, 0, none⟩ = some (.pointer (some ⟨p, 0, none⟩))) : Calls Try.prog 31 #[.pointer (some ⟨p, 0, none⟩)] w fun e w' => e = .returned (.bool true) ∧ w' = w := by
  have hq := fun w => eql_view ⟨p, 0, none⟩ w
  go_enter Try.func31, Try.ntmps31
  go_wp2_with fail
  go_ret
  exact ⟨rfl, rfl⟩
set_option maxHeartbeats 1000000 in
theorem stands_no (p : Nat) (w : World) (h : w.cell? ⟨p, 0, none⟩ = some (.pointer none)) : Calls Try.prog 31 #[.pointer (some ⟨p, 0, none⟩)] w fun e w' => e = .returned (.bool false) ∧ w' = w := by
  have hq := fun w => eql_none ⟨p, 0, none⟩ w
  go_enter Try.func31, Try.ntmps31
  go_wp2_with fail
  go_ret
  exact ⟨rfl, rfl⟩
end Go.Proofs.Ytflihdcliknggaa

namespace Go.Proofs.Ytflihdcliknggaa
open Go.RowKit Go.Sort Go.Maps
set_option linter.unusedVariables false
set_option linter.unusedSimpArgs false

set_option maxHeartbeats 1000000 in
theorem read_low (F : Nat → Prop) (p : Nat) (kn : Int → Option Int) (D : List KV) (a : Int) (w : World) (h : ViewAt w F p kn D) (ha : a < 0) :
    Calls Try.prog 25 #[.pointer (some ⟨p, 0, none⟩), .int .i64 a] w fun e w' => e = .returned (.int .i64 0) ∧ ∃ n, w' = w.drewN n := by
  obtain ⟨M, q, n, F0, hp, hk, hm, _⟩ := h.ex
  obtain ⟨c0, _⟩ := view_cells hp
  have S := Lib.hid (stands_yes p w c0)
  have d : decide (a < 0) = true := by simp; omega
  have E : ∃ n, w = w.drewN n := ⟨0, rfl⟩
  clear h hp hk hm c0 ha
  go_enter Try.func25, Try.ntmps25
  go_wp2_with (go_at_call 31; refine S.out.mono ?_; rintro e w' ⟨rfl, rfl⟩)
  go_ret
  exact ⟨rfl, 0, rfl⟩
set_option maxHeartbeats 1000000 in
theorem read_wrote (F : Nat → Prop) (p : Nat) (kn : Int → Option Int) (D : List KV) (a y : Int) (w : World) (h : ViewAt w F p kn D) (ha : 0 ≤ a) (hy : look D a = some y) :
    Calls Try.prog 25 #[.pointer (some ⟨p, 0, none⟩), .int .i64 a] w fun e w' => e = .returned (.int .i64 y) ∧ ∃ n, w' = w.drewN n := by
  obtain ⟨M, q, n, F0, hp, hk, hm, _⟩ := h.ex
  obtain ⟨c0, c1, c2, c3, _, hl⟩ := view_cells hp
  have S := Lib.hid (stands_yes p w c0)
  have G := get_ok F0 q D a w hm
  rw [hy] at G
  have G := Lib.hid G
  have d : decide (a < 0) = false := by simp; omega
  clear h hp hk hm ha c0 c1 c3
  go_enter Try.func25, Try.ntmps25
  go_wp2_with (first | (go_at_call 31; refine S.out.mono ?_; rintro e w' ⟨rfl, rfl⟩) | (go_at_call 33; refine G.out.mono ?_; rintro e w' ⟨rfl, n, rfl⟩))
  go_ret
  exact ⟨rfl, n, rfl⟩
set_option maxHeartbeats 1000000 in
theorem read_known (F : Nat → Prop) (p : Nat) (kn : Int → Option Int) (D : List KV) (a y : Int) (w : World) (h : ViewAt w F p kn D) (ha : 0 ≤ a) (hw : W64 a) (hy : look D a = none) (hk' : kn a = some y) :
    Calls Try.prog 25 #[.pointer (some ⟨p, 0, none⟩), .int .i64 a] w fun e w' => e = .returned (.int .i64 y) ∧ ∃ n, w' = w.drewN n := by
  obtain ⟨M, q, n, F0, hp, hk, hm, _⟩ := h.ex
  have S := Lib.hid (stands_yes p w (view_cells hp).1)
  have G := get_ok F0 q D a w hm
  rw [hy] at G
  have G := Lib.hid G
  have L : ∀ m, Sem.run Try.prog (Instr.lookup 44 (.map (some M)) (.int .i64 a) true) (w.drewN m) = .ok (.tuple #[.int .i64 y, .bool true]) (w.drewN m) := fun m => by
    have := (hk.more (more_drewN w m)).look hw
    rw [hk'] at this
    exact this
  have d : decide (a < 0) = false := by simp; omega
  obtain ⟨c0, c1, c2, c3, _, hl⟩ := view_cells hp
  clear h hp hk hm ha c0 c3
  go_enter Try.func25, Try.ntmps25
  go_wp2_with (first | (go_at_call 31; refine S.out.mono ?_; rintro e w' ⟨rfl, rfl⟩) | (go_at_call 33; refine G.out.mono ?_; rintro e w' ⟨rfl, n, rfl⟩))
  go_ret
  exact ⟨rfl, n, rfl⟩
/-- Read of what is there. -/
theorem read_some (F : Nat → Prop) (p : Nat) (kn : Int → Option Int) (D : List KV) (a y : Int) (w : World) (h : ViewAt w F p kn D) (hw : W64 a) (hy : wordV kn D a = some y) :
    Calls Try.prog 25 #[.pointer (some ⟨p, 0, none⟩), .int .i64 a] w fun e w' => e = .returned (.int .i64 y) ∧ ∃ n, w' = w.drewN n := by
  unfold wordV at hy
  split at hy
  · cases hy; exact read_low F p kn D a w h (by omega)
  · cases e : look D a with
    | none => rw [e] at hy; exact read_known F p kn D a y w h (by omega) hw e (by simpa using hy)
    | some v =>
      rw [e] at hy
      have : v = y := by simpa using hy
      subst this
      exact read_wrote F p kn D a v w h (by omega) e

/-- The run has ended: at a. -/
def Ended (w : World) (F : Nat → Prop) (p : Nat) (a : Int) (e : Ending) (w' : World) : Prop := e = .panicked (endOf p) ∧ DeadAt w' p a ∧ Turned F w w'
theorem ended_of {w : World} {F : Nat → Prop} {p M q : Nat} {a : Int} {n : Nat} (hp : w.heap[p]? = some (.cells (viewCells (some ⟨p, 0, none⟩) M q (-1)) 61 (0, 0))) (fp : F p) :
    DeadAt (((w.drewN n).setCell ⟨p, 0, none⟩ (.pointer none)).setCell ⟨p, 3, none⟩ (.int .i64 a)) p a ∧ Turned F w (((w.drewN n).setCell ⟨p, 0, none⟩ (.pointer none)).setCell ⟨p, 3, none⟩ (.int .i64 a)) := by
  have h1 : (w.drewN n).heap[p]? = _ := hp
  have h2 := heap_setCell (o := 0) (.pointer none) h1
  have h4 := heap_setCell (o := 3) (.int .i64 a) h2
  exact ⟨⟨M, q, by rw [h4]; simp [viewCells]⟩, turned_setCell (turned_setCell ((Turned.refl F w).drewN n) (fun _ => fp) _) (fun _ => fp) _⟩
set_option maxHeartbeats 1000000 in
/-- Read of what is needed. -/
theorem read_need (F : Nat → Prop) (p : Nat) (kn : Int → Option Int) (D : List KV) (a : Int) (w : World) (h : ViewAt w F p kn D) (hw : W64 a) (hy : wordV kn D a = none) :
    Calls Try.prog 25 #[.pointer (some ⟨p, 0, none⟩), .int .i64 a] w (Ended w F p a) := by
  obtain ⟨ha, hy, hk'⟩ := word_none hy
  obtain ⟨M, q, n, F0, hp, hk, hm, fp, _⟩ := h.ex
  have S := Lib.hid (stands_yes p w (view_cells hp).1)
  have G := get_ok F0 q D a w hm
  rw [hy] at G
  have G := Lib.hid G
  have L : ∀ m, Sem.run Try.prog (Instr.lookup 44 (.map (some M)) (.int .i64 a) true) (w.drewN m) = .ok (.tuple #[.int .i64 0, .bool false]) (w.drewN m) := fun m => by
    have := (hk.more (more_drewN w m)).look hw
    rw [hk'] at this
    exact this
  have d : decide (a < 0) = false := by simp; omega
  obtain ⟨c0, c1, c2, c3, hf, hl⟩ := view_cells hp
  have FIN : Hid (∀ n, DeadAt (((w.drewN n).setCell ⟨p, 0, none⟩ (.pointer none)).setCell ⟨p, 3, none⟩ (.int .i64 a)) p a ∧ Turned F w (((w.drewN n).setCell ⟨p, 0, none⟩ (.pointer none)).setCell ⟨p, 3, none⟩ (.int .i64 a))) := Lib.hid fun n => ended_of hp fp
  clear h hp hk hm ha
  go_enter Try.func25, Try.ntmps25
  go_wp2_with (first | (go_at_call 31; refine S.out.mono ?_; rintro e w' ⟨rfl, rfl⟩) | (go_at_call 33; refine G.out.mono ?_; rintro e w' ⟨rfl, n, rfl⟩))
  exact ⟨rfl, rfl, FIN.out n⟩

/-- The view at p stands, of what was written D; only its own blocks have turned. -/
def DidView (w : World) (F : Nat → Prop) (p : Nat) (kn : Int → Option Int) (D : List KV) (v : Value) (e : Ending) (w' : World) : Prop :=
  e = .returned v ∧ ∃ F', ViewAt w' F' p kn D ∧ Turned F w w' ∧ ∀ k, F' k → F k ∨ w.heap.size ≤ k
theorem DidView.same {w w' : World} {F : Nat → Prop} {p : Nat} {kn : Int → Option Int} {D : List KV} {v : Value} (h : ViewAt w F p kn D) (t : More w w') : DidView w F p kn D v (.returned v) w' :=
  ⟨rfl, F, h.more t, Turned.mono t (fun _ _ q => q.elim), fun k hk => .inl hk⟩
theorem did_put {w w' : World} {F F0 F1 : Nat → Prop} {p M q n : Nat} {kn : Int → Option Int} {D' : List KV} {v : Value} (hp : w.heap[p]? = some (.cells (viewCells (some ⟨p, 0, none⟩) M q (-1)) 61 (0, 0)))
    (hk : KnownAt w M n kn) (fp : F p) (f0 : ∀ k, F0 k → F k ∧ k ≠ p) (fM : ¬ F M) (hl : ∀ k, F k → k < w.heap.size) (hm : MapAt w' F1 q D') (ht : Turned F0 w w') (h1 : ∀ k, F1 k → F0 k ∨ w.heap.size ≤ k) : DidView w F p kn D' v (.returned v) w' := by
  have hlM := hk.lt
  have hlp := lt_of_heap hp
  refine ⟨rfl, fun k => F k ∨ F1 k, ⟨⟨M, q, n, F1, ?_, hk.keep ht (fun r => fM (f0 M r).1), hm, .inl fp, fun k r => ⟨.inr r, fun e => ?_⟩, fun r => ?_⟩, fun k r => ?_⟩, ht.mono (fun k _ r => (f0 k r).1), fun k r => ?_⟩
  · rw [Turned.block ht p hlp (fun r => (f0 p r).2 rfl)]; exact hp
  · subst e
    rcases h1 k r with q | q
    · exact (f0 k q).2 rfl
    · omega
  · rcases r with r | r
    · exact fM r
    · rcases h1 M r with q | q
      · exact fM (f0 M q).1
      · omega
  · rcases r with r | r
    · exact Nat.lt_of_lt_of_le (hl k r) ht.size
    · exact hm.lt k r
  · rcases r with r | r
    · exact .inl r
    · exact (h1 k r).imp (fun q => (f0 k q).1) id

set_option maxHeartbeats 1000000 in
/-- Write. -/
theorem write_ok (F : Nat → Prop) (p : Nat) (kn : Int → Option Int) (D : List KV) (a x : Int) (w : World) (h : ViewAt w F p kn D) (hs : D.length < 100000) :
    Calls Try.prog 23 #[.pointer (some ⟨p, 0, none⟩), .int .i64 a, .int .i64 x] w (DidView w F p kn (writeV D a x) (.tuple #[])) := by
  obtain ⟨M, q, n, F0, hp, hk, hm, fp, f0, fM⟩ := h.ex
  have S := Lib.hid (stands_yes p w (view_cells hp).1)
  have P := Lib.hid (put_ok F0 q D a x w hm hs)
  by_cases ha : a < 0
  · have e : writeV D a x = D := by unfold writeV; rw [if_pos ha]
    have FIN := Lib.hid (DidView.same (v := .tuple #[]) h (More.refl w))
    rw [e]
    have d : decide (0 ≤ a) = false := by simp; omega
    clear h hp hk hm e ha P
    go_enter Try.func23, Try.ntmps23
    go_wp2_with (go_at_call 31; refine S.out.mono ?_; rintro e w' ⟨rfl, rfl⟩)
    go_end0
    exact FIN.out
  · have e : writeV D a x = putD D a x := by unfold writeV; rw [if_neg ha]
    rw [e]
    have d : decide (0 ≤ a) = true := by simp; omega
    have hl := h.lt
    have FIN : Hid (∀ w' F1, MapAt w' F1 q (putD D a x) → Turned F0 w w' → (∀ k, F1 k → F0 k ∨ w.heap.size ≤ k) → DidView w F p kn (putD D a x) (.tuple #[]) (.returned (.tuple #[])) w') :=
      Lib.hid fun w' F1 m t f => did_put hp hk fp f0 fM hl m t f
    obtain ⟨c0, c1, c2, c3, hf, hlp⟩ := view_cells hp
    clear h hp hk hm e ha fp f0 fM hl
    go_enter Try.func23, Try.ntmps23
    go_wp2_with (first | (go_at_call 31; refine S.out.mono ?_; rintro e w' ⟨rfl, rfl⟩) | (go_at_call 32; refine P.out.mono ?_; rintro e w1 ⟨rfl, F1, m, t, f⟩; have M1 := Lib.hid m; have T1 := Lib.hid t; have N1 := Lib.hid f; clear m t f))
    go_end0
    exact FIN.out _ _ M1.out T1.out N1.out

/-! Views that do not stand. -/
set_option maxHeartbeats 1000000 in
theorem read_nil (a : Int) (w : World) : Calls Try.prog 25 #[.pointer none, .int .i64 a] w fun e w' => e = .returned (.int .i64 0) ∧ w' = w := by
  go_enter Try.func25, Try.ntmps25
  go_wp2_with (go_at_call 31; refine (stands_nil _).mono ?_; rintro e w' ⟨rfl, rfl⟩)
  go_ret
  exact ⟨rfl, rfl⟩
set_option maxHeartbeats 1000000 in
theorem write_nil (a x : Int) (w : World) : Calls Try.prog 23 #[.pointer none, .int .i64 a, .int .i64 x] w fun e w' => e = .returned (.tuple #[]) ∧ w' = w := by
  go_enter Try.func23, Try.ntmps23
  go_wp2_with (go_at_call 31; refine (stands_nil _).mono ?_; rintro e w' ⟨rfl, rfl⟩)
  go_end0
  exact ⟨rfl, rfl⟩
set_option maxHeartbeats 1000000 in
theorem read_dead (p : Nat) (n a : Int) (w : World) (h : DeadAt w p n) : Calls Try.prog 25 #[.pointer (some ⟨p, 0, none⟩), .int .i64 a] w fun e w' => e = .returned (.int .i64 0) ∧ w' = w := by
  obtain ⟨M, q, hp⟩ := h
  have S := Lib.hid (stands_no p w (view_cells hp).1)
  clear hp
  go_enter Try.func25, Try.ntmps25
  go_wp2_with (go_at_call 31; refine S.out.mono ?_; rintro e w' ⟨rfl, rfl⟩)
  go_ret
  exact ⟨rfl, rfl⟩
set_option maxHeartbeats 1000000 in
theorem write_dead (p : Nat) (n a x : Int) (w : World) (h : DeadAt w p n) : Calls Try.prog 23 #[.pointer (some ⟨p, 0, none⟩), .int .i64 a, .int .i64 x] w fun e w' => e = .returned (.tuple #[]) ∧ w' = w := by
  obtain ⟨M, q, hp⟩ := h
  have S := Lib.hid (stands_no p w (view_cells hp).1)
  clear hp
  go_enter Try.func23, Try.ntmps23
  go_wp2_with (go_at_call 31; refine S.out.mono ?_; rintro e w' ⟨rfl, rfl⟩)
  go_end0
  exact ⟨rfl, rfl⟩
end Go.Proofs.Ytflihdcliknggaa

namespace Go.Proofs.Ytflihdcliknggaa
open Go.RowKit Go.Sort Go.Maps
set_option linter.unusedVariables false
set_option linter.unusedSimpArgs false

/-- A slice of structs of three integers: it is empty, or leads to them. -/
def IsIns (w : World) (a : Option Addr) (l : List Ins3) : Prop :=
  l = [] ∨ ∃ s o, a = some ⟨s, o, none⟩ ∧ s < w.heap.size ∧ ∀ i t, l[i]? = some t → w.cell? ⟨s, o + i * 3, none⟩ = some (.int .i64 t.1) ∧ w.cell? ⟨s, o + i * 3 + 1, none⟩ = some (.int .i64 t.2.1) ∧ w.cell? ⟨s, o + i * 3 + 2, none⟩ = some (.int .i64 t.2.2)
/-- A slice of pairs: it is empty, or leads to them. -/
def IsPairs (w : World) (a : Option Addr) (l : List KV) : Prop :=
  l = [] ∨ ∃ s o, a = some ⟨s, o, none⟩ ∧ s < w.heap.size ∧ ∀ i t, l[i]? = some t → w.cell? ⟨s, o + i * 2, none⟩ = some (.int .i64 t.1) ∧ w.cell? ⟨s, o + i * 2 + 1, none⟩ = some (.int .i64 t.2)
/-- The block that a slice leads to. -/
def leads (a : Option Addr) (k : Nat) : Prop := a.map (·.block) = some k
theorem cell_turned {S : Nat → Prop} {w w' : World} (t : Turned S w w') {s o : Nat} {v : Value} (hs : ¬ S s) (h : w.cell? ⟨s, o, none⟩ = some v) : w'.cell? ⟨s, o, none⟩ = some v := by
  rw [World.cell?_of_block (w := w) (Turned.block t s (lt_of_cell h) hs)]; exact h
theorem IsIns.keep {w w' : World} {a : Option Addr} {l : List Ins3} (h : IsIns w a l) {S : Nat → Prop} (t : Turned S w w') (hs : ∀ k, leads a k → ¬ S k) : IsIns w' a l := by
  rcases h with h | ⟨s, o, rfl, hl, hc⟩
  · exact .inl h
  · exact .inr ⟨s, o, rfl, Nat.lt_of_lt_of_le hl t.size, fun i u hi => by
      obtain ⟨c0, c1, c2⟩ := hc i u hi
      exact ⟨cell_turned t (hs s rfl) c0, cell_turned t (hs s rfl) c1, cell_turned t (hs s rfl) c2⟩⟩
theorem IsIns.more {w w' : World} {a : Option Addr} {l : List Ins3} (h : IsIns w a l) (t : More w w') : IsIns w' a l := h.keep t (fun _ _ q => q)
theorem IsPairs.keep {w w' : World} {a : Option Addr} {l : List KV} (h : IsPairs w a l) {S : Nat → Prop} (t : Turned S w w') (hs : ∀ k, leads a k → ¬ S k) : IsPairs w' a l := by
  rcases h with h | ⟨s, o, rfl, hl, hc⟩
  · exact .inl h
  · exact .inr ⟨s, o, rfl, Nat.lt_of_lt_of_le hl t.size, fun i u hi => by
      obtain ⟨c0, c1⟩ := hc i u hi
      exact ⟨cell_turned t (hs s rfl) c0, cell_turned t (hs s rfl) c1⟩⟩
theorem IsPairs.more {w w' : World} {a : Option Addr} {l : List KV} (h : IsPairs w a l) (t : More w w') : IsPairs w' a l := h.keep t (fun _ _ q => q)

theorem turned_own {F F' : Nat → Prop} {W w w' : World} (h : Turned F W w) (t : Turned F' w w') (n : ∀ k, F' k → F k ∨ W.heap.size ≤ k) : Turned F W w' :=
  ⟨t.os.trans h.os, t.tape.trans h.tape, t.output.trans h.output, Nat.le_trans h.size t.size, fun k hk hs => by
    rw [Turned.block t k (Nat.lt_of_lt_of_le hk h.size) (fun q => by rcases n k q with r | r; exact hs r; omega)]
    exact Turned.block h k hk hs⟩

/-- What a run has come to. -/
def Went (w : World) (F : Nat → Prop) (p : Nat) (kn : Int → Option Int) (R : Ran) (e : Ending) (w' : World) : Prop :=
  match R with
  | .need a => Ended w F p a e w'
  | .done D => DidView w F p kn D (.tuple #[]) e w'

/-- A run on its way: at step i, with the number x. -/
structure On (W wr : World) (F : Nat → Prop) (p : Nat) (kn : Int → Option Int) (l : List Ins3) (R : Ran) (i : Nat) (x : Int) : Prop where
  ex : ∃ F' D, ViewAt wr F' p kn D ∧ (∀ k, F' k → F k ∨ W.heap.size ≤ k) ∧ runP kn (l.drop i) false x D = R ∧ OkD D ∧ D.length ≤ i
  turn : Turned F W wr
  x64 : W64 x
theorem On.more {W wr w' : World} {F : Nat → Prop} {p : Nat} {kn : Int → Option Int} {l : List Ins3} {R : Ran} {i : Nat} {x : Int} (h : On W wr F p kn l R i x) (t : More wr w') : On W w' F p kn l R i x := by
  obtain ⟨F', D, hv, hn, hr, hd⟩ := h.ex
  exact ⟨⟨F', D, hv.more t, hn, hr, hd⟩, turned_own (F' := fun _ => False) h.turn t (fun _ q => q.elim), h.x64⟩
theorem on_did {W wr w' : World} {F F' : Nat → Prop} {p : Nat} {kn : Int → Option Int} {l : List Ins3} {R : Ran} {i : Nat} {x : Int} {D : List KV} {e : Ending} (t : Turned F W wr) (n : ∀ k, F' k → F k ∨ W.heap.size ≤ k) (hx : W64 x) (h : DidView wr F' p kn D (.tuple #[]) e w')
    (hR : runP kn (l.drop i) false x D = R) (hD : OkD D) (hl : D.length ≤ i) : e = .returned (.tuple #[]) ∧ On W w' F p kn l R i x := by
  obtain ⟨he, F1, hv, ht, hn⟩ := h
  refine ⟨he, ⟨F1, D, hv, fun k hk => ?_, hR, hD, hl⟩, turned_own t ht n, hx⟩
  rcases hn k hk with q | q
  · exact n k q
  · exact .inr (Nat.le_trans t.size q)
theorem on_end {W wr : World} {F : Nat → Prop} {p : Nat} {kn : Int → Option Int} {l : List Ins3} {R : Ran} {i : Nat} {x : Int} (h : On W wr F p kn l R i x) (hi : l.length ≤ i) : Went W F p kn R (.returned (.tuple #[])) wr := by
  obtain ⟨F', D, hv, hn, hr, hd⟩ := h.ex
  rw [runP_past _ _ _ _ _ hi] at hr
  subst hr
  exact ⟨rfl, F', hv, h.turn, hn⟩
theorem went_need {W wr w' : World} {F F' : Nat → Prop} {p : Nat} {kn : Int → Option Int} {R : Ran} {a : Int} {e : Ending} (t : Turned F W wr) (n : ∀ k, F' k → F k ∨ W.heap.size ≤ k) (hR : R = .need a) (h : Ended wr F' p a e w') : e = .panicked (endOf p) ∧ Went W F p kn R e w' := by
  subst hR
  exact ⟨h.1, h.1, h.2.1, turned_own t h.2.2 n⟩

end Go.Proofs.Ytflihdcliknggaa

