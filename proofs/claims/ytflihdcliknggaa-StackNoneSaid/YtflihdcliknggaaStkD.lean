/-
  Stacks as plain programs: keeping a thing, and telling the last one; what they do over words.
-/
import Derived.Test.YtflihdcliknggaaPrgD
namespace Go.Proofs.Ytflihdcliknggaa
set_option linter.unusedVariables false
set_option linter.unusedSimpArgs false

/-- A stack at b with the limit l, among n words. -/
structure StIn (b l : Int) (n : Nat) : Prop where
  b1 : 1 ≤ b
  l0 : 0 ≤ l
  hi : b + l < n
  top : n ≤ 10000
def stKeptV (l y : Int) : Int := if 0 ≤ y ∧ y ≤ l then y else 0
def stKeptP (b l : Int) : Prg Int := bindP (readP b) fun y => pureP (stKeptV l y)
def stWordV (b l k : Int) : Int := if k < 0 ∨ l ≤ k then 0 else b + 1 + k
/-- How many are kept, and the word behind the last thing, or that of it. -/
def stEndP (up : Bool) (b l : Int) : Prg (Int × Int) := bindP (stKeptP b l) fun n => pureP (n, stWordV b l (if up then n else n - 1))
def stPushP (b l x : Int) : Prg Bool := bindP (stEndP true b l) fun p => if p.2 = 0 then pureP false else bindP (writeP p.2 x) fun _ => bindP (writeP b (p.1 + 1)) fun _ => pureP true
def stPopP (b l : Int) : Prg (Int × Bool) := bindP (stEndP false b l) fun p => if p.2 = 0 then pureP (0, false) else bindP (readP p.2) fun y => bindP (writeP b (p.1 - 1)) fun _ => pureP (y, true)

theorem stKept_b {l y : Int} (h : 0 ≤ l) : 0 ≤ stKeptV l y ∧ stKeptV l y ≤ l := by unfold stKeptV; split <;> omega
theorem sound_stKept (b l : Int) : Sound (stKeptP b l) := sound_bind (sound_read b) fun _ => sound_pure _
theorem good_stKept {b l : Int} {n : Nat} (H : StIn b l n) : Good n (fun x => 0 ≤ x ∧ x ≤ l) (stKeptP b l) :=
  good_bind (good_read n (by have := H.hi; have := H.l0; omega)) fun y _ => good_pure n (stKept_b H.l0)
theorem sound_stEnd (up : Bool) (b l : Int) : Sound (stEndP up b l) := sound_bind (sound_stKept b l) fun _ => sound_pure _
/-- What is told of the end. -/
def EndQ (b l : Int) (p : Int × Int) : Prop := 0 ≤ p.1 ∧ p.1 ≤ l ∧ (p.2 = 0 ∨ (b + 1 ≤ p.2 ∧ p.2 ≤ b + l))
theorem stWord_b (b l k : Int) : stWordV b l k = 0 ∨ (b + 1 ≤ stWordV b l k ∧ stWordV b l k ≤ b + l) := by unfold stWordV; split <;> omega
theorem good_stEnd {b l : Int} {n : Nat} (H : StIn b l n) (up : Bool) : Good n (EndQ b l) (stEndP up b l) :=
  good_bind (good_stKept H) fun y hy => good_pure n ⟨hy.1, hy.2, stWord_b b l _⟩
theorem sound_stPush (b l x : Int) : Sound (stPushP b l x) :=
  sound_bind (sound_stEnd true b l) fun _ => sound_ite (sound_pure _) (sound_bind (sound_write _ _) fun _ => sound_bind (sound_write _ _) fun _ => sound_pure _)
theorem good_stPush {b l x : Int} {n : Nat} (H : StIn b l n) (hx : W64 x) : Good n (fun _ => True) (stPushP b l x) := by
  have hh := H.hi; have ht := H.top; have h1 := H.b1; have h0 := H.l0
  refine good_bind (good_stEnd H true) fun p hp => ?_
  obtain ⟨q0, q1, q2⟩ := hp
  split
  · exact good_pure n trivial
  · rename_i q3
    have q4 := q2.resolve_left q3
    exact good_bind (good_write n (by unfold W64; omega) (by omega) hx) fun _ _ => good_bind (good_write n (by unfold W64; omega) (by omega) (by unfold W64; omega)) fun _ _ => good_pure n trivial
theorem sound_stPop (b l : Int) : Sound (stPopP b l) :=
  sound_bind (sound_stEnd false b l) fun _ => sound_ite (sound_pure _) (sound_bind (sound_read _) fun _ => sound_bind (sound_write _ _) fun _ => sound_pure _)
theorem good_stPop {b l : Int} {n : Nat} (H : StIn b l n) : Good n (fun p => W64 p.1) (stPopP b l) := by
  have hh := H.hi; have ht := H.top; have h1 := H.b1; have h0 := H.l0
  refine good_bind (good_stEnd H false) fun p hp => ?_
  obtain ⟨q0, q1, q2⟩ := hp
  split
  · exact good_pure n (by unfold W64; constructor <;> decide)
  · rename_i q3
    have q4 := q2.resolve_left q3
    exact good_bind (good_read n (by omega)) fun y hy => good_bind (good_write n (by unfold W64; omega) (by omega) (by unfold W64; omega)) fun _ _ => good_pure n hy

/-! Over words. -/
def stPushV (b l x : Int) (ws : List Int) : Bool × List Int :=
  let n := stKeptV l (wAt ws b)
  if n < l then (true, (ws.set (b + 1 + n).toNat x).set b.toNat (n + 1)) else (false, ws)
def stPopV (b l : Int) (ws : List Int) : (Int × Bool) × List Int :=
  let n := stKeptV l (wAt ws b)
  if 0 < n then ((wAt ws (b + n), true), ws.set b.toNat (n - 1)) else ((0, false), ws)
theorem flat_stKept {b l : Int} {n : Nat} (H : StIn b l n) : Flat n (stKeptP b l) (fun ws => (stKeptV l (wAt ws b), ws)) :=
  flat_bind (flat_read (by have := H.b1; omega) (by have := H.hi; have := H.l0; omega)) fun _ => flat_pure n _
theorem flat_stEnd {b l : Int} {n : Nat} (H : StIn b l n) (up : Bool) : Flat n (stEndP up b l) (fun ws => ((stKeptV l (wAt ws b), stWordV b l (if up then stKeptV l (wAt ws b) else stKeptV l (wAt ws b) - 1)), ws)) :=
  flat_bind (flat_stKept H) fun _ => flat_pure n _
theorem flat_stPush {b l x : Int} {n : Nat} (H : StIn b l n) (hx : W64 x) : Flat n (stPushP b l x) (stPushV b l x) := fun zs D hn hz hD => by
  have hh := H.hi; have ht := H.top; have h1 := H.b1; have h0 := H.l0
  obtain ⟨D1, e1, a1, i1⟩ := flat_stEnd H true zs D hn hz hD
  have hk := stKept_b (y := wAt (applyD zs D) b) h0
  unfold stPushP
  rw [bindP_ok e1]
  unfold stPushV
  simp only [if_true] at *
  by_cases q : stKeptV l (wAt (applyD zs D) b) < l
  · have e : stWordV b l (stKeptV l (wAt (applyD zs D) b)) = b + 1 + stKeptV l (wAt (applyD zs D) b) := by unfold stWordV; rw [if_neg (by omega)]
    rw [e] at e1 ⊢
    rw [if_pos q, if_neg (by omega)]
    generalize stKeptV l (wAt (applyD zs D) b) = m at *
    obtain ⟨D2, e2, a2, i2⟩ := flat_write (n := n) (a := b + 1 + m) (x := x) (by omega) (by omega) (by unfold W64; omega) hx zs D1 hn hz i1
    obtain ⟨D3, e3, a3, i3⟩ := flat_write (n := n) (a := b) (x := m + 1) (by omega) (by omega) (by unfold W64; omega) (by unfold W64; omega) zs D2 hn hz i2
    rw [bindP_ok e2, bindP_ok e3]
    exact ⟨D3, rfl, by rw [a3, a2, a1], i3⟩
  · have e : stWordV b l (stKeptV l (wAt (applyD zs D) b)) = 0 := by unfold stWordV; rw [if_pos (by omega)]
    rw [e] at e1 ⊢
    rw [if_neg q, if_pos rfl]
    exact ⟨D1, rfl, a1, i1⟩
theorem flat_stPop {b l : Int} {n : Nat} (H : StIn b l n) : Flat n (stPopP b l) (stPopV b l) := fun zs D hn hz hD => by
  have hh := H.hi; have ht := H.top; have h1 := H.b1; have h0 := H.l0
  obtain ⟨D1, e1, a1, i1⟩ := flat_stEnd H false zs D hn hz hD
  have hk := stKept_b (y := wAt (applyD zs D) b) h0
  unfold stPopP
  rw [bindP_ok e1]
  unfold stPopV
  simp only [Bool.false_eq_true, if_false] at *
  by_cases q : 0 < stKeptV l (wAt (applyD zs D) b)
  · have e : stWordV b l (stKeptV l (wAt (applyD zs D) b) - 1) = b + stKeptV l (wAt (applyD zs D) b) := by unfold stWordV; rw [if_neg (by omega)]; omega
    rw [e] at e1 ⊢
    rw [if_pos q, if_neg (by omega)]
    generalize stKeptV l (wAt (applyD zs D) b) = m at *
    obtain ⟨D2, e2, a2, i2⟩ := flat_read (n := n) (a := b + m) (by omega) (by omega) zs D1 hn hz i1
    obtain ⟨D3, e3, a3, i3⟩ := flat_write (n := n) (a := b) (x := m - 1) (by omega) (by omega) (by unfold W64; omega) (by unfold W64; omega) zs D2 hn hz i2
    rw [bindP_ok e2, bindP_ok e3]
    refine ⟨D3, ?_, by rw [a3, a2, a1], i3⟩
    rw [a1]
    rfl
  · have e : stWordV b l (stKeptV l (wAt (applyD zs D) b) - 1) = 0 := by unfold stWordV; rw [if_pos (by omega)]
    rw [e] at e1 ⊢
    rw [if_neg q, if_pos rfl]
    exact ⟨D1, rfl, a1, i1⟩

/-! What a stack keeps. -/
/-- The stack at b keeps the things xs. -/
structure Keeps (ws : List Int) (b l : Int) (xs : List Int) : Prop where
  cnt : wAt ws b = xs.length
  fit : (xs.length : Int) ≤ l
  at' : ∀ j : Nat, j < xs.length → wAt ws (b + 1 + j) = xs.getD j 0
theorem Keeps.kept {ws : List Int} {b l : Int} {xs : List Int} (h : Keeps ws b l xs) : stKeptV l (wAt ws b) = xs.length := by
  rw [h.cnt]; unfold stKeptV; rw [if_pos ⟨by omega, h.fit⟩]
theorem keeps_nil {n : Nat} {b l : Int} (h : 0 ≤ l) {ws : List Int} (hz : wAt ws b = 0) : Keeps ws b l [] := ⟨by simpa using hz, by simpa using h, fun j hj => by simp at hj⟩
theorem getD_snoc (xs : List Int) (x : Int) (j : Nat) : (xs ++ [x]).getD j 0 = if j = xs.length then x else xs.getD j 0 := by
  by_cases e : j = xs.length
  · subst e; simp [List.getD]
  · rw [if_neg e]
    by_cases q : j < xs.length
    · simp [List.getD, List.getElem?_append, q]
    · rw [List.getD, List.getD, List.getElem?_eq_none (show (xs ++ [x]).length ≤ j by simp; omega), List.getElem?_eq_none (show xs.length ≤ j by omega)]
theorem Keeps.push {ws : List Int} {b l x : Int} {xs : List Int} {n : Nat} (h : Keeps ws b l xs) (H : StIn b l n) (hl : ws.length = n) : (stPushV b l x ws).1 = decide ((xs.length : Int) < l) ∧ (stPushV b l x ws).2.length = n ∧ Keeps (stPushV b l x ws).2 b l (if (xs.length : Int) < l then xs ++ [x] else xs) := by
  have hh := H.hi; have h1 := H.b1; have h0 := H.l0
  have hk := h.kept
  unfold stPushV
  simp only [hk]
  by_cases q : (xs.length : Int) < l
  · rw [if_pos q, if_pos q]
    refine ⟨by simp [q], by simp [hl], ?_, by simp; omega, fun j hj => ?_⟩
    · show wAt ((ws.set _ _).set b.toNat _) b = _
      rw [wAt_set (by omega) (by omega) (by simp; omega), if_pos rfl]; simp
    · show wAt ((ws.set _ _).set b.toNat _) (b + 1 + j) = _
      rw [wAt_set (by omega) (by omega) (by simp; omega), if_neg (by omega), wAt_set (by omega) (by omega) (by omega), getD_snoc]
      by_cases e : j = xs.length
      · rw [if_pos (by omega), if_pos e]
      · rw [if_neg (by omega), if_neg e]
        simp at hj
        exact h.at' j (by omega)
  · rw [if_neg q, if_neg q]
    exact ⟨by simp [q], hl, h⟩
theorem Keeps.pop {ws : List Int} {b l x : Int} {xs : List Int} {n : Nat} (h : Keeps ws b l (xs ++ [x])) (H : StIn b l n) (hl : ws.length = n) : (stPopV b l ws).1 = (x, true) ∧ (stPopV b l ws).2.length = n ∧ Keeps (stPopV b l ws).2 b l xs := by
  have hh := H.hi; have h1 := H.b1; have h0 := H.l0
  have hk := h.kept
  have hf := h.fit
  simp at hk hf
  have ha := h.at' xs.length (by simp)
  rw [getD_snoc, if_pos rfl] at ha
  unfold stPopV
  simp only [hk]
  rw [if_pos (by omega)]
  refine ⟨?_, by simp [hl], ?_, by omega, fun j hj => ?_⟩
  · show (wAt ws (b + ((xs.length : Int) + 1)), true) = _
    rw [show b + ((xs.length : Int) + 1) = b + 1 + (xs.length : Int) by omega, ha]
  · show wAt (ws.set b.toNat _) b = _
    rw [wAt_set (by omega) (by omega) (by omega), if_pos rfl]; omega
  · show wAt (ws.set b.toNat _) (b + 1 + j) = _
    rw [wAt_set (by omega) (by omega) (by omega), if_neg (by omega), h.at' j (by simp; omega), getD_snoc, if_neg (by omega)]
theorem Keeps.none {ws : List Int} {b l : Int} (h : Keeps ws b l []) : stPopV b l ws = ((0, false), ws) := by
  have hk := h.kept
  unfold stPopV
  simp only [hk]
  simp
/-- What stays. -/
theorem push_off {ws : List Int} {b l x : Int} {n : Nat} (H : StIn b l n) (hl : ws.length = n) : (stPushV b l x ws).2.length = n ∧ ∀ i : Int, 0 ≤ i → (i < b ∨ b + l < i) → wAt (stPushV b l x ws).2 i = wAt ws i := by
  have hh := H.hi; have h1 := H.b1; have h0 := H.l0
  have hk := stKept_b (y := wAt ws b) h0
  unfold stPushV
  simp only
  split
  · refine ⟨by simp [hl], fun i hi ho => ?_⟩
    show wAt ((ws.set _ _).set b.toNat _) i = _
    rw [wAt_set (by omega) (by omega) (by simp; omega), if_neg (by omega), wAt_set (by omega) (by omega) (by omega), if_neg (by omega)]
  · exact ⟨hl, fun i _ _ => rfl⟩
theorem pop_off {ws : List Int} {b l : Int} {n : Nat} (H : StIn b l n) (hl : ws.length = n) : (stPopV b l ws).2.length = n ∧ ∀ i : Int, 0 ≤ i → (i < b ∨ b + l < i) → wAt (stPopV b l ws).2 i = wAt ws i := by
  have hh := H.hi; have h1 := H.b1; have h0 := H.l0
  unfold stPopV
  simp only
  split
  · refine ⟨by simp [hl], fun i hi ho => ?_⟩
    show wAt (ws.set b.toNat _) i = _
    rw [wAt_set (by omega) (by omega) (by omega), if_neg (by omega)]
  · exact ⟨hl, fun i _ _ => rfl⟩
end Go.Proofs.Ytflihdcliknggaa
