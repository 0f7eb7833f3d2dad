/-
  Programs over plain words, run by run, as plain functions.
-/
import Derived.Test.YtflihdcliknggaaViewA
namespace Go.Proofs.Ytflihdcliknggaa
set_option linter.unusedVariables false
set_option linter.unusedSimpArgs false

/-- The word at an address. -/
def wAt (ws : List Int) (i : Int) : Int := ws.getD i.toNat 0
/-- The words with what was written. -/
def applyD (ws : List Int) (D : List KV) : List Int := D.foldl (fun z p => z.set p.1.toNat p.2) ws
def fitsD (ws : List Int) (D : List KV) : Bool := D.all fun p => decide (p.1 < ws.length)
/-- A program over words: at most so many runs, from these known on. -/
def doP (sem : List KV → Ran) (ws : List Int) : Nat → List KV → Option (List Int × List KV)
  | 0, _ => none
  | n + 1, K => match sem K with
    | .need a => if a < ws.length then doP sem ws n (K ++ [(a, wAt ws a)]) else none
    | .done D => if fitsD ws D then some (applyD ws D, K) else none

theorem applyD_len (D : List KV) : ∀ ws, (applyD ws D).length = ws.length := by
  induction D with
  | nil => intro ws; rfl
  | cons p D ih => intro ws; show (applyD (ws.set _ _) D).length = _; rw [ih]; simp
theorem applyD_snoc (ws : List Int) (D : List KV) (p : KV) : applyD ws (D ++ [p]) = (applyD ws D).set p.1.toNat p.2 := by simp [applyD, List.foldl_append]
theorem take_next {D : List KV} {i : Nat} {p : KV} (h : D[i]? = some p) : D.take (i + 1) = D.take i ++ [p] := by rw [List.take_add_one, h]; rfl
theorem fitsD_snoc (ws : List Int) (D : List KV) (p : KV) : fitsD ws (D ++ [p]) = (fitsD ws D && decide (p.1 < ws.length)) := by simp [fitsD, List.all_append]
theorem fitsD_not {ws : List Int} {D : List KV} {i : Nat} {p : KV} (h : D[i]? = some p) (hp : ¬ p.1 < ws.length) : fitsD ws D = false := by
  unfold fitsD
  rw [List.all_eq_false]
  exact ⟨p, List.mem_of_getElem? h, by simpa using hp⟩

/-- What is known on the way: each a word that is there, once. -/
structure OkKn (ws : List Int) (K : List KV) : Prop where
  at' : ∀ p ∈ K, 0 ≤ p.1 ∧ p.1 < ws.length ∧ p.2 = wAt ws p.1
  once : (K.map (·.1)).Nodup
theorem okKn_nil (ws : List Int) : OkKn ws [] := ⟨(fun p h => by cases h), by simp⟩
theorem okKn_snoc {ws : List Int} {K : List KV} (h : OkKn ws K) {a : Int} (h0 : 0 ≤ a) (h1 : a < ws.length) (hn : look K a = none) : OkKn ws (K ++ [(a, wAt ws a)]) := by
  refine ⟨fun p hp => ?_, ?_⟩
  · rcases List.mem_append.1 hp with q | q
    · exact h.at' p q
    · simp at q; subst q; exact ⟨h0, h1, rfl⟩
  · rw [List.map_append, List.nodup_append]
    refine ⟨h.once, by simp, fun x hx y hy e => ?_⟩
    simp at hy; subst hy; subst e
    obtain ⟨p, hp, rfl⟩ := List.mem_map.1 hx
    exact look_none_iff.1 hn p hp rfl
theorem nodup_short (M : Nat) : ∀ xs : List Int, xs.Nodup → (∀ x ∈ xs, 0 ≤ x ∧ x < M) → xs.length ≤ M := by
  induction M with
  | zero =>
    intro xs _ h
    cases xs with
    | nil => simp
    | cons a l => have := h a (by simp); omega
  | succ M ih =>
    intro xs hn h
    by_cases hm : (M : Int) ∈ xs
    · have h1 := ih (xs.erase (M : Int)) (hn.erase _) (fun x hx => by
        have hx' := (List.Nodup.mem_erase_iff hn).1 hx
        have := h x hx'.2
        have := hx'.1
        omega)
      have h2 := List.length_erase_of_mem hm
      omega
    · have h1 := ih xs hn (fun x hx => by
        have := h x hx
        have : x ≠ (M : Int) := fun e => hm (e ▸ hx)
        omega)
      omega
theorem OkKn.len {ws : List Int} {K : List KV} (h : OkKn ws K) : K.length ≤ ws.length := by
  have := nodup_short ws.length (K.map (·.1)) h.once fun x hx => by
    obtain ⟨p, hp, rfl⟩ := List.mem_map.1 hx
    exact ⟨(h.at' p hp).1, (h.at' p hp).2.1⟩
  simpa using this
theorem look_snoc {K : List KV} {a x : Int} (h : look K a = none) : (fun y => if y = a then some x else look K y) = look (K ++ [(a, x)]) := by
  funext y
  rw [look_append, look_cons]
  by_cases e : y = a
  · subst e; rw [if_pos rfl, if_pos rfl, h]; rfl
  · rw [if_neg e, if_neg (fun q => e q.symm), look_nil]; cases look K y <;> rfl
/-- Numbers of 64 bits. -/
def OkW (ws : List Int) : Prop := ∀ x ∈ ws, W64 x
theorem wAt_ok {ws : List Int} (h : OkW ws) (i : Int) : W64 (wAt ws i) := by
  unfold wAt
  by_cases q : i.toNat < ws.length
  · have : ws.getD i.toNat 0 = ws[i.toNat] := by simp [List.getD, q]
    rw [this]; exact h _ (List.getElem_mem q)
  · have : ws.getD i.toNat 0 = 0 := by simp [List.getD, List.getElem?_eq_none (show ws.length ≤ i.toNat by omega)]
    rw [this]; unfold W64; omega
theorem W64.small {a : Int} (h0 : 0 ≤ a) {n : Nat} (h : a < n) (hn : n ≤ 1000000) : W64 a := by unfold W64; omega
/-- What a program comes to, whatever is known of the words, is in order. -/
def FineSem (ws : List Int) (b : Nat) (sem : List KV → Ran) : Prop := ∀ K, OkKn ws K → Fine (look K) b (sem K)

/-- The steps. -/
theorem doP_need {b : Nat} {sem : List KV → Ran} {ws : List Int} {K : List KV} {a : Int} {R : Option (List Int × List KV)} (hK : OkKn ws K) (hf : Fine (look K) b (sem K)) (hs : sem K = .need a) (ha : a < ws.length) (hR : doP sem ws (ws.length + 1 - K.length) K = R) :
    OkKn ws (K ++ [(a, wAt ws a)]) ∧ doP sem ws (ws.length + 1 - (K ++ [(a, wAt ws a)]).length) (K ++ [(a, wAt ws a)]) = R ∧ 0 ≤ a ∧ look K a = none := by
  rw [hs] at hf
  have h1 := okKn_snoc hK hf.1 ha hf.2.2
  have h2 := hK.len
  refine ⟨h1, ?_, hf.1, hf.2.2⟩
  rw [show ws.length + 1 - K.length = (ws.length - K.length) + 1 by omega] at hR
  unfold doP at hR
  rw [hs] at hR
  simp only [if_pos ha] at hR
  rw [List.length_append, List.length_singleton, show ws.length + 1 - (K.length + 1) = ws.length - K.length by omega]
  exact hR
theorem doP_far {sem : List KV → Ran} {ws : List Int} {K : List KV} {a : Int} {R : Option (List Int × List KV)} (hK : OkKn ws K) (hs : sem K = .need a) (ha : ¬ a < ws.length) (hR : doP sem ws (ws.length + 1 - K.length) K = R) : R = none := by
  have h2 := hK.len
  rw [show ws.length + 1 - K.length = (ws.length - K.length) + 1 by omega] at hR
  unfold doP at hR
  rw [hs] at hR
  simp only [if_neg ha] at hR
  exact hR.symm
theorem doP_done {sem : List KV → Ran} {ws : List Int} {K D : List KV} {R : Option (List Int × List KV)} (hK : OkKn ws K) (hs : sem K = .done D) (hR : doP sem ws (ws.length + 1 - K.length) K = R) : R = if fitsD ws D then some (applyD ws D, K) else none := by
  have h2 := hK.len
  rw [show ws.length + 1 - K.length = (ws.length - K.length) + 1 by omega] at hR
  unfold doP at hR
  rw [hs] at hR
  exact hR.symm
end Go.Proofs.Ytflihdcliknggaa
