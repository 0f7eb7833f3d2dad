/-
  Layer 12's statement that what is pushed is popped, the last one first: the program, and what it comes to over words.
-/
import Derived.Test.YtflihdcliknggaaStkLives
namespace Go.Proofs.Ytflihdcliknggaa
open Go.RowKit Go.Sort Go.Maps Go.Shelf
set_option linter.unusedVariables false
set_option linter.unusedSimpArgs false

def stPushesP (m : Int) : List Int → Nat → Nat → Bool → Prg (Nat × Bool)
  | [], _, k, r => pureP (k, r)
  | x :: xs, i, k, r => bindP (stPushP 1 m x) fun ok => stPushesP m xs (i + 1) (if ok then k + 1 else k) (r && (ok == decide ((i : Int) < m)))
def stPopsP (m : Int) (l : List Int) : Nat → Bool → Prg Bool
  | 0, r => pureP r
  | k + 1, r => bindP (stPopP 1 m) fun p => stPopsP m l k (r && p.2 && (p.1 == l.getD k 0))
def stLenP (m : Int) (l : List Int) : Prg Int := bindP (stPushesP m l 0 0 true) fun _ => stKeptP 1 m
def stLastP (m : Int) (l : List Int) (k0 : Nat) : Prg Bool := bindP (stLenP m l) fun _ => bindP (stPopsP m l k0 true) fun r => bindP (stPopP 1 m) fun p => pureP (r && !p.2)
theorem sound_stPushes (m : Int) (l : List Int) : ∀ i k r, Sound (stPushesP m l i k r) := by
  induction l with
  | nil => intro i k r; exact sound_pure _
  | cons x xs ih => intro i k r; exact sound_bind (sound_stPush _ _ _) fun _ => ih _ _ _
theorem sound_stPops (m : Int) (l : List Int) : ∀ k r, Sound (stPopsP m l k r)
  | 0, r => sound_pure _
  | k + 1, r => sound_bind (sound_stPop _ _) fun _ => sound_stPops m l k _
theorem sound_stLen (m : Int) (l : List Int) : Sound (stLenP m l) := sound_bind (sound_stPushes m l 0 0 true) fun _ => sound_stKept _ _
theorem sound_stLast (m : Int) (l : List Int) (k0 : Nat) : Sound (stLastP m l k0) := sound_bind (sound_stLen m l) fun _ => sound_bind (sound_stPops m l k0 true) fun _ => sound_bind (sound_stPop _ _) fun _ => sound_pure _
theorem good_stPushes {m : Int} {n : Nat} (H : StIn 1 m n) (l : List Int) (ho : OkW l) : ∀ i k r, Good n (fun _ => True) (stPushesP m l i k r) := by
  induction l with
  | nil => intro i k r; exact good_pure n trivial
  | cons x xs ih => intro i k r; exact good_bind (good_stPush H (ho x (by simp))) fun _ _ => ih (fun y hy => ho y (by simp [hy])) _ _ _
theorem good_stPops {m : Int} {n : Nat} (H : StIn 1 m n) (l : List Int) : ∀ k r, Good n (fun _ => True) (stPopsP m l k r)
  | 0, r => good_pure n trivial
  | k + 1, r => good_bind (good_stPop H) fun _ _ => good_stPops H l k _
theorem good_stLen {m : Int} {n : Nat} (H : StIn 1 m n) (l : List Int) (ho : OkW l) : Good n (fun _ => True) (stLenP m l) := good_bind (good_stPushes H l ho 0 0 true) fun _ _ => good_imp (good_stKept H) fun _ _ => trivial
theorem good_stLast {m : Int} {n : Nat} (H : StIn 1 m n) (l : List Int) (ho : OkW l) (k0 : Nat) : Good n (fun _ => True) (stLastP m l k0) := good_bind (good_stLen H l ho) fun _ _ => good_bind (good_stPops H l k0 true) fun _ _ => good_bind (good_stPop H) fun _ _ => good_pure n trivial

theorem pushes_ok {m : Int} {n : Nat} (H : StIn 1 m n) {zs : List Int} (hn : zs.length = n) (hz : OkW zs) : ∀ (xs done : List Int) (D : List KV), OkW xs → InvD n D → Keeps (applyD zs D) 1 m (done.take m.toNat) →
    ∃ D', stPushesP m xs done.length (done.take m.toNat).length true (allK zs) D = .ok (((done ++ xs).take m.toNat).length, true) D' ∧ InvD n D' ∧ Keeps (applyD zs D') 1 m ((done ++ xs).take m.toNat) := by
  intro xs
  induction xs with
  | nil => intro done D _ hD hK; exact ⟨D, by simp [stPushesP, pureP], hD, by simpa using hK⟩
  | cons x xs ih =>
    intro done D ho hD hK
    have h0 := H.l0
    obtain ⟨D1, e1, a1, i1⟩ := flat_stPush H (ho x (by simp)) zs D hn hz hD
    obtain ⟨q1, q2, q3⟩ := hK.push (x := x) H (by rw [applyD_len]; exact hn)
    rw [q1] at e1
    rw [← a1] at q3
    have hlen : (done.take m.toNat).length = min m.toNat done.length := by simp
    have hd : decide (((done.take m.toNat).length : Int) < m) = decide ((done.length : Int) < m) := decide_eq_decide.2 (by rw [hlen]; omega)
    have key : (if ((done.take m.toNat).length : Int) < m then done.take m.toNat ++ [x] else done.take m.toNat) = (done ++ [x]).take m.toNat := by
      by_cases q : ((done.take m.toNat).length : Int) < m
      · rw [if_pos q]
        have : done.length < m.toNat := by rw [hlen] at q; omega
        rw [List.take_of_length_le (by omega), List.take_of_length_le (by simp; omega)]
      · rw [if_neg q]
        have : m.toNat ≤ done.length := by rw [hlen] at q; omega
        rw [List.take_append_of_le_length this]
    rw [key] at q3
    obtain ⟨D2, e2, i2, k2⟩ := ih (done ++ [x]) D1 (fun y hy => ho y (by simp [hy])) i1 q3
    refine ⟨D2, ?_, i2, by simpa using k2⟩
    show bindP (stPushP 1 m x) _ (allK zs) D = _
    rw [bindP_ok e1, hd]
    have hk : (if decide ((done.length : Int) < m) = true then (done.take m.toNat).length + 1 else (done.take m.toNat).length) = ((done ++ [x]).take m.toNat).length := by
      rw [← key]
      by_cases q : ((done.take m.toNat).length : Int) < m
      · rw [if_pos q, if_pos (by rw [← hd]; simpa using q)]; simp
      · rw [if_neg q, if_neg (by rw [← hd]; simpa using q)]
    rw [hk]
    have e3 : (done ++ [x]).length = done.length + 1 := by simp
    rw [e3] at e2
    simp only [List.append_assoc, List.cons_append, List.nil_append] at e2
    simpa using e2
theorem pops_ok {m : Int} {n : Nat} (H : StIn 1 m n) {zs : List Int} (hn : zs.length = n) (hz : OkW zs) (l : List Int) : ∀ (k : Nat) (D : List KV), k ≤ l.length → InvD n D → Keeps (applyD zs D) 1 m (l.take k) →
    ∃ D', stPopsP m l k true (allK zs) D = .ok true D' ∧ InvD n D' ∧ Keeps (applyD zs D') 1 m [] := by
  intro k
  induction k with
  | zero => intro D _ hD hK; exact ⟨D, rfl, hD, by simpa using hK⟩
  | succ k ih =>
    intro D hk hD hK
    obtain ⟨D1, e1, a1, i1⟩ := flat_stPop H zs D hn hz hD
    have ht : l.take (k + 1) = l.take k ++ [l.getD k 0] := by
      rw [List.take_add_one, List.getD, List.getElem?_eq_getElem (by omega)]; rfl
    rw [ht] at hK
    obtain ⟨q1, q2, q3⟩ := hK.pop H (by rw [applyD_len]; exact hn)
    rw [q1] at e1
    rw [← a1] at q3
    obtain ⟨D2, e2, i2, k2⟩ := ih D1 (by omega) i1 q3
    refine ⟨D2, ?_, i2, k2⟩
    show bindP (stPopP 1 m) _ (allK zs) D = _
    rw [bindP_ok e1]
    simpa using e2
theorem last_ok (m : Nat) (hm : m ≤ 60) (l : List Int) (ho : OkW l) :
    StIn 1 m (m + 2) ∧ (∃ D, stPushesP m l 0 0 true (allK (zeros (m + 2))) [] = .ok ((l.take m).length, true) D) ∧ (∃ D, stLenP m l (allK (zeros (m + 2))) [] = .ok (((l.take m).length : Nat) : Int) D) ∧ ∃ D, stLastP m l (l.take m).length (allK (zeros (m + 2))) [] = .ok true D := by
  have H : StIn 1 (m : Int) (m + 2) := ⟨by omega, by omega, by omega, by omega⟩
  have hn := zeros_len (m + 2)
  have hz := okW_zeros (m + 2)
  obtain ⟨D1, e1, i1, k1⟩ := pushes_ok H hn hz l [] [] ho (invD_nil _) (by
    rw [List.take_nil]
    refine keeps_nil (n := m + 2) (l := (m : Int)) (by omega) ?_
    show wAt (applyD (zeros (m + 2)) []) 1 = 0
    unfold wAt zeros applyD
    simp)
  simp only [List.nil_append, Int.toNat_natCast, List.take_nil, List.length_nil] at e1 k1
  obtain ⟨D2, e2, a2, i2⟩ := flat_stKept H (zeros (m + 2)) D1 hn hz i1
  simp only [k1.kept] at e2
  have k2 : Keeps (applyD (zeros (m + 2)) D2) 1 m (l.take m) := by rw [a2]; exact k1
  have e12 : stLenP m l (allK (zeros (m + 2))) [] = .ok (((l.take m).length : Nat) : Int) D2 := by unfold stLenP; rw [bindP_ok e1]; exact e2
  have k2' : Keeps (applyD (zeros (m + 2)) D2) 1 m (l.take (l.take m).length) := by
    have : l.take (l.take m).length = l.take m := by
      by_cases q : m ≤ l.length
      · simp [Nat.min_eq_left q]
      · rw [List.take_of_length_le (by omega : l.length ≤ m)]; simp
    rw [this]; exact k2
  obtain ⟨D3, e3, i3, k3⟩ := pops_ok H hn hz l (l.take m).length D2 (by simp; omega) i2 k2'
  obtain ⟨D4, e4, a4, i4⟩ := flat_stPop H (zeros (m + 2)) D3 hn hz i3
  rw [k3.none] at e4
  refine ⟨H, ⟨D1, e1⟩, ⟨D2, e12⟩, D4, ?_⟩
  unfold stLastP
  rw [bindP_ok e12, bindP_ok e3, bindP_ok e4]
  rfl
end Go.Proofs.Ytflihdcliknggaa
