/-
  Programs that read and write words by a view, as plain functions: what they need, or answer and write; what they do over words.
-/
import Derived.Test.YtflihdcliknggaaViewDoD
namespace Go.Proofs.Ytflihdcliknggaa
set_option linter.unusedVariables false
set_option linter.unusedSimpArgs false

/-- What a part of a program comes to: a word that is needed; or an answer, and what was written then. -/
inductive Res (α : Type) where
  | need (a : Int)
  | ok (x : α) (D : List KV)
abbrev Prg (α : Type) := (Int → Option Int) → List KV → Res α
def pureP {α : Type} (x : α) : Prg α := fun _ D => .ok x D
def bindP {α β : Type} (p : Prg α) (f : α → Prg β) : Prg β := fun kn D => match p kn D with
  | .need a => .need a
  | .ok x D' => f x kn D'
def readP (a : Int) : Prg Int := fun kn D => match wordV kn D a with
  | none => .need a
  | some y => .ok y D
def writeP (a x : Int) : Prg Unit := fun _ D => .ok () (writeV D a x)
/-- As a run's end. -/
def ranOf {α : Type} : Res α → Ran
  | .need a => .need a
  | .ok _ D => .done D
theorem bindP_need {α β : Type} {p : Prg α} {f : α → Prg β} {kn : Int → Option Int} {D : List KV} {a : Int} (h : p kn D = .need a) : bindP p f kn D = .need a := by unfold bindP; rw [h]
theorem bindP_ok {α β : Type} {p : Prg α} {f : α → Prg β} {kn : Int → Option Int} {D D' : List KV} {x : α} (h : p kn D = .ok x D') : bindP p f kn D = f x kn D' := by unfold bindP; rw [h]
theorem readP_some {kn : Int → Option Int} {D : List KV} {a y : Int} (h : wordV kn D a = some y) : readP a kn D = .ok y D := by unfold readP; rw [h]
theorem readP_none {kn : Int → Option Int} {D : List KV} {a : Int} (h : wordV kn D a = none) : readP a kn D = .need a := by unfold readP; rw [h]

/-- What was written is of n words. -/
structure InvD (n : Nat) (D : List KV) : Prop where
  ok : OkD D
  asc : Asc D
  lt : ∀ p ∈ D, p.1 < n
theorem invD_nil (n : Nat) : InvD n [] := ⟨okD_nil, asc_nil, fun p h => by cases h⟩
theorem InvD.len {n : Nat} {D : List KV} (h : InvD n D) : D.length ≤ n := by
  have hn : (D.map (·.1)).Nodup := by
    have := h.asc
    unfold Asc at this
    rw [List.Nodup, List.pairwise_map]
    exact this.imp (fun h => by omega)
  have := nodup_short n (D.map (·.1)) hn fun x hx => by
    obtain ⟨p, hp, rfl⟩ := List.mem_map.1 hx
    exact ⟨(h.ok p hp).1, h.lt p hp⟩
  simpa using this
theorem InvD.fits {zs : List Int} {D : List KV} (h : InvD zs.length D) : fitsD zs D = true := by
  unfold fitsD; rw [List.all_eq_true]; intro p hp; simpa using h.lt p hp
theorem InvD.write {n : Nat} {D : List KV} (h : InvD n D) {a x : Int} (ha : W64 a) (hn : a < n) (hx : W64 x) : InvD n (writeV D a x) :=
  ⟨okD_write h.ok ha hx, asc_write h.asc a x, fun p hp => by
    unfold writeV at hp
    split at hp
    · exact h.lt p hp
    · rcases mem_putD hp with rfl | q
      · exact hn
      · exact h.lt p q⟩

/-- Whatever is known: what is needed is one of n words, and not known; what is written is of n words; what is answered is so. -/
def Good {α : Type} (n : Nat) (Q : α → Prop) (p : Prg α) : Prop := ∀ kn D, OkK kn → InvD n D → match p kn D with
  | .need a => 0 ≤ a ∧ a < n ∧ kn a = none
  | .ok x D' => InvD n D' ∧ Q x
/-- Where more is known it does the same, but that less is needed. -/
def Sound {α : Type} (p : Prg α) : Prop := ∀ kn kn' D, (∀ a v, kn a = some v → kn' a = some v) → (∃ a, p kn D = .need a) ∨ p kn D = p kn' D

theorem good_pure {α : Type} (n : Nat) {Q : α → Prop} {x : α} (h : Q x) : Good n Q (pureP x) := fun _ _ _ hD => ⟨hD, h⟩
theorem good_bind {α β : Type} {n : Nat} {Q : α → Prop} {Q' : β → Prop} {p : Prg α} {f : α → Prg β} (h : Good n Q p) (hf : ∀ x, Q x → Good n Q' (f x)) : Good n Q' (bindP p f) := fun kn D hk hD => by
  have h1 := h kn D hk hD
  cases e : p kn D with
  | need a => rw [bindP_need e]; rw [e] at h1; exact h1
  | ok x D' => rw [bindP_ok e]; rw [e] at h1; exact hf x h1.2 kn D' hk h1.1
theorem good_read (n : Nat) {a : Int} (ha : a < n) : Good n W64 (readP a) := fun kn D hk hD => by
  cases e : wordV kn D a with
  | none => rw [readP_none e]; obtain ⟨h0, _, h2⟩ := word_none e; exact ⟨h0, ha, h2⟩
  | some y => rw [readP_some e]; exact ⟨hD, word_ok hk hD.ok e⟩
theorem good_write (n : Nat) {a x : Int} (ha : W64 a) (hn : a < n) (hx : W64 x) : Good n (fun _ => True) (writeP a x) := fun kn D hk hD => ⟨hD.write ha hn hx, trivial⟩
theorem good_imp {α : Type} {n : Nat} {Q Q' : α → Prop} {p : Prg α} (h : Good n Q p) (hq : ∀ x, Q x → Q' x) : Good n Q' p := fun kn D hk hD => by
  have h1 := h kn D hk hD
  cases e : p kn D with
  | need a => rw [e] at h1; exact h1
  | ok x D' => rw [e] at h1; exact ⟨h1.1, hq x h1.2⟩
theorem Good.need {α : Type} {n : Nat} {Q : α → Prop} {p : Prg α} (h : Good n Q p) {kn : Int → Option Int} {D : List KV} (hk : OkK kn) (hD : InvD n D) {a : Int} (e : p kn D = .need a) : 0 ≤ a ∧ a < n ∧ kn a = none := by
  have := h kn D hk hD; rw [e] at this; exact this
theorem Good.ok {α : Type} {n : Nat} {Q : α → Prop} {p : Prg α} (h : Good n Q p) {kn : Int → Option Int} {D : List KV} (hk : OkK kn) (hD : InvD n D) {x : α} {D' : List KV} (e : p kn D = .ok x D') : InvD n D' ∧ Q x := by
  have := h kn D hk hD; rw [e] at this; exact this

theorem sound_pure {α : Type} (x : α) : Sound (pureP x) := fun _ _ _ _ => .inr rfl
theorem sound_bind {α β : Type} {p : Prg α} {f : α → Prg β} (h : Sound p) (hf : ∀ x, Sound (f x)) : Sound (bindP p f) := fun kn kn' D hk => by
  rcases h kn kn' D hk with ⟨a, e⟩ | e
  · exact .inl ⟨a, bindP_need e⟩
  · cases e1 : p kn D with
    | need a => exact .inl ⟨a, bindP_need e1⟩
    | ok x D' => rw [bindP_ok e1, bindP_ok (e.symm.trans e1)]; exact hf x kn kn' D' hk
theorem sound_read (a : Int) : Sound (readP a) := fun kn kn' D hk => by
  cases e : wordV kn D a with
  | none => exact .inl ⟨a, readP_none e⟩
  | some y =>
    refine .inr ?_
    rw [readP_some e, readP_some]
    unfold wordV at e ⊢
    split
    · rename_i q; rw [if_pos q] at e; exact e
    · rename_i q
      rw [if_neg q] at e
      cases e1 : look D a with
      | none => rw [e1] at e; simp at e ⊢; exact hk a y e
      | some v => rw [e1] at e; simpa using e
theorem sound_write (a x : Int) : Sound (writeP a x) := fun _ _ _ _ => .inr rfl
theorem sound_ite {α : Type} {c : Prop} [Decidable c] {p q : Prg α} (h1 : Sound p) (h2 : Sound q) : Sound (if c then p else q) := by
  split
  · exact h1
  · exact h2

/-- All words are known. -/
def allK (zs : List Int) : Int → Option Int := fun a => if 0 ≤ a ∧ a < zs.length then some (wAt zs a) else none
theorem okK_all {zs : List Int} (h : OkW zs) : OkK (allK zs) := fun a v e => by
  unfold allK at e
  split at e
  · cases e; exact wAt_ok h a
  · cases e
theorem look_all {zs : List Int} {K : List KV} (h : OkKn zs K) : ∀ a v, look K a = some v → allK zs a = some v := fun a v e => by
  obtain ⟨h0, h1, h2⟩ := h.at' _ (look_mem e)
  simp only at h0 h1 h2
  unfold allK
  rw [if_pos ⟨h0, h1⟩, h2]
theorem okK_of {zs : List Int} {K : List KV} (h : OkKn zs K) (hz : OkW zs) : OkK (look K) := fun a v e => okK_all hz a v (look_all h a v e)

/-- A program that comes to its end over words does so run by run. -/
theorem doP_run {α : Type} {zs : List Int} {p : Prg α} {Q : α → Prop} {x : α} {D : List KV} (hS : Sound p) (hG : Good zs.length Q p) (hz : OkW zs) (hf : p (allK zs) [] = .ok x D) :
    ∀ (n : Nat) (K : List KV), OkKn zs K → zs.length + 1 = K.length + n → ∃ K', OkKn zs K' ∧ doP (fun K => ranOf (p (look K) [])) zs n K = some (applyD zs D, K')
  | 0, K, hK, hn => by have := hK.len; omega
  | n + 1, K, hK, hn => by
    have hg := hG (look K) [] (okK_of hK hz) (invD_nil _)
    have hD := (hG.ok (okK_all hz) (invD_nil _) hf).1
    unfold doP
    rcases hS (look K) (allK zs) [] (look_all hK) with ⟨a, e⟩ | e
    · rw [e] at hg ⊢
      obtain ⟨h0, h1, h2⟩ := hg
      simp only [ranOf]
      rw [if_pos h1]
      exact doP_run hS hG hz hf n _ (okKn_snoc hK h0 h1 h2) (by simp; omega)
    · rw [e, hf]
      simp only [ranOf]
      rw [if_pos hD.fits]
      exact ⟨K, hK, rfl⟩
/-- What is answered whenever it is done. -/
theorem sound_same {α : Type} {zs : List Int} {p : Prg α} {x y : α} {D D' : List KV} {K : List KV} (hS : Sound p) (hK : OkKn zs K) (hf : p (allK zs) [] = .ok x D) (h : p (look K) [] = .ok y D') : y = x ∧ D' = D := by
  rcases hS (look K) (allK zs) [] (look_all hK) with ⟨a, e⟩ | e
  · rw [h] at e; cases e
  · rw [h, hf] at e; cases e; exact ⟨rfl, rfl⟩
theorem fine_of {α : Type} {zs : List Int} {p : Prg α} {Q : α → Prop} (hG : Good zs.length Q p) (hz : OkW zs) (hl : zs.length ≤ 100000) : FineSem zs zs.length (fun K => ranOf (p (look K) [])) := fun K hK => by
  have hg := hG (look K) [] (okK_of hK hz) (invD_nil _)
  show Fine (look K) _ (ranOf (p (look K) []))
  cases e : p (look K) [] with
  | need a => rw [e] at hg; exact ⟨hg.1, by have := hg.2.1; unfold W64; constructor <;> omega, hg.2.2⟩
  | ok x D => rw [e] at hg; exact ⟨hg.1.ok, hg.1.asc, hg.1.len⟩

/-! Over words: what it answers, and the words behind it. -/
theorem len_apply (D : List KV) (zs : List Int) : (applyD zs D).length = zs.length := applyD_len D zs
theorem apply_look {D : List KV} (hA : Asc D) (zs : List Int) (h0 : ∀ p ∈ D, 0 ≤ p.1 ∧ p.1 < zs.length) (i : Int) (hi : 0 ≤ i ∧ i < zs.length) : wAt (applyD zs D) i = (look D i).getD (wAt zs i) := by
  induction D generalizing zs with
  | nil => rfl
  | cons p D ih =>
    have hA' : Asc D := by unfold Asc at hA ⊢; exact (List.pairwise_cons.1 hA).2
    have hp := h0 p (by simp)
    show wAt (applyD (zs.set p.1.toNat p.2) D) i = _
    rw [ih hA' _ (fun q hq => by have := h0 q (by simp [hq]); simpa using this) (by simpa using hi)]
    rw [look_cons]
    by_cases e : p.1 = i
    · rw [if_pos e]
      have hn : look D i = none := look_none_iff.2 (fun q hq => by
        unfold Asc at hA
        have := (List.pairwise_cons.1 hA).1 q hq
        omega)
      rw [hn]
      subst e
      unfold wAt
      simp only [List.getD, Option.getD_some]
      rw [List.getElem?_set_self (by omega)]
      rfl
    · rw [if_neg e]
      have : wAt (zs.set p.1.toNat p.2) i = wAt zs i := by
        unfold wAt
        simp only [List.getD]
        rw [List.getElem?_set_ne (by omega)]
      rw [this]
theorem words_ext {xs ys : List Int} (hl : xs.length = ys.length) (h : ∀ i : Int, 0 ≤ i → i < xs.length → wAt xs i = wAt ys i) : xs = ys := by
  apply List.ext_getElem hl
  intro i h1 h2
  have := h (i : Int) (by omega) (by omega)
  simpa [wAt, List.getD, h1, h2] using this
theorem wAt_set {ws : List Int} {a x i : Int} (ha : 0 ≤ a) (hi : 0 ≤ i) (hn : a < ws.length) : wAt (ws.set a.toNat x) i = if i = a then x else wAt ws i := by
  unfold wAt
  simp only [List.getD]
  by_cases e : i = a
  · subst e
    rw [if_pos rfl, List.getElem?_set_self (by omega)]
    rfl
  · rw [if_neg e, List.getElem?_set_ne (by omega)]
theorem apply_write {n : Nat} {zs : List Int} {D : List KV} (hn : zs.length = n) (h : InvD n D) {a x : Int} (ha : 0 ≤ a) (hl : a < n) (hw : W64 a) (hx : W64 x) : applyD zs (writeV D a x) = (applyD zs D).set a.toNat x := by
  have h2 := h.write hw hl hx
  subst hn
  apply words_ext
  · simp [applyD_len]
  · intro i h0 h1
    rw [applyD_len] at h1
    rw [apply_look h2.asc zs (fun p hp => ⟨(h2.ok p hp).1, h2.lt p hp⟩) i ⟨h0, h1⟩, wAt_set ha h0 (by rw [applyD_len]; exact hl),
      apply_look h.asc zs (fun p hp => ⟨(h.ok p hp).1, h.lt p hp⟩) i ⟨h0, h1⟩]
    unfold writeV
    rw [if_neg (by omega), look_putD h.asc]
    split <;> rfl
theorem word_all {zs : List Int} {D : List KV} (h : InvD zs.length D) {a : Int} (h0 : 0 ≤ a) (h1 : a < zs.length) : wordV (allK zs) D a = some (wAt (applyD zs D) a) := by
  rw [apply_look h.asc zs (fun p hp => ⟨(h.ok p hp).1, h.lt p hp⟩) a ⟨h0, h1⟩]
  unfold wordV allK
  rw [if_neg (by omega), if_pos ⟨h0, h1⟩]
  cases look D a <;> rfl

/-- Over any words of that number it answers, and leaves them, as g says. -/
def Flat {α : Type} (n : Nat) (p : Prg α) (g : List Int → α × List Int) : Prop := ∀ zs D, zs.length = n → OkW zs → InvD n D → ∃ D', p (allK zs) D = .ok (g (applyD zs D)).1 D' ∧ applyD zs D' = (g (applyD zs D)).2 ∧ InvD n D'
theorem flat_pure {α : Type} (n : Nat) (x : α) : Flat n (pureP x) (fun ws => (x, ws)) := fun zs D _ _ hD => ⟨D, rfl, rfl, hD⟩
theorem flat_bind {α β : Type} {n : Nat} {p : Prg α} {f : α → Prg β} {g : List Int → α × List Int} {k : α → List Int → β × List Int} (h : Flat n p g) (hf : ∀ x, Flat n (f x) (k x)) : Flat n (bindP p f) (fun ws => k (g ws).1 (g ws).2) := fun zs D hn hz hD => by
  obtain ⟨D1, e1, a1, i1⟩ := h zs D hn hz hD
  obtain ⟨D2, e2, a2, i2⟩ := hf (g (applyD zs D)).1 zs D1 hn hz i1
  refine ⟨D2, ?_, ?_, i2⟩
  · rw [bindP_ok e1, e2, a1]
  · rw [a2, a1]
theorem flat_read {n : Nat} {a : Int} (h0 : 0 ≤ a) (h1 : a < n) : Flat n (readP a) (fun ws => (wAt ws a, ws)) := fun zs D hn hz hD => by
  subst hn
  exact ⟨D, readP_some (word_all hD h0 h1), rfl, hD⟩
theorem flat_write {n : Nat} {a x : Int} (h0 : 0 ≤ a) (h1 : a < n) (hw : W64 a) (hx : W64 x) : Flat n (writeP a x) (fun ws => ((), ws.set a.toNat x)) := fun zs D hn hz hD =>
  ⟨_, rfl, apply_write hn hD h0 h1 hw hx, hD.write hw h1 hx⟩
theorem flat_eq {α : Type} {n : Nat} {p : Prg α} {g k : List Int → α × List Int} (h : Flat n p g) (e : ∀ ws, ws.length = n → g ws = k ws) : Flat n p k := fun zs D hn hz hD => by
  rw [← e (applyD zs D) (by rw [applyD_len]; exact hn)]
  exact h zs D hn hz hD
/-- The whole of it. -/
theorem flat_do {α : Type} {zs : List Int} {p : Prg α} {Q : α → Prop} {g : List Int → α × List Int} (hS : Sound p) (hG : Good zs.length Q p) (hz : OkW zs) (hF : Flat zs.length p g) :
    ∃ K, doP (fun K => ranOf (p (look K) [])) zs (zs.length + 1) [] = some ((g zs).2, K) ∧ OkKn zs K ∧ ∀ K, OkKn zs K → ∀ y D, p (look K) [] = .ok y D → y = (g zs).1 := by
  obtain ⟨D, e, a, i⟩ := hF zs [] rfl hz (invD_nil _)
  have e0 : applyD zs [] = zs := rfl
  rw [e0] at e a
  obtain ⟨K, hK, hd⟩ := doP_run hS hG hz e (zs.length + 1) [] (okKn_nil zs) (by simp)
  exact ⟨K, by rw [hd, a], hK, fun K hK y D' h => (sound_same hS hK e h).1⟩
end Go.Proofs.Ytflihdcliknggaa
