/-
  ExtentBack's program over words: what is taken is used, and dropped again.
-/
import Derived.Test.YtcjnkadmiflgaaaExtAftAll
namespace Go.Proofs.Ytcjnkadmiflgaaa
open Go.RowKit Go.Sort Go.Maps Go.Shelf
set_option linter.unusedVariables false
set_option linter.unusedSimpArgs false
set_option linter.unusedSectionVars false

def bmidP (pg st p m k was : Int) : Prg Bool := bindP (eusedP pg st) fun u => if u = was + m then bindP (ekindP pg st p) (fun x => if x = k then coversP pg st p m else pureP false) else pureP false
def boneP (pg st p q : Int) (r : Bool) : Prg Bool := if r then bindP (efirstP pg st q) (fun x => pureP (decide (x = p))) else pureP false
def bloopP (pg st p : Int) : Nat → Int → Bool → Prg Bool
  | 0, _, r => pureP r
  | j + 1, q, r => bindP (boneP pg st p q r) (fun r => bloopP pg st p j (q + 1) r)
def bendP (pg st p m was : Int) (r : Bool) : Prg Bool := if r then bindP (edropP pg st p) (fun x => if x = m then bindP (eusedP pg st) (fun u => pureP (decide (u = was))) else pureP false) else pureP false
def brestP (pg st p m k was : Int) : Prg Bool := bindP (bmidP pg st p m k was) fun r => bindP (bloopP pg st p m.toNat p r) fun r => bendP pg st p m was r
def blawP (pg st p m k : Int) : Prg Bool := bindP (eusedP pg st) fun was => bindP (etakeP pg st p m k) fun t => if t then brestP pg st p m k was else bindP (eusedP pg st) (fun u => pureP (decide (u = was)))
theorem sound_bmid (pg st p m k was : Int) : Sound (bmidP pg st p m k was) := sound_bind (sound_used _ _) (fun _ => sound_ite (sound_bind (sound_kind _ _ _) (fun _ => sound_ite (sound_covers _ _ _ _) (sound_pure _))) (sound_pure _))
theorem sound_bone (pg st p q : Int) (r : Bool) : Sound (boneP pg st p q r) := sound_ite (sound_bind (sound_first _ _ _) (fun _ => sound_pure _)) (sound_pure _)
theorem sound_bloop (pg st p : Int) (j : Nat) : ∀ q r, Sound (bloopP pg st p j q r) := by
  induction j with
  | zero => intro q r; exact sound_pure _
  | succ j ih => intro q r; exact sound_bind (sound_bone _ _ _ _ _) (fun _ => ih _ _)
theorem sound_bend (pg st p m was : Int) (r : Bool) : Sound (bendP pg st p m was r) := sound_ite (sound_bind (sound_drop _ _ _) (fun _ => sound_ite (sound_bind (sound_used _ _) (fun _ => sound_pure _)) (sound_pure _))) (sound_pure _)
theorem sound_blaw (pg st p m k : Int) : Sound (blawP pg st p m k) := sound_bind (sound_used _ _) (fun _ => sound_bind (sound_take _ _ _ _ _) (fun _ => sound_ite (sound_bind (sound_bmid _ _ _ _ _ _) (fun _ => sound_bind (sound_bloop _ _ _ _ _ _) (fun _ => sound_bend _ _ _ _ _ _))) (sound_bind (sound_used _ _) (fun _ => sound_pure _))))
/-- What is taken is there. -/
theorem take_there {pg st p m k : Int} {kn : Int → Option Int} {D D' : List KV} (h : etakeP pg st p m k kn D = .ok true D') : fitB k m = true ∧ thereB pg p m = true := by
  unfold etakeP at h
  split at h
  · rename_i hf
    refine ⟨hf, ?_⟩
    cases ht : thereB pg p m with
    | true => rfl
    | false =>
      unfold evacP at h
      rw [ht] at h
      have h2 : pureP false kn D = Res.ok true D' := h
      cases h2
  · cases h
section
variable {pg st : Int} {n : Nat} (H : PgIn pg st n)
include H
theorem good_bmid (p m k was : Int) : Good n (fun _ => True) (bmidP pg st p m k was) := good_bind (good_used H) (fun _ _ => good_ite (fun _ => good_bind (good_kind H _) (fun _ _ => good_ite (fun _ => good_covers H.toTblIn _ _) (fun _ => good_pure n trivial))) (fun _ => good_pure n trivial))
theorem good_bone (p q : Int) (r : Bool) : Good n (fun _ => True) (boneP pg st p q r) := good_ite (fun _ => good_bind (good_first H _) (fun _ _ => good_pure n trivial)) (fun _ => good_pure n trivial)
theorem good_bloop (p : Int) (j : Nat) : ∀ q r, Good n (fun _ => True) (bloopP pg st p j q r) := by
  induction j with
  | zero => intro q r; exact good_pure n trivial
  | succ j ih => intro q r; exact good_bind (good_bone H _ _ _) (fun _ _ => ih _ _)
theorem good_bend (p m was : Int) (r : Bool) : Good n (fun _ => True) (bendP pg st p m was r) := good_ite (fun _ => good_bind (good_drop H _) (fun _ _ => good_ite (fun _ => good_bind (good_used H) (fun _ _ => good_pure n trivial)) (fun _ => good_pure n trivial))) (fun _ => good_pure n trivial)
theorem good_blaw (p m k : Int) (hk : W64 k) (hm : W64 m) : Good n (fun _ => True) (blawP pg st p m k) := good_bind (good_used H) (fun _ _ => good_bind (good_take H _ _ _ hk hm) (fun _ _ => good_ite (fun _ => good_bind (good_bmid H _ _ _ _) (fun _ _ => good_bind (good_bloop H _ _ _ _) (fun _ _ => good_bend H _ _ _ _))) (fun _ => good_bind (good_used H) (fun _ _ => good_pure n trivial))))
end
/-- So many pages more are used. -/
theorem usedN_more {pg st p m : Int} {ws ws' : List Int} (hm : 0 ≤ m) (hin : ∀ q, p ≤ q → q < p + m → kindV pg st ws q = 0 ∧ kindV pg st ws' q ≠ 0) (hout : ∀ q, ¬ (p ≤ q ∧ q < p + m) → kindV pg st ws' q = kindV pg st ws q) (j : Nat) :
    ∀ q s s' : Int, usedNV pg st j q s' ws' = usedNV pg st j q s ws + (s' - s) + max 0 (min (q + j) (p + m) - max q p) := by
  induction j with
  | zero => intro q s s'; show s' = s + (s' - s) + _; omega
  | succ j ih =>
    intro q s s'
    show usedNV pg st j (q + 1) (s' + if kindV pg st ws' q = 0 then 0 else 1) ws' = usedNV pg st j (q + 1) (s + if kindV pg st ws q = 0 then 0 else 1) ws + (s' - s) + _
    rw [ih (q + 1) (s + if kindV pg st ws q = 0 then 0 else 1)]
    by_cases e : p ≤ q ∧ q < p + m
    · obtain ⟨h0, h1⟩ := hin q e.1 e.2
      rw [if_neg h1, if_pos h0]
      omega
    · rw [hout q e]
      split <;> omega
theorem used_more {pg st p m : Int} {ws ws' : List Int} (ht : thereB pg p m = true) (hin : ∀ q, p ≤ q → q < p + m → kindV pg st ws q = 0 ∧ kindV pg st ws' q ≠ 0) (hout : ∀ q, ¬ (p ≤ q ∧ q < p + m) → kindV pg st ws' q = kindV pg st ws q) : usedV pg st ws' = usedV pg st ws + m := by
  obtain ⟨t0, t1, t2⟩ := there_iff.1 ht
  unfold usedV
  rw [usedN_more (by omega) hin hout pg.toNat 0 0 0]
  omega
theorem first_run {pg st p m : Int} {ws : List Int} (h0 : 0 ≤ p) (hk : kindV pg st ws p ≠ 7 ∧ kindV pg st ws p ≠ 0 ∧ kindV pg st ws p ≠ -1) (hr : ∀ i, p < i → i < p + m → kindV pg st ws i = 7) {q : Int} (q0 : p ≤ q) (q1 : q < p + m) : fstV pg st q ws = p := by
  have key : ∀ (j : Nat) (q : Int), p ≤ q → q < p + m → q - p ≤ j → fstNV pg st j q ws = p := by
    intro j
    induction j with
    | zero => intro q a b c; show q = p; omega
    | succ j ih =>
      intro q a b c
      show (if kindV pg st ws q = 7 then fstNV pg st j (q - 1) ws else q) = p
      by_cases e : q = p
      · rw [e, if_neg hk.1]
      · rw [if_pos (hr q (by omega) b)]
        exact ih _ (by omega) (by omega) (by omega)
  unfold fstV
  rw [key _ q q0 q1 (by omega), if_neg (by rintro (z | z); exact hk.2.1 z; exact hk.2.2 z)]
theorem bloop_true {pg st p m : Int} {zs : List Int} (H : PgIn pg st zs.length) (hz : OkW zs) {ws : List Int} (hf : ∀ q, p ≤ q → q < p + m → fstV pg st q ws = p) (j : Nat) : ∀ (q : Int) (D : List KV), p ≤ q → q + j = p + m → OnW zs D ws → ∃ D', bloopP pg st p j q true (allK zs) D = .ok true D' ∧ OnW zs D' ws := by
  induction j with
  | zero => intro q D _ _ h; exact ⟨D, rfl, h⟩
  | succ j ih =>
    intro q D h0 h1 hA
    obtain ⟨D1, e1, A1⟩ := at_flat (flat_first H q) hz hA
    obtain ⟨D2, e2, A2⟩ := ih (q + 1) D1 (by omega) (by omega) A1
    refine ⟨D2, ?_, A2⟩
    have : boneP pg st p q true (allK zs) D = .ok true D1 := by
      show bindP (efirstP pg st q) _ (allK zs) D = _
      rw [bindP_ok e1]
      show Res.ok (decide (fstV pg st q ws = p)) D1 = _
      rw [hf q h0 (by omega)]; simp
    show bindP (boneP pg st p q true) _ (allK zs) D = _
    rw [bindP_ok this]
    exact e2
theorem back_true {pg st p m k : Int} {zs : List Int} (H : PgIn pg st zs.length) (hz : OkW zs) (w : Wf pg st zs) (hk : W64 k) (hm : W64 m) : ∃ D, blawP pg st p m k (allK zs) [] = .ok true D ∧ InvD zs.length D ∧ Tab pg st zs (applyD zs D) := by
  have A0 : OnW zs [] zs := ⟨invD_nil _, rfl⟩
  obtain ⟨D1, e1, A1⟩ := at_flat (flat_used H) hz A0
  obtain ⟨D2, e2, A2⟩ := at_flat (flat_take H p m k hk hm) hz A1
  have e1 : eusedP pg st (allK zs) [] = .ok (usedV pg st zs) D1 := e1
  have A1 : OnW zs D1 zs := A1
  have e2 : etakeP pg st p m k (allK zs) D1 = .ok (takeV pg st p m k zs).1 D2 := e2
  by_cases hv : (fitB k m && vacB pg st p m zs) = true
  · obtain ⟨hf, hv⟩ := Bool.and_eq_true_iff.1 hv
    obtain ⟨ht, hfree⟩ := vacB_iff.1 hv
    obtain ⟨t0, t1, t2⟩ := there_iff.1 ht
    have T := take_took H (k := k) (ws := zs) rfl ht
    have tv : takeV pg st p m k zs = (true, putNV pg st 7 (m - 1).toNat (p + 1) (put3V pg st p k (if k = 6 then m else 0) (ensureW pg st p m zs).2)) := by unfold takeV; rw [hf, hv]; rfl
    rw [tv] at e2 A2
    simp only at e2 A2
    generalize putNV pg st 7 (m - 1).toNat (p + 1) (put3V pg st p k (if k = 6 then m else 0) (ensureW pg st p m zs).2) = ws at T e2 A2
    have hkk := fit_iff.1 hf
    have hn : ws.length = zs.length := T.len
    have kp : kindV pg st ws p = k := by rw [T.kind, if_pos rfl]
    have kr : ∀ i, p < i → i < p + m → kindV pg st ws i = 7 := fun i a b => by rw [T.kind, if_neg (by omega), if_pos ⟨a, b⟩]
    have ko : ∀ q, ¬ (p ≤ q ∧ q < p + m) → kindV pg st ws q = kindV pg st zs q := fun q a => by rw [T.kind, if_neg (by omega), if_neg (by omega)]
    have hu : usedV pg st ws = usedV pg st zs + m := used_more ht (fun q a b => ⟨hfree q a b, by
      by_cases e : q = p
      · rw [e, kp]; omega
      · rw [kr q (by omega) b]; omega⟩) ko
    have hcov : coversW pg st p m ws = true := (covers_pages ws ht H.pg2).2 fun i a b => by
      rw [T.map _ (chunk_of (isPage_iff.2 ⟨by omega, by omega⟩))]
      have e1 : p / 4 ≤ i / 4 := by omega
      have e2 : i / 4 ≤ (p + m - 1) / 4 := by omega
      simp [e1, e2]
    have hlen : lenV pg st p ws = m := by
      have hp : isPage pg p = true := isPage_iff.2 ⟨by omega, by omega⟩
      unfold lenV
      rw [kp]
      by_cases c : clsB k = true
      · rw [if_pos c]
        have := cls_iff.1 c
        omega
      · have hc : ¬ (1 ≤ k ∧ k ≤ 5) := fun q => c (cls_iff.2 q)
        have k6 : k = 6 := by omega
        rw [if_neg c, if_pos k6, T.cnt p hp, if_pos rfl, if_pos k6]
        omega
    have FE := drop_fell H (ws := ws) p hn
    have dv : dropV pg st p ws = (m, (dropV pg st p ws).2) := Prod.ext hlen rfl
    rw [hlen] at FE
    obtain ⟨D3, e3, A3⟩ := at_flat (flat_used H) hz A2
    obtain ⟨D4, e4, A4⟩ := at_flat (flat_kind H p) hz A3
    obtain ⟨D5, e5, A5⟩ := at_flat (flat_covers H.toTblIn p m) hz A4
    obtain ⟨D6, e6, A6⟩ := bloop_true (p := p) (m := m) H hz (ws := ws) (fun q a b => first_run t0 (by rw [kp]; omega) kr a b) m.toNat p D5 (Int.le_refl _) (by omega) A5
    obtain ⟨D7, e7, A7⟩ := at_flat (flat_drop H p) hz A6
    rw [dv] at e7 A7
    simp only at e7 A7
    generalize (dropV pg st p ws).2 = xs at FE e7 A7
    obtain ⟨D8, e8, A8⟩ := at_flat (flat_used H) hz A7
    have hkx : ∀ q, kindV pg st xs q = kindV pg st zs q := fun q => by
      rw [FE.kind]
      by_cases e : p ≤ q ∧ q < p + m
      · rw [if_pos e, hfree q e.1 e.2]
      · rw [if_neg e, ko q e]
    have hu8 : usedV pg st xs = usedV pg st zs := used_congr hkx
    refine ⟨D8, ?_, A8.inv, ?_⟩
    · have hmid : bmidP pg st p m k (usedV pg st zs) (allK zs) D2 = .ok true D5 := by
        unfold bmidP
        rw [bindP_ok e3, if_pos hu, bindP_ok e4, if_pos kp, e5, hcov]
      have hend : bendP pg st p m (usedV pg st zs) true (allK zs) D6 = .ok true D8 := by
        unfold bendP
        rw [if_pos rfl, bindP_ok e7, if_pos rfl, bindP_ok e8]
        show Res.ok (decide (usedV pg st xs = usedV pg st zs)) D8 = _
        rw [hu8]; simp
      unfold blawP
      rw [bindP_ok e1, bindP_ok e2, if_pos rfl]
      unfold brestP
      rw [bindP_ok hmid, bindP_ok e6]
      exact hend
    · rw [A8.eq]
      refine ⟨FE.len.trans T.len, fun i h0 ho => ?_⟩
      by_cases hpq : ∃ q, isPage pg q = true ∧ (i = kA pg st q ∨ i = cA pg st q ∨ i = bA pg st q)
      · obtain ⟨q, hq, hi⟩ := hpq
        have hkq := hkx q
        rw [kind_in hq, kind_in hq] at hkq
        have hcq : cntV pg st xs q = cntV pg st zs q := by
          rw [FE.cnt q hq]
          by_cases e : p ≤ q ∧ q < p + m
          · rw [if_pos e, (w.free q (hfree q e.1 e.2)).1]
          · rw [if_neg e, T.cnt q hq, if_neg (by omega), if_neg (by omega)]
        have hbq : bitV pg st xs q = bitV pg st zs q := by
          rw [FE.bit q hq]
          by_cases e : p ≤ q ∧ q < p + m
          · rw [if_pos e, (w.free q (hfree q e.1 e.2)).2]
          · rw [if_neg e, T.bit q hq, if_neg e]
        rcases hi with rfl | rfl | rfl
        · exact hkq
        · exact hcq
        · exact hbq
      · have hno : ∀ q, isPage pg q = true → i ≠ kA pg st q ∧ i ≠ cA pg st q ∧ i ≠ bA pg st q := fun q hq => ⟨fun e => hpq ⟨q, hq, .inl e⟩, fun e => hpq ⟨q, hq, .inr (.inl e)⟩, fun e => hpq ⟨q, hq, .inr (.inr e)⟩⟩
        rw [FE.off i h0 hno, T.off i h0 hno ho]
  · have tv : takeV pg st p m k zs = (false, zs) := by unfold takeV; rw [if_neg hv]
    rw [tv] at e2 A2
    simp only at e2 A2
    obtain ⟨D3, e3, A3⟩ := at_flat (flat_used H) hz A2
    refine ⟨D3, ?_, A3.inv, by rw [A3.eq]; exact Tab.refl _ _ _⟩
    unfold blawP
    rw [bindP_ok e1, bindP_ok e2, if_neg (by simp), bindP_ok e3]
    show Res.ok (decide (usedV pg st zs = usedV pg st zs)) D3 = _
    simp
end Go.Proofs.Ytcjnkadmiflgaaa
