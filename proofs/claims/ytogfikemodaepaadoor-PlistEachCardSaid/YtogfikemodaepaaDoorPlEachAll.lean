/-
  PlistEach's program over words: each page is found in just the list that it is in.
-/
import Derived.Test.YtogfikemodaepaaDoorPlSem
import Derived.Test.YtogfikemodaepaaDoorPrgAll
import Derived.Test.YtogfikemodaepaaDoorPlClF
import Derived.Test.YtogfikemodaepaaDoorPlRun
namespace Go.Proofs.YtogfikemodaepaaDoor
open Go.RowKit Go.Sort Go.Maps Go.Shelf
set_option linter.unusedVariables false
set_option linter.unusedSimpArgs false
set_option linter.unusedSectionVars false

/-- Each page of a list is marked, as long as it may be. -/
def markV (x : Int) : List Int → List Int → List Int × Bool
  | [], fd => (fd, true)
  | p :: l, fd => if p < 0 ∨ (fd.length : Int) ≤ p ∨ wAt fd p ≠ 0 then (fd, false) else markV x l (fd.set p.toNat x)
def fstE (first : Int) (all : List Int) : Int := if first < 0 ∧ 0 < all.length then all.getD 0 0 else first
def eachFP (pg st q : Int) : Nat → Int → Int → List Int → Prg (Int × List Int × Bool)
  | 0, _, first, fd => pureP (first, fd, true)
  | m + 1, f, first, fd => bindP (plListP pg st q f) fun all => if (markV (100 * q + f) all fd).2 then eachFP pg st q m (f + 1) (fstE first all) (markV (100 * q + f) all fd).1 else pureP (first, (markV (100 * q + f) all fd).1, false)
def eachQP (pg st : Int) : Nat → Int → Bool → List Int → Prg (List Int × Bool)
  | 0, _, r, fd => pureP (fd, r)
  | m + 1, q, r, fd => bindP (eachFP pg st q (slotsC q).toNat 1 (-1) fd) fun x => if x.2.2 then (if r then bindP (plFirstN pg st q (slotsC q).toNat 1) (fun y => eachQP pg st m (q + 1) (y == x.1) x.2.1) else eachQP pg st m (q + 1) false x.2.1) else pureP (x.2.1, false)
theorem sound_eachF (pg st q : Int) (m : Nat) : ∀ f first fd, Sound (eachFP pg st q m f first fd) := by
  induction m with
  | zero => intro f a b; exact sound_pure _
  | succ m ih => intro f a b; exact sound_bind (sound_plList _ _ _ _) (fun _ => sound_ite (ih _ _ _) (sound_pure _))
theorem sound_eachQ (pg st : Int) (m : Nat) : ∀ q r fd, Sound (eachQP pg st m q r fd) := by
  induction m with
  | zero => intro q r b; exact sound_pure _
  | succ m ih => intro q r b; exact sound_bind (sound_eachF _ _ _ _ _ _ _) (fun _ => sound_ite (sound_ite (sound_bind (sound_plFirstN _ _ _ _ _) (fun _ => ih _ _ _)) (ih _ _ _)) (sound_pure _))
theorem mark_len (x : Int) (l : List Int) : ∀ fd, (markV x l fd).1.length = fd.length := by
  induction l with
  | nil => intro fd; rfl
  | cons p l ih =>
    intro fd
    show (if _ then (fd, false) else markV x l (fd.set p.toNat x)).1.length = _
    split
    · rfl
    · rw [ih, List.length_set]
section
variable {pg st : Int} {n : Nat} (H : HdIn pg st n)
include H
theorem good_eachF (q : Int) (m : Nat) : ∀ f first fd, Good n (fun x : Int × List Int × Bool => x.2.1.length = fd.length) (eachFP pg st q m f first fd) := by
  induction m with
  | zero => intro f a b; exact good_pure n rfl
  | succ m ih => intro f a b; exact good_bind (good_plList H _ _) (fun _ _ => good_ite (fun _ => good_imp (ih _ _ _) (fun x hx => hx.trans (mark_len _ _ _))) (fun _ => good_pure n (mark_len _ _ _)))
theorem good_eachQ (m : Nat) : ∀ q r fd, Good n (fun x : List Int × Bool => x.1.length = fd.length) (eachQP pg st m q r fd) := by
  induction m with
  | zero => intro q r b; exact good_pure n rfl
  | succ m ih => intro q r b; exact good_bind (good_eachF H _ _ _ _ _) (fun x hx => good_ite (fun _ => good_ite (fun _ => good_bind (good_plFirstN H _ _ _) (fun _ _ => good_imp (ih _ _ _) (fun y hy => hy.trans hx))) (fun _ => good_imp (ih _ _ _) (fun y hy => hy.trans hx))) (fun _ => good_pure n hx))
end
theorem mark_ok (x pg : Int) (l : List Int) : ∀ fd : List Int, (fd.length : Int) = pg → l.Nodup → (∀ p ∈ l, isPage pg p = true ∧ wAt fd p = 0) → (markV x l fd).2 = true ∧ ∀ p, isPage pg p = true → wAt (markV x l fd).1 p = if p ∈ l then x else wAt fd p := by
  induction l with
  | nil => intro fd _ _ _; exact ⟨rfl, fun p _ => by simp [markV]⟩
  | cons y l ih =>
    intro fd hn hd hp
    obtain ⟨y1, y2⟩ := hp y (by simp)
    have yb := isPage_iff.1 y1
    have hnd := List.nodup_cons.1 hd
    have hm : markV x (y :: l) fd = markV x l (fd.set y.toNat x) := by
      show (if _ then (fd, false) else _) = _
      rw [if_neg (by rintro (h | h | h); omega; omega; exact h y2)]
    rw [hm]
    have hset : ∀ p, isPage pg p = true → wAt (fd.set y.toNat x) p = if p = y then x else wAt fd p := fun p h => wAt_set yb.1 (isPage_iff.1 h).1 (by omega)
    obtain ⟨h1, h2⟩ := ih (fd.set y.toNat x) (by rw [List.length_set]; exact hn) hnd.2 (fun p h => by
      obtain ⟨a, b⟩ := hp p (by simp [h])
      refine ⟨a, ?_⟩
      rw [hset p a, if_neg (by rintro rfl; exact hnd.1 h)]; exact b)
    refine ⟨h1, fun p h => ?_⟩
    rw [h2 p h]
    by_cases e : p ∈ l
    · rw [if_pos e, if_pos (by simp [e])]
    · rw [if_neg e, hset p h]
      by_cases e2 : p = y
      · rw [if_pos e2, if_pos (by simp [e2])]
      · rw [if_neg e2, if_neg (by simp [e, e2])]
/-- What is marked of the lists ahead of a place. -/
structure FdI (pg : Int) (ins fd : List Int) (x : Int) : Prop where
  len : (fd.length : Int) = pg
  at' : ∀ p, isPage pg p = true → wAt fd p = if wAt ins p < x then wAt ins p else 0
theorem in_code {pg st : Int} {G : Int → List Int} {ins : List Int} (I : InL pg st G ins) {p : Int} (hp : isPage pg p = true) : wAt ins p = 0 ∨ ∃ c f, 0 ≤ c ∧ c ≤ 4 ∧ 1 ≤ f ∧ f ≤ slotsV c ∧ f ≤ 32 ∧ headV pg st c f ≠ 0 ∧ p ∈ G (headV pg st c f) ∧ wAt ins p = 100 * c + f := by
  rcases I.at' p hp with h | ⟨c, f, h0, hm, e⟩
  · exact .inl h.1
  · obtain ⟨_, a, b, c1, d⟩ := head_hd h0
    exact .inr ⟨c, f, a, b, c1, d, Int.le_trans d (slots_b c).2, h0, hm, e⟩
theorem fd_step {pg st : Int} {G : Int → List Int} {ins ws fd : List Int} (L : Ln pg st G ws) (I : InL pg st G ins) {q f : Int} (h0 : headV pg st q f ≠ 0) (F : FdI pg ins fd (100 * q + f)) :
    (markV (100 * q + f) (G (headV pg st q f)) fd).2 = true ∧ FdI pg ins (markV (100 * q + f) (G (headV pg st q f)) fd).1 (100 * q + f + 1) := by
  obtain ⟨ha, a0, a1, a2, a3⟩ := head_hd h0
  have s32 := (slots_b q).2
  have hin : ∀ p, isPage pg p = true → (p ∈ G (headV pg st q f) ↔ wAt ins p = 100 * q + f) := fun p hp => by
    constructor
    · intro hm
      rcases I.at' p hp with h | ⟨c, g, hc, hm2, e⟩
      · exact absurd hm (h.2 _ ha)
      · have := L.apart _ _ p ha (head_hd hc).1 hm hm2
        obtain ⟨rfl, rfl⟩ := head_inj h0 this
        exact e
    · intro e
      rcases in_code I hp with h | ⟨c, g, b0, b1, b2, b3, b4, hc, hm, e2⟩
      · omega
      · have hcq : c = q := by omega
        subst hcq
        have hgf : g = f := by omega
        subst hgf
        exact hm
  obtain ⟨h1, h2⟩ := mark_ok (100 * q + f) pg (G (headV pg st q f)) fd F.len (L.nodup _ ha) (fun p hm => by
    have hp := L.page _ ha p hm
    refine ⟨hp, ?_⟩
    rw [F.at' p hp, if_neg (by have := (hin p hp).1 hm; omega)])
  refine ⟨h1, ⟨by rw [mark_len]; exact F.len, fun p hp => ?_⟩⟩
  rw [h2 p hp, F.at' p hp]
  by_cases e : p ∈ G (headV pg st q f)
  · have := (hin p hp).1 e
    rw [if_pos e, if_pos (by omega), this]
  · have : wAt ins p ≠ 100 * q + f := fun x => e ((hin p hp).2 x)
    rw [if_neg e]
    by_cases c : wAt ins p < 100 * q + f
    · rw [if_pos c, if_pos (by omega)]
    · rw [if_neg c, if_neg (by omega)]
theorem fst_at {pg st : Int} {n : Nat} (H : HdIn pg st n) {G : Int → List Int} {ws : List Int} (L : Ln pg st G ws) {q f : Int} (h0 : headV pg st q f ≠ 0) : plLeadV pg (headV pg st q f) ws = fst1 (G (headV pg st q f)) := by
  have ha := (head_hd h0).1
  exact lead_hd H (by have := (hd_b H ha).1; omega) (L.head _ ha) (L.page _ ha)
theorem thr_iffE {pg st : Int} {n : Nat} (H : HdIn pg st n) (q f : Int) : (0 ≤ q ∧ q ≤ 4 ∧ 1 ≤ f ∧ f ≤ slotsV q) ↔ headV pg st q f ≠ 0 := by
  constructor
  · intro h
    have hp : 0 < headsV st pg := by
      have := H.st1; have := H.pg1
      unfold headsV tableV chunksV; omega
    unfold headV
    rw [if_pos h]
    have : 0 ≤ aheadV q := by unfold aheadV; (repeat' split) <;> omega
    omega
  · intro h
    exact (head_hd h).2
theorem eachF_true {pg st : Int} {zs : List Int} (H : HdIn pg st zs.length) (hz : OkW zs) {G : Int → List Int} {ins : List Int} (L : Ln pg st G zs) (I : InL pg st G ins) {q : Int} (hq : 0 ≤ q ∧ q ≤ 4) (m : Nat) :
    ∀ (f first : Int) (fd : List Int) (D : List KV), 1 ≤ f → f + m = slotsC q + 1 → FdI pg ins fd (100 * q + f) → OnW zs D zs → (first = -1 ∨ 0 ≤ first) → ∃ D' fd', eachFP pg st q m f first fd (allK zs) D = .ok (if first = -1 then plFirstV pg st q m f zs else first, fd', true) D' ∧ OnW zs D' zs ∧ FdI pg ins fd' (100 * q + slotsC q + 1) := by
  induction m with
  | zero =>
    intro f first fd D h1 h2 F A hf
    refine ⟨D, fd, ?_, A, by rw [show 100 * q + slotsC q + 1 = 100 * q + f by omega]; exact F⟩
    show Res.ok (first, fd, true) D = _
    by_cases e : first = -1
    · rw [if_pos e, e]; rfl
    · rw [if_neg e]
  | succ m ih =>
    intro f first fd D h1 h2 F A hf
    have hs := slotsC_eq hq
    have h0 : headV pg st q f ≠ 0 := (thr_iffE H q f).1 ⟨hq.1, hq.2, h1, by omega⟩
    obtain ⟨D1, e1, A1⟩ := at_flat (flat_plList H q f) hz A
    have e1 : plListP pg st q f (allK zs) D = .ok (plListV pg st q f zs) D1 := e1
    have A1 : OnW zs D1 zs := A1
    have hl : plListV pg st q f zs = G (headV pg st q f) := by rw [list_is H L, if_neg h0]
    rw [hl] at e1
    obtain ⟨m1, m2⟩ := fd_step L I h0 F
    have hfst := fst_at H L h0
    have hpg := L.page _ (head_hd h0).1
    have hlead : plFirstV pg st q (m + 1) f zs = if fst1 (G (headV pg st q f)) = -1 then plFirstV pg st q m (f + 1) zs else fst1 (G (headV pg st q f)) := by
      show (if plLeadV pg (headV pg st q f) zs = -1 then _ else plLeadV pg (headV pg st q f) zs) = _
      rw [hfst]
    generalize G (headV pg st q f) = all at e1 m1 m2 hpg hlead
    have hnext : (fstE first all = -1 ∨ 0 ≤ fstE first all) ∧ (if first = -1 then plFirstV pg st q (m + 1) f zs else first) = (if fstE first all = -1 then plFirstV pg st q m (f + 1) zs else fstE first all) := by
      rw [hlead]
      unfold fstE
      match all, hpg with
      | [], _ => simp [fst1]; omega
      | x :: l, hp =>
        have hx := (isPage_iff.1 (hp x (by simp))).1
        simp only [fst1, List.length_cons, List.getD_cons_zero]
        by_cases e : first = -1
        · subst e
          rw [show (if (-1 : Int) < 0 ∧ 0 < l.length + 1 then x else -1) = x from if_pos ⟨by omega, by omega⟩]
          exact ⟨.inr hx, by rw [if_pos rfl]; rfl⟩
        · rw [show (if first < 0 ∧ 0 < l.length + 1 then x else first) = first from if_neg (by omega)]
          exact ⟨hf, by rw [if_neg e, if_neg e]⟩
    obtain ⟨D2, fd2, e2, A2, F2⟩ := ih (f + 1) (fstE first all) (markV (100 * q + f) all fd).1 D1 (by omega) (by omega) (by rw [show 100 * q + (f + 1) = 100 * q + f + 1 by omega]; exact m2) A1 hnext.1
    refine ⟨D2, fd2, ?_, A2, F2⟩
    show bindP (plListP pg st q f) _ (allK zs) D = _
    rw [bindP_ok e1, if_pos m1, e2, hnext.2]
theorem eachQ_true {pg st : Int} {zs : List Int} (H : HdIn pg st zs.length) (hz : OkW zs) {G : Int → List Int} {ins : List Int} (L : Ln pg st G zs) (I : InL pg st G ins) (m : Nat) :
    ∀ (q : Int) (fd : List Int) (D : List KV), 0 ≤ q → q + m = 5 → FdI pg ins fd (100 * q + 1) → OnW zs D zs → ∃ D' fd', eachQP pg st m q true fd (allK zs) D = .ok (fd', true) D' ∧ OnW zs D' zs ∧ FdI pg ins fd' 501 := by
  induction m with
  | zero =>
    intro q fd D h0 h1 F A
    exact ⟨D, fd, rfl, A, by rw [show (501 : Int) = 100 * q + 1 by omega]; exact F⟩
  | succ m ih =>
    intro q fd D h0 h1 F A
    have hq : 0 ≤ q ∧ q ≤ 4 := by omega
    have hs := slotsC_b q
    obtain ⟨D1, fd1, e1, A1, F1⟩ := eachF_true H hz L I hq (slotsC q).toNat 1 (-1) fd D (by omega) (by omega) F A (.inl rfl)
    rw [if_pos rfl] at e1
    obtain ⟨D2, e2, A2⟩ := at_flat (flat_plFirstN H q (slotsC q).toNat 1) hz A1
    have e2 : plFirstN pg st q (slotsC q).toNat 1 (allK zs) D1 = .ok (plFirstV pg st q (slotsC q).toNat 1 zs) D2 := e2
    have A2 : OnW zs D2 zs := A2
    have F2 : FdI pg ins fd1 (100 * (q + 1) + 1) := ⟨F1.len, fun p hp => by
      rw [F1.at' p hp]
      rcases in_code I hp with h | ⟨c, f, b0, b1, b2, b3, b4, _, _, e⟩
      · rw [h]; (repeat' split) <;> rfl
      · have hsv := slotsC_eq ⟨b0, b1⟩
        by_cases x : wAt ins p < 100 * q + slotsC q + 1
        · rw [if_pos x, if_pos (by omega)]
        · rw [if_neg x, if_neg (fun y => x (by
            have : c ≤ q := by omega
            by_cases ec : c = q
            · subst ec; omega
            · omega))]⟩
    obtain ⟨D3, fd3, e3, A3, F3⟩ := ih (q + 1) fd1 D2 (by omega) (by omega) F2 A2
    refine ⟨D3, fd3, ?_, A3, F3⟩
    show bindP (eachFP pg st q (slotsC q).toNat 1 (-1) fd) _ (allK zs) D = _
    rw [bindP_ok e1]
    show bindP (plFirstN pg st q (slotsC q).toNat 1) _ (allK zs) D1 = _
    rw [bindP_ok e2]
    show eachQP pg st m (q + 1) (plFirstV pg st q (slotsC q).toNat 1 zs == plFirstV pg st q (slotsC q).toNat 1 zs) fd1 (allK zs) D2 = _
    rw [show (plFirstV pg st q (slotsC q).toNat 1 zs == plFirstV pg st q (slotsC q).toNat 1 zs) = true by simp]
    exact e3
theorem each_true {pg st : Int} {zs : List Int} (H : HdIn pg st zs.length) (hz : OkW zs) {G : Int → List Int} {ins : List Int} (L : Ln pg st G zs) (I : InL pg st G ins) : ∃ D, eachQP pg st 5 0 true (zeros pg.toNat) (allK zs) [] = .ok (ins, true) D ∧ OnW zs D zs := by
  have hpg : (pg.toNat : Int) = pg := by have := H.pg1; omega
  obtain ⟨D, fd, e, A, F⟩ := eachQ_true H hz L I 5 0 (zeros pg.toNat) [] (by omega) (by omega) ⟨by rw [zeros_len]; exact hpg, fun p hp => by
    have hz0 : wAt (zeros pg.toNat) p = 0 := by
      unfold wAt zeros
      by_cases h : p.toNat < pg.toNat
      · simp [h]
      · simp [h]
    rw [hz0]
    rcases in_code I hp with h | ⟨c, f, b0, b1, b2, b3, b4, _, _, e⟩
    · rw [h]; split <;> rfl
    · rw [if_neg (by omega)]⟩ (OnW.start zs)
  refine ⟨D, ?_, A⟩
  have : fd = ins := words_ext (by have := F.len; have := I.len; omega) (fun i h0 h1 => by
    have hp : isPage pg i = true := isPage_iff.2 ⟨h0, by have := F.len; omega⟩
    rw [F.at' i hp]
    rcases in_code I hp with h | ⟨c, f, b0, b1, b2, b3, b4, _, _, e⟩
    · rw [h]; rfl
    · rw [if_pos (by omega)])
  rw [e, this]
end Go.Proofs.YtogfikemodaepaaDoor

namespace Go.Proofs.YtogfikemodaepaaDoor
open Go.RowKit Go.Sort Go.Maps Go.Shelf
set_option linter.unusedVariables false
set_option linter.unusedSimpArgs false
set_option linter.unusedSectionVars false

structure EaK (c : Cfg) (g1 g4 gj cj bt m : Nat) (w : World) : Prop where
  h1 : w.heap[g1]? = some (.cells #[.slice (some ⟨gj, 0, none⟩) m cj] 34 (0, 0))
  h4 : w.heap[g4]? = some (.cells c.arr 28 (0, 0))
  sz : SzAt bt w
def EaB (g1 g4 bt k : Nat) : Prop := k = g1 ∨ k = g4 ∨ k = 0 ∨ k = bt
theorem EaK.keep {c : Cfg} {g1 g4 gj cj bt m : Nat} {S : Nat → Prop} {w w' : World} (h : EaK c g1 g4 gj cj bt m w) (t : Turned S w w') (n : ∀ k, EaB g1 g4 bt k → ¬ S k) : EaK c g1 g4 gj cj bt m w' :=
  ⟨(t.block _ (lt_of_heap h.h1) (n _ (.inl rfl))).trans h.h1, (t.block _ (lt_of_heap h.h4) (n _ (.inr (.inl rfl)))).trans h.h4, h.sz.keep t (n _ (.inr (.inr (.inl rfl)))) (n _ (.inr (.inr (.inr rfl))))⟩
theorem EaK.lt {c : Cfg} {g1 g4 gj cj bt m : Nat} {w : World} (h : EaK c g1 g4 gj cj bt m w) {k : Nat} (hk : EaB g1 g4 bt k) : k < w.heap.size := by
  rcases hk with rfl | rfl | rfl | rfl
  · exact lt_of_heap h.h1
  · exact lt_of_heap h.h4
  · exact h.sz.lt0
  · exact h.sz.lt
structure EaY (c : Cfg) (g1 g2 g3 g4 gj cj bt m : Nat) (w : World) : Prop where
  k : EaK c g1 g4 gj cj bt m w
  h2 : ∃ v, w.heap[g2]? = some (.cells #[v] 34 (0, 0))
  h3 : ∃ r, BoxB g3 w r
/-- On the way: the row of what was found, and whether all was right. -/
structure EaI (g2 g3 m gi ci : Nat) (W0 : World) (F : Nat → Prop) (p : Nat) (kn : Int → Option Int) (n : Nat) (D : List KV) (F' : Nat → Prop) (fd : List Int) (r : Bool) (w : World) : Prop where
  mid : MidV W0 w F (fun b => b = g2 ∨ b = g3) p kn n D F'
  h2 : w.heap[g2]? = some (.cells #[.slice (some ⟨gi, 0, none⟩) m ci] 34 (0, 0))
  h3 : BoxB g3 w r
  row : Ws w gi ci fd
  off : ¬ F' gi
  new : W0.heap.size ≤ gi
  il : fd.length = m
theorem Ws.keepO {F : Nat → Prop} {w w' : World} {g cap : Nat} {zs : List Int} (h : Ws w g cap zs) (hk : ∀ b o, ¬ F b → w.heap[b]? = some o → w'.heap[b]? = some o) (hs : ¬ F g) : Ws w' g cap zs := by
  obtain ⟨cur, h1, h2⟩ := h
  exact ⟨cur, hk _ _ hs h1, h2⟩
namespace EaI
variable {g2 g3 m gi ci : Nat} {W0 w w' : World} {F F' F1 : Nat → Prop} {p n : Nat} {kn : Int → Option Int} {D D1 : List KV} {fd : List Int} {r : Bool}
theorem more (h : EaI g2 g3 m gi ci W0 F p kn n D F' fd r w) (t : More w w') : EaI g2 g3 m gi ci W0 F p kn n D F' fd r w' :=
  { h with mid := h.mid.more t, h2 := t.block h.h2, h3 := t.block h.h3, row := h.row.more t }
theorem on (h : EaI g2 g3 m gi ci W0 F p kn n D F' fd r w) (mid : MidV W0 w' F (fun b => b = g2 ∨ b = g3) p kn n D1 F1) (hk : ∀ b o, ¬ F' b → w.heap[b]? = some o → w'.heap[b]? = some o) (hf : ∀ b, F1 b → F' b ∨ w.heap.size ≤ b) (n2 : ¬ F' g2) (n3 : ¬ F' g3) : EaI g2 g3 m gi ci W0 F p kn n D1 F1 fd r w' := by
  have off : ¬ F1 gi := fun q => by
    rcases hf _ q with z | z
    · exact h.off z
    · have := h.row.lt; omega
  exact { h with mid := mid, h2 := hk _ _ n2 h.h2, h3 := hk _ _ n3 h.h3, row := h.row.keepO hk h.off, off := off }
theorem noted {ys : List Int} (h : EaI g2 g3 m gi ci W0 F p kn n D F' fd r w) (l2 : g2 < W0.heap.size) (l3 : g3 < W0.heap.size) (hr : Ws w' gi ci ys) (t : Turned (fun b => b = gi) w w') (hl : ys.length = fd.length) : EaI g2 g3 m gi ci W0 F p kn n D F' ys r w' := by
  have en := h.new
  obtain ⟨cur, hg, _⟩ := h.row
  exact { h with mid := ⟨h.mid.view.keepS t (fun k q e => h.off (e ▸ q)) (fun k es cl e q => by rw [e, hg] at q; cases q), h.mid.from', turned_own h.mid.turn t (fun k q => .inr (by omega)), h.mid.inv⟩, h2 := (t.block _ (lt_of_heap h.h2) (by omega)).trans h.h2, h3 := (t.block _ (lt_of_heap h.h3) (by omega)).trans h.h3, row := hr, il := hl.trans h.il }
theorem right (h : EaI g2 g3 m gi ci W0 F p kn n D F' fd r w) (ne : g2 ≠ g3) (l3 : g3 < W0.heap.size) (n3 : ¬ F' g3) (x : Bool) : EaI g2 g3 m gi ci W0 F p kn n D F' fd x (w.setCell ⟨g3, 0, none⟩ (.bool x)) := by
  have en := h.new
  have t : Turned (fun b => b = g3) w (w.setCell ⟨g3, 0, none⟩ (.bool x)) := Turned.setCell (Turned.refl _ w) _ _ (fun _ => rfl)
  exact { h with mid := h.mid.box (fun _ => .inr rfl) n3 _ h.h3, h2 := set_oth h.h2 ne, h3 := boxB_set h.h3 x, row := h.row.keep t (by omega) }
end EaI
/-- The end of a round of classes. -/
def eaQ (pg st : Int) (k : Nat) (q : Int) (r : Bool) (x : Int × List Int × Bool) : Prg (List Int × Bool) := if x.2.2 then (if r then bindP (plFirstN pg st q (slotsC q).toNat 1) (fun y => eachQP pg st k (q + 1) (y == x.1) x.2.1) else eachQP pg st k (q + 1) false x.2.1) else pureP (x.2.1, false)
theorem mark_more {x P : Int} {l fd : List Int} (h : (markV x (P :: l) fd).2 = true) : 0 ≤ P ∧ P < fd.length ∧ wAt fd P = 0 ∧ markV x (P :: l) fd = markV x l (fd.set P.toNat x) := by
  by_cases e : P < 0 ∨ (fd.length : Int) ≤ P ∨ wAt fd P ≠ 0
  · have : markV x (P :: l) fd = (fd, false) := if_pos e
    rw [this] at h; cases h
  · refine ⟨by omega, by omega, ?_, if_neg e⟩
    exact Classical.byContradiction fun q => e (.inr (.inr q))
set_option maxRecDepth 100000 in
set_option maxHeartbeats 8000000 in
theorem ea_clo {c : Cfg} (R : c.Ok) {n : Nat} (H : HdIn c.pg c.st n) (hn : n ≤ 10000) (F : Nat → Prop) (p g1 g2 g3 g4 gj cj bt m : Nat) (hm : m = c.pg.toNat) (kn : Int → Option Int) (insF : List Int) (W0 : World) (hv : ViewAt W0 F p kn []) (hk : OkK kn) (hY : EaY c g1 g2 g3 g4 gj cj bt m W0) (nF : ∀ k, EaB g1 g4 bt k → ¬ F k) (n2 : ¬ F g2) (n3 : ¬ F g3) (nE : ∀ k, EaB g1 g4 bt k → k ≠ g2 ∧ k ≠ g3) (ne : g2 ≠ g3)
    (ht : ∀ x D, eachQP c.pg c.st 5 0 true (zeros m) kn [] = .ok x D → x = (insF, true)) :
    Calls Tryd.prog 20 #[.pointer (some ⟨p, 0, none⟩), .pointer (some ⟨g1, 0, none⟩), .pointer (some ⟨g2, 0, none⟩), .pointer (some ⟨g3, 0, none⟩), .pointer (some ⟨g4, 0, none⟩)] W0 (WentY W0 F (fun b => b = g2 ∨ b = g3) (fun w' => EaY c g1 g2 g3 g4 gj cj bt m w') (fun w' => PaX g2 insF W0.heap.size w' ∧ BoxB g3 w' true) p kn (ranOf (eachQP c.pg c.st 5 0 true (zeros m) kn []))) := by
  obtain ⟨Rr, hR⟩ : ∃ Rr, eachQP c.pg c.st 5 0 true (zeros m) kn [] = Rr := ⟨_, rfl⟩
  rw [hR] at ht ⊢
  obtain ⟨hK, ⟨v0, h2⟩, b0, h3⟩ := hY
  have l2 := lt_of_heap h2
  have l3 := lt_of_heap h3
  have pg1 := R.pg1
  have pg2 := R.pg2
  have hmk := fun w => run_make_where m (m : Int) rfl (by omega) w
  have c1 := (box_cells hK.h1).1
  obtain ⟨w1, e1, hr1, m1, s1⟩ := entry1 W0 (.cells (rowOf (zeros m)) 3)
  obtain ⟨c2', f2', l2'⟩ := box_cells (m1.block h2)
  obtain ⟨w2, e2⟩ : ∃ w2, w1.setCell ⟨g2, 0, none⟩ (.slice (some ⟨W0.heap.size, 0, none⟩) m m) = w2 := ⟨_, rfl⟩
  have b2 : w2.heap[g2]? = some (.cells #[.slice (some ⟨W0.heap.size, 0, none⟩) m m] 34 (0, 0)) := by rw [← e2]; exact setCell_one (m1.block h2) _
  have t2 : Turned (fun b => b = g2) w1 w2 := by rw [← e2]; exact Turned.setCell (Turned.refl _ w1) _ _ (fun _ => rfl)
  have M2 : MidV W0 w2 F (fun b => b = g2 ∨ b = g3) p kn n [] F := by
    rw [← e2]
    exact MidV.box (S := fun b => b = g2 ∨ b = g3) ((MidV.begin hv (invD_nil n)).more m1) (fun _ => .inl rfl) n2 _ (m1.block h2)
  have b3 : BoxB g3 w2 b0 := by rw [← e2]; exact set_oth (m1.block h3) (Ne.symm ne)
  have I2 : EaI g2 g3 m W0.heap.size m W0 F p kn n [] F (zeros m) b0 w2 := ⟨M2, b2, b3, (ws_zeros w1 m (by omega) hr1).keep t2 (by omega), fun q => by have := hv.lt _ q; omega, Nat.le_refl _, zeros_len m⟩
  obtain ⟨w3, e3⟩ : ∃ w3, w2.setCell ⟨g3, 0, none⟩ (.bool true) = w3 := ⟨_, rfl⟩
  have I3 : EaI g2 g3 m W0.heap.size m W0 F p kn n [] F (zeros m) true w3 := by rw [← e3]; exact I2.right ne l3 n3 true
  obtain ⟨c3', f3', l3'⟩ := box_cells b3
  have START := Lib.hid (And.intro I3 hR)
  have KT : Hid (∀ wr, Turned (fun b => F b ∨ (b = g2 ∨ b = g3)) W0 wr → EaK c g1 g4 gj cj bt m wr) := Lib.hid fun wr t => hK.keep t (fun k hk => by rintro (z | z | z); exact nF k hk z; exact (nE k hk).1 z; exact (nE k hk).2 z)
  have KL : Hid (∀ wr D' F', MidV W0 wr F (fun b => b = g2 ∨ b = g3) p kn n D' F' → EaK c g1 g4 gj cj bt m wr) := Lib.hid fun wr D' F' h => KT.out _ h.turn
  have NF : Hid (∀ wr D' F', MidV W0 wr F (fun b => b = g2 ∨ b = g3) p kn n D' F' → ¬ F' g2 ∧ ¬ F' g3) := Lib.hid fun wr D' F' h => ⟨h.off l2 n2, h.off l3 n3⟩
  have NB : Hid (∀ wr D' F', MidV W0 wr F (fun b => b = g2 ∨ b = g3) p kn n D' F' → ∀ k, EaB g1 g4 bt k → ¬ F' k) := Lib.hid fun wr D' F' h k hk => h.off (hK.lt hk) (nF k hk)
  have NEED : Hid (∀ a w2 v (b : Bool), Rr = .need a → DeadAt w2 p a → Turned (fun b => F b ∨ (b = g2 ∨ b = g3)) W0 w2 → w2.heap[g2]? = some (.cells #[v] 34 (0, 0)) → BoxB g3 w2 b → WentY W0 F (fun b => b = g2 ∨ b = g3) (fun w' => EaY c g1 g2 g3 g4 gj cj bt m w') (fun w' => PaX g2 insF W0.heap.size w' ∧ BoxB g3 w' true) p kn (ranOf Rr) (.panicked (endOf p)) w2) := Lib.hid fun a w2 v b e hd ht' hb hc => wy_need (ranOf_need e) hd ht' ⟨KT.out _ ht', ⟨v, hb⟩, ⟨b, hc⟩⟩
  have DONE : Hid (∀ gi ci w2 D F' fd b, Rr = .ok (fd, b) D → EaI g2 g3 m gi ci W0 F p kn n D F' fd b w2 → WentY W0 F (fun b => b = g2 ∨ b = g3) (fun w' => EaY c g1 g2 g3 g4 gj cj bt m w') (fun w' => PaX g2 insF W0.heap.size w' ∧ BoxB g3 w' true) p kn (ranOf Rr) (.returned (.tuple #[])) w2) := Lib.hid fun gi ci w2 D F' fd b e h => wy_done h.mid (ranOf_ok e) ⟨KL.out _ _ _ h.mid, ⟨_, h.h2⟩, ⟨_, h.h3⟩⟩ (by
    have e2 := ht _ D e
    simp only [Prod.mk.injEq] at e2
    obtain ⟨rfl, rfl⟩ := e2
    exact ⟨⟨gi, ci, by rw [h.il]; exact h.h2, h.row, h.new⟩, h.h3⟩)
  have HT : Hid (∀ fd D, Rr ≠ .ok (fd, false) D) := Lib.hid fun fd D e => by
    have := ht _ D e
    simp at this
  have HK := Lib.hid hk
  have HR := Lib.hid R
  have HH := Lib.hid H
  have hm2 : m ≤ 256 := by omega
  clear hv hk R H n2 n3 nF nE ht hR hK M2 t2 b2 b3 hr1 m1 h2 h3 I2 I3 hm KT
  go_enter Tryd.func20, Tryd.ntmps20
  go_wp2_with fail
  clear hmk e1 e2 e3 c1 c2' f2' l2' c3' f3' l3'
  go_loopw [6] (fun v6 wr => ∃ (q : Int) (k gi ci : Nat) (fd : List Int) (r : Bool) (D : List KV) (F' : Nat → Prop), v6 = .int .i64 q ∧ 0 ≤ q ∧ q + (k : Int) = 5 ∧ EaI g2 g3 m gi ci W0 F p kn n D F' fd r wr ∧ eachQP c.pg c.st k q r fd kn D = Rr) (fun v6 _ => (5 - intOf v6).toNat)
  case atStart => exact ⟨0, 5, _, _, _, _, _, _, rfl, by omega, by omega, START.out.1, START.out.2⟩
  case round =>
    clear START
    obtain ⟨q, k, gi, ci, fd, r, D', F', rfl, q0, hqk, MI, hrest⟩ := hrel
    replace MI := Lib.hid MI
    match k with
    | 0 =>
      have d1 : decide (q < 5) = false := by simp; omega
      have FIN := Lib.hid (DONE.out gi ci wr D' F' fd r hrest.symm MI.out)
      clear hrest
      go_wp2_with fail
      go_end0
      exact FIN.out
    | k + 1 =>
    have d1 : decide (q < 5) = true := by simp; omega
    have qq : IntKind.i64.wrap (q + 1) = q + 1 := wrap_in (by omega) (by omega)
    have hsl := slotsC_b q
    have RI := Lib.hid (show bindP (eachFP c.pg c.st q (slotsC q).toNat 1 (-1) fd) (eaQ c.pg c.st k q r) kn D' = Rr from hrest)
    clear hrest
    go_wp2_with fail
    go_loopw [7, 8] (fun v7 v8 wr => ∃ (first f : Int) (k2 : Nat) (fd : List Int) (D : List KV) (F' : Nat → Prop), v7 = .int .i64 first ∧ v8 = .int .i64 f ∧ 1 ≤ f ∧ f + (k2 : Int) = slotsC q + 1 ∧ (first = -1 ∨ 0 ≤ first) ∧ EaI g2 g3 m gi ci W0 F p kn n D F' fd r wr ∧ bindP (eachFP c.pg c.st q k2 f first fd) (eaQ c.pg c.st k q r) kn D = Rr) (fun _ v8 _ => (slotsC q + 1 - intOf v8).toNat)
    case atStart => exact ⟨-1, 1, (slotsC q).toNat, fd, D', F', rfl, rfl, by omega, by omega, .inl rfl, MI.out, RI.out⟩
    case round =>
      clear RI MI
      obtain ⟨first, f, k2, fd, D', F', rfl, rfl, f1, hfk, hfirst, MI, hrest⟩ := hrel
      replace MI := Lib.hid MI
      go_wp2_with fail
      refine (cl_slotsW q _ (KL.out _ _ _ MI.out.mid).sz.sizes).mono ?_
      rintro e w9 ⟨rfl, rfl⟩
      match k2 with
      | 0 =>
        have d2 : decide (f ≤ slotsC q) = false := by simp; omega
        have RF := Lib.hid (show eaQ c.pg c.st k q r (first, fd, true) kn D' = Rr from hrest)
        clear hrest
        cases r with
        | false =>
          have RN := Lib.hid (show eachQP c.pg c.st k (q + 1) false fd kn D' = Rr from RF.out)
          obtain ⟨cr, fr, kr⟩ := box_cells MI.out.h3
          obtain ⟨w4, e4⟩ : ∃ w4, wr.setCell ⟨g3, 0, none⟩ (.bool false) = w4 := ⟨_, rfl⟩
          have I4 := Lib.hid (show EaI g2 g3 m gi ci W0 F p kn n D' F' fd false w4 from by rw [← e4]; exact MI.out.right ne l3 (NF.out _ _ _ MI.out.mid).2 false)
          clear RF MI
          go_wp2_with fail
          go_roundw
          case rel => exact ⟨q + 1, k, gi, ci, fd, false, D', F', by go_num, by omega, by omega, I4.out, RN.out⟩
          case measure => simp [intOf]; omega
        | true =>
          have RN := Lib.hid (show bindP (plFirstN c.pg c.st q (slotsC q).toNat 1) (fun y => eachQP c.pg c.st k (q + 1) (y == first) fd) kn D' = Rr from RF.out)
          have cr := (box_cells MI.out.h3).1
          have L6 := Lib.hid (KL.out _ _ _ MI.out.mid).h4
          clear RF
          go_wp2_with (first | (refine wpList_load_row rfl 28 _ rfl _ rfl 28 _ _ _ L6.out Tryd.underlying28 rfl (by kernel_rfl) ?_) | (refine wpList_load_rowG rfl 28 _ rfl _ rfl 28 _ _ _ L6.out Tryd.underlying28 rfl (by kernel_rfl) ?_))
          refine (pl_First HR.out HH.out F' p kn D' q _ MI.out.mid.view HK.out MI.out.mid.inv bt (KL.out _ _ _ MI.out.mid).sz (NB.out _ _ _ MI.out.mid 0 (.inr (.inr (.inl rfl)))) (NB.out _ _ _ MI.out.mid bt (.inr (.inr (.inr rfl))))).mono ?_
          intro e w3 he
          rcases MI.out.mid.step (More.refl _) HK.out (good_plFirstN HH.out q (slotsC q).toNat 1) he with ⟨a', hE, rfl, hd', ht', hk'⟩ | ⟨x3, D3, F3, hE, rfl, M3, hq3, hk', hf'⟩
          · exact ⟨rfl, NEED.out a' w3 _ _ (RN.out.symm.trans (bindP_need hE)) hd' ht' (hk' _ _ (NF.out _ _ _ MI.out.mid).1 MI.out.h2) (hk' _ _ (NF.out _ _ _ MI.out.mid).2 MI.out.h3)⟩
          have I3 := Lib.hid (MI.out.on M3 hk' hf' (NF.out _ _ _ MI.out.mid).1 (NF.out _ _ _ MI.out.mid).2)
          have R3 := Lib.hid ((bindP_ok hE).symm.trans RN.out)
          obtain ⟨bb, hbb⟩ : ∃ bb, (x3 == first) = bb := ⟨_, rfl⟩
          have R3' := Lib.hid (show eachQP c.pg c.st k (q + 1) bb fd kn D3 = Rr from by rw [← hbb]; exact R3.out)
          obtain ⟨cr3, fr3, kr3⟩ := box_cells I3.out.h3
          obtain ⟨w4, e4⟩ : ∃ w4, w3.setCell ⟨g3, 0, none⟩ (.bool bb) = w4 := ⟨_, rfl⟩
          have I4 := Lib.hid (show EaI g2 g3 m gi ci W0 F p kn n D3 F3 fd bb w4 from by rw [← e4]; exact I3.out.right ne l3 (NF.out _ _ _ I3.out.mid).2 bb)
          clear RN R3 MI I3 he hE hk' hf' cr L6 hq3 M3
          go_wp2_with fail
          go_roundw
          case rel => exact ⟨q + 1, k, gi, ci, fd, bb, D3, F3, by go_num, by omega, by omega, I4.out, R3'.out⟩
          case measure => simp [intOf]; omega
      | k2 + 1 =>
        have d2 : decide (f ≤ slotsC q) = true := by simp; omega
        have L6 := Lib.hid (KL.out _ _ _ MI.out.mid).h4
        have RI := Lib.hid (show bindP (plListP c.pg c.st q f) (fun all => bindP (if (markV (100 * q + f) all fd).2 then eachFP c.pg c.st q k2 (f + 1) (fstE first all) (markV (100 * q + f) all fd).1 else pureP (first, (markV (100 * q + f) all fd).1, false)) (eaQ c.pg c.st k q r)) kn D' = Rr from by
          have h := hrest
          unfold eachFP at h
          rw [bindP_assoc] at h
          exact h)
        clear hrest
        go_wp2_with (first | (refine wpList_load_row rfl 28 _ rfl _ rfl 28 _ _ _ L6.out Tryd.underlying28 rfl (by kernel_rfl) ?_) | (refine wpList_load_rowG rfl 28 _ rfl _ rfl 28 _ _ _ L6.out Tryd.underlying28 rfl (by kernel_rfl) ?_))
        refine (pl_List HR.out HH.out F' p kn D' q f _ MI.out.mid.view HK.out MI.out.mid.inv).mono ?_
        intro e w2 he
        rcases MI.out.mid.stepR (More.refl _) HK.out (good_plList HH.out _ _) he with ⟨a', hE, rfl, hd', ht', hk'⟩ | ⟨avs, D2, F2, va, hE, rfl, hp2, M2, hq2, hk', hf'⟩
        · exact ⟨rfl, NEED.out a' w2 _ _ (RI.out.symm.trans (bindP_need hE)) hd' ht' (hk' _ _ (NF.out _ _ _ MI.out.mid).1 MI.out.h2) (hk' _ _ (NF.out _ _ _ MI.out.mid).2 MI.out.h3)⟩
        have hp2 : OwnR wr.heap.size F2 w2 va avs := hp2
        have hws : W0.heap.size ≤ wr.heap.size := MI.out.mid.size
        generalize hbase : wr.heap.size = base at hp2 hws
        have I2 := Lib.hid (MI.out.on M2 hk' hf' (NF.out _ _ _ MI.out.mid).1 (NF.out _ _ _ MI.out.mid).2)
        have hgb : gi < base := by rw [← hbase]; exact MI.out.row.lt
        have R2 := Lib.hid ((bindP_ok hE).symm.trans RI.out)
        have HPG := Lib.hid hq2.1
        have hal : avs.length ≤ 256 := hq2.2
        have hmk : (markV (100 * q + f) avs fd).2 = true := by
          cases e : (markV (100 * q + f) avs fd).2 with
          | true => rfl
          | false =>
            have h : bindP (if (markV (100 * q + f) avs fd).2 then eachFP c.pg c.st q k2 (f + 1) (fstE first avs) (markV (100 * q + f) avs fd).1 else pureP (first, (markV (100 * q + f) avs fd).1, false)) (eaQ c.pg c.st k q r) kn D2 = Rr := R2.out
            rw [e] at h
            exact absurd h.symm (HT.out (markV (100 * q + f) avs fd).1 D2)
        have R3 := Lib.hid (show bindP (eachFP c.pg c.st q k2 (f + 1) (fstE first avs) (markV (100 * q + f) avs fd).1) (eaQ c.pg c.st k q r) kn D2 = Rr from by
          have h : bindP (if (markV (100 * q + f) avs fd).2 then eachFP c.pg c.st q k2 (f + 1) (fstE first avs) (markV (100 * q + f) avs fd).1 else pureP (first, (markV (100 * q + f) avs fd).1, false)) (eaQ c.pg c.st k q r) kn D2 = Rr := R2.out
          rw [if_pos hmk] at h
          exact h)
        have HP2 := Lib.hid hp2
        have HMK := Lib.hid hmk
        obtain ⟨a1, c1, rfl, _⟩ := HP2.out.1.reads
        have qf : IntKind.i64.wrap (f + 1) = f + 1 := wrap_in (by omega) (by omega)
        have qm1 : IntKind.i64.wrap (100 * q) = 100 * q := wrap_in (by omega) (by omega)
        have qm2 : IntKind.i64.wrap (100 * q + f) = 100 * q + f := wrap_in (by omega) (by omega)
        clear R2 hmk hp2 he hE hk' hf' MI L6 M2 hq2 hbase RI
        go_wp2_with fail
        go_loopw [10] (fun v10 wr => ∃ (j : Nat) (fdj : List Int), v10 = .int .i64 (j : Int) ∧ j ≤ avs.length ∧ EaI g2 g3 m gi ci W0 F p kn n D2 F2 fdj r wr ∧ OwnR base F2 wr (.slice a1 avs.length c1) avs ∧ markV (100 * q + f) (avs.drop j) fdj = markV (100 * q + f) avs fd) (fun v10 _ => avs.length - (intOf v10).toNat)
        case atStart => exact ⟨0, fd, rfl, by omega, I2.out, HP2.out, rfl⟩
        case round =>
          clear I2 HP2
          obtain ⟨j, fdj, rfl, hj, MI, PI, hmj⟩ := hrel
          replace MI := Lib.hid MI
          replace PI := Lib.hid PI
          obtain ⟨a1', c1', e1', hrd⟩ := PI.out.1.reads
          simp only [Value.slice.injEq] at e1'
          obtain ⟨rfl, _, rfl⟩ := e1'
          have qj : IntKind.i64.wrap ((j : Int) + 1) = (j : Int) + 1 := wrap_in (by omega) (by omega)
          by_cases hlt : j < avs.length
          · have d3 : decide ((j : Int) < (avs.length : Int)) = true := by simp; omega
            obtain ⟨ga, rfl, hga, _, hcell⟩ := hrd j hlt
            have ca := hcell j hlt
            have hdr : avs.drop j = avs.getD j 0 :: avs.drop (j + 1) := by
              rw [List.drop_eq_getElem_cons hlt, List.getD_eq_getElem?_getD, List.getElem?_eq_getElem hlt]; rfl
            rw [hdr] at hmj
            have h4 := mark_more (x := 100 * q + f) (P := avs.getD j 0) (l := avs.drop (j + 1)) (fd := fdj) (by rw [hmj]; exact HMK.out)
            obtain ⟨P0, P1, P2, P3⟩ := h4
            rw [P3] at hmj
            obtain ⟨jp, hjp⟩ : ∃ jp : Nat, avs.getD j 0 = (jp : Int) := ⟨(avs.getD j 0).toNat, by omega⟩
            rw [hjp] at ca P0 P1 P2 hmj
            have hil := MI.out.il
            have hjm : jp < fdj.length := by omega
            have hjm2 : jp < m := by omega
            have x1 := MI.out.row.cell hjm
            have P2 : fdj.getD jp 0 = 0 := P2
            rw [P2] at x1
            have HMJ := Lib.hid (show markV (100 * q + f) (avs.drop (j + 1)) (fdj.set jp (100 * q + f)) = markV (100 * q + f) avs fd from hmj)
            have c2 := (box_cells MI.out.h2).1
            have d5 : decide ((jp : Int) < 0) = false := by simp
            have d6 : decide ((m : Int) ≤ (jp : Int)) = false := by simp; omega
            have hjx : (j : Int) < (avs.length : Int) := by omega
            have hjpx : (jp : Int) < (m : Int) := by omega
            clear hmj P0 P1 P2 P3 hdr hjp hcell hrd hil
            go_wp2_with fail
            refine wp_region_more (by kernel_rfl) (by kernel_rfl) ?_
            iterate 24
              with_reducible refine wpQuiet_step (fun K hK => ?_)
              go_simp
              first
              | (refine hK _ ?_; clear hK K)
              | (apply Exists.intro
                 refine ⟨fun W hW => ?_, hK _ ?_⟩
                 first
                 | (have ca' := hW.cell ca; have c2' := hW.cell c2; have x1' := hW.cell x1; go_simp; try rfl)
                 clear hK K)
            intro w5 m5
            have M5 := Lib.hid (MI.out.more m5)
            have P5 := Lib.hid (PI.out.more m5)
            have ca := m5.cell ca
            have c2 := m5.cell c2
            clear m5 x1 MI PI
            go_wp2_with fail
            refine wp_region_more_tail 10 (by kernel_rfl) (by kernel_rfl) ?_
            simp only [List.take_succ_cons, List.take_zero, List.drop_succ_cons, List.drop_zero]
            iterate 10
              with_reducible refine wpQuiet_step (fun K hK => ?_)
              go_simp
              first
              | (refine hK _ ?_; clear hK K)
              | (apply Exists.intro
                 refine ⟨fun W hW => ?_, hK _ ?_⟩
                 first
                 | (have ca' := hW.cell ca; have c2' := hW.cell c2; go_simp; try rfl)
                 clear hK K)
            refine wpQuiet_nil ?_
            intro w6 m6
            have M6 := Lib.hid (M5.out.more m6)
            have P6 := Lib.hid (P5.out.more m6)
            have x6 := M6.out.row.cell hjm
            have y6 := M6.out.row.froz jp
            have z6 := M6.out.row.lt
            obtain ⟨w7, e7⟩ : ∃ w7, w6.setCell ⟨gi, jp, none⟩ (.int .i64 (100 * q + f)) = w7 := ⟨_, rfl⟩
            have r7 : Ws w7 gi ci (fdj.set jp (100 * q + f)) := by rw [← e7]; exact M6.out.row.set hjm _
            have t7 : Turned (fun b => b = gi) w6 w7 := by rw [← e7]; exact Turned.setCell (Turned.refl _ w6) _ _ (fun _ => rfl)
            have M7 := Lib.hid (M6.out.noted l2 l3 r7 t7 (by simp))
            have P7 := Lib.hid (show OwnR base F2 w7 (.slice (some ⟨ga, 0, none⟩) avs.length c1) avs from ⟨P6.out.1.keepT t7 (fun k q e => by have := (P6.out.2 k q).2.1; omega), fun k q => ⟨(P6.out.2 k q).1, (P6.out.2 k q).2.1, by have := (P6.out.2 k q).2.2; have := t7.size; omega⟩⟩)
            clear m6 ca c2 r7 t7 M5 P5 M6 P6
            go_wp2_with fail
            go_roundw
            case rel => exact ⟨j + 1, _, by go_num, by omega, M7.out, P7.out, HMJ.out⟩
            case measure => simp [intOf]; omega
          · obtain rfl : j = avs.length := by omega
            have d3 : decide ((avs.length : Int) < (avs.length : Int)) = false := by simp
            rw [List.drop_length] at hmj
            have hfd : (markV (100 * q + f) avs fd).1 = fdj := by rw [← hmj]; rfl
            have R4 := Lib.hid (show bindP (eachFP c.pg c.st q k2 (f + 1) (fstE first avs) fdj) (eaQ c.pg c.st k q r) kn D2 = Rr from by rw [← hfd]; exact R3.out)
            clear hmj hfd R3
            by_cases hf1 : first = -1
            · subst hf1
              by_cases h0 : avs.length = 0
              · have hfe : fstE (-1) avs = -1 := by unfold fstE; rw [if_neg (by omega)]
                rw [hfe] at R4
                have d8 : decide ((0 : Int) < (avs.length : Int)) = false := by simp [h0]
                have d9 : decide (0 < avs.length) = false := by simp [h0]
                clear hrd hfe h0
                go_wp2_with fail
                go_roundw
                case rel => exact ⟨-1, f + 1, k2, fdj, D2, F2, by go_num, by go_num, by omega, by omega, .inl rfl, MI.out, R4.out⟩
                case measure => simp [intOf]; omega
              · obtain ⟨ga, rfl, _, _, hcell⟩ := hrd 0 (by omega)
                have ca := hcell 0 (by omega)
                have hfe : fstE (-1) avs = avs.getD 0 0 := by unfold fstE; rw [if_pos ⟨by omega, by omega⟩]
                rw [hfe] at R4
                have hx : 0 ≤ avs.getD 0 0 := by
                  have := HPG.out (avs.getD 0 0) (by rw [List.getD_eq_getElem?_getD, List.getElem?_eq_getElem (show 0 < avs.length by omega)]; exact List.getElem_mem _)
                  exact (isPage_iff.1 this).1
                generalize avs.getD 0 0 = x0 at ca R4 hx
                have d8 : decide ((0 : Int) < (avs.length : Int)) = true := by simp; omega
                have d9 : decide (0 < avs.length) = true := by simp; omega
                have hlx : 0 < avs.length := by omega
                clear hrd hfe h0 hcell
                go_wp2_with fail
                go_roundw
                case rel => exact ⟨x0, f + 1, k2, fdj, D2, F2, by go_num, by go_num, by omega, by omega, .inr hx, MI.out, R4.out⟩
                case measure => simp [intOf]; omega
            · have d7 : decide (first < 0) = false := by simp; omega
              have hfe : fstE first avs = first := by unfold fstE; rw [if_neg (by omega)]
              rw [hfe] at R4
              clear hrd hfe
              go_wp2_with fail
              go_roundw
              case rel => exact ⟨first, f + 1, k2, fdj, D2, F2, by go_num, by go_num, by omega, by omega, hfirst, MI.out, R4.out⟩
              case measure => simp [intOf]; omega
end Go.Proofs.YtogfikemodaepaaDoor

namespace Go.Proofs.YtogfikemodaepaaDoor
open Go.RowKit Go.Sort Go.Maps Go.Shelf
set_option linter.unusedVariables false
set_option linter.unusedSimpArgs false

/-- A layout's box and a box of a row of places, as they are made and filled. -/
theorem two_boxesE (w2 : World) (d : Cfg) (gi m ci : Nat) : ∃ w3 w4 w5, (w2.alloc (.cells zero24 28)).alloc (.cells #[.slice none 0 0] 34) = w3 ∧ w3.setRow w2.heap.size d.arr = w4 ∧ w4.setCell ⟨w2.heap.size + 1, 0, none⟩ (.slice (some ⟨gi, 0, none⟩) m ci) = w5 ∧
    w3.heap[w2.heap.size]? = some (.cells zero24 28 (0, 0)) ∧ w4.heap[w2.heap.size + 1]? = some (.cells #[.slice none 0 0] 34 (0, 0)) ∧
    w5.heap[w2.heap.size]? = some (.cells d.arr 28 (0, 0)) ∧ w5.heap[w2.heap.size + 1]? = some (.cells #[.slice (some ⟨gi, 0, none⟩) m ci] 34 (0, 0)) ∧ More w2 w5 ∧ w5.heap.size = w2.heap.size + 2 := by
  refine ⟨_, _, _, rfl, rfl, rfl, ?_⟩
  have h1 := heap_new w2 (.cells zero24 28)
  have h2 := ((More.refl _).alloc (.cells #[.slice none 0 0] 34)).block h1
  have h3 := heap_new (w2.alloc (.cells zero24 28)) (.cells #[.slice none 0 0] 34)
  have s1 : (w2.alloc (.cells zero24 28)).heap.size = w2.heap.size + 1 := by simp
  rw [s1] at h3
  have h4 := (setRow_other _ w2.heap.size (w2.heap.size + 1) d.arr (by omega)).trans h3
  have h5 := setRow_heap _ _ _ d.arr _ _ h2
  have h6 := setCell_one h4 (.slice (some ⟨gi, 0, none⟩) m ci)
  have h7 := set_oth (v := .slice (some ⟨gi, 0, none⟩) m ci) (g := w2.heap.size + 1) h5 (by omega)
  refine ⟨h2, h4, h7, h6, ?_, by simp [World.setCell]⟩
  have q1 : More w2 (((w2.alloc (.cells zero24 28)).alloc (.cells #[.slice none 0 0] 34)).setRow w2.heap.size d.arr) := (((More.refl w2).alloc _).alloc _).setRow _ _ (Nat.le_refl _)
  exact Turned.setCell q1 _ _ (fun q => by simp at q; omega)

theorem ea_do {c : Cfg} (R : c.Ok) (zs : List Int) (H : HdIn c.pg c.st zs.length) (hlen : zs.length ≤ 1000) (hz : OkW zs) {G : Int → List Int} (L : Ln c.pg c.st G zs) (ins : List Int) (I : InL c.pg c.st G ins) (w : World) (g1 g2 g3 g4 gj cj bt : Nat) (a : Option Addr) (cap : Nat) (hY : EaY c g1 g2 g3 g4 gj cj bt ins.length w) (nE : ∀ k, EaB g1 g4 bt k → k ≠ g2 ∧ k ≠ g3) (ne : g2 ≠ g3) (hw : IsWords w a zs) :
    Calls Tryd.prog 9 #[.slice a zs.length cap, .func (.func 20) #[] #[.pointer (some ⟨g1, 0, none⟩), .pointer (some ⟨g2, 0, none⟩), .pointer (some ⟨g3, 0, none⟩), .pointer (some ⟨g4, 0, none⟩)]] w (fun e w' => ∃ v1 v2 b, e = .returned (.tuple #[v1, v2, .int .i64 0]) ∧ Turned (fun b => b = g2 ∨ b = g3) w w' ∧ PaX g2 ins b w' ∧ BoxB g3 w' true) := by
  have l2 : g2 < w.heap.size := by obtain ⟨x, h⟩ := hY.h2; exact lt_of_heap h
  have l3 : g3 < w.heap.size := by obtain ⟨x, h⟩ := hY.h3; exact lt_of_heap h
  have hil : ins.length = c.pg.toNat := I.len
  obtain ⟨D, hD, hO⟩ := each_true H hz L I
  rw [← hil] at hD
  obtain ⟨K', _, hK'⟩ := doP_run (sound_eachQ c.pg c.st 5 0 true (zeros ins.length)) (good_eachQ H 5 0 true (zeros ins.length)) hz hD (zs.length + 1) [] (okKn_nil _) (by simp)
  have M := doX_ok a cap zs (fun K => ranOf (eachQP c.pg c.st 5 0 true (zeros ins.length) (look K) [])) (some (applyD zs D, K')) zs.length w hw hlen hz (fine_of (good_eachQ H 5 0 true (zeros ins.length)) hz (by omega)) (by omega) hK' 20 #[.pointer (some ⟨g1, 0, none⟩), .pointer (some ⟨g2, 0, none⟩), .pointer (some ⟨g3, 0, none⟩), .pointer (some ⟨g4, 0, none⟩)] (fun b => b = g2 ∨ b = g3)
    (fun w' => EaY c g1 g2 g3 g4 gj cj bt ins.length w') (fun b w' => PaX g2 ins b w' ∧ BoxB g3 w' true)
    (fun k q => by rcases q with rfl | rfl; exact l2; exact l3)
    (fun w' w'' y t => ⟨y.k.keep t (fun k hk => by have := hY.k.lt hk; omega), by
      obtain ⟨v, h⟩ := y.h2
      exact ⟨v, (t.block g2 (lt_of_heap h) (by omega)).trans h⟩, by
      obtain ⟨v, h⟩ := y.h3
      exact ⟨v, (t.block g3 (lt_of_heap h) (by omega)).trans h⟩⟩)
    (fun b w' w'' hb x t => ⟨by
      obtain ⟨gi, ci, x1, x2, x3⟩ := x.1
      exact ⟨gi, ci, (t.block g2 (lt_of_heap x1) (by omega)).trans x1, x2.keep t (by omega), x3⟩, (t.block g3 (lt_of_heap x.2) (by omega)).trans x.2⟩) hY (enters_of Tryd.func20 (by kernel_rfl) rfl)
    (fun K hK W F p t y hv hF => ea_clo R H (by omega) F p g1 g2 g3 g4 gj cj bt ins.length hil (look K) ins W hv (okK_of hK hz) y (fun k hk q => by have := hF _ q; have := hY.k.lt hk; omega) (fun q => by have := hF _ q; omega) (fun q => by have := hF _ q; omega) nE ne (fun x D' e => (sound_same (sound_eachQ c.pg c.st 5 0 true (zeros ins.length)) hK hD e).1))
  refine M.mono ?_
  rintro e w' ⟨v1, v2, b, rfl, r1, _, t, y, hb, x⟩
  exact ⟨v1, v2, b, rfl, t, x.1, x.2⟩

set_option maxRecDepth 100000 in
set_option maxHeartbeats 4000000 in
theorem ea_walk (y0 y1 y2 y3 y4 y5 y6 y7 y8 y9 y10 : Int) (a : Option Addr) (capl : Nat) (l : List Ins4) (w : World) (hS : Sizes w) (f0 : (Lit.int .i64 y0).wf = true) (f1 : (Lit.int .i64 y1).wf = true) (f2 : (Lit.int .i64 y2).wf = true) (f3 : (Lit.int .i64 y3).wf = true) (f4 : (Lit.int .i64 y4).wf = true) (f5 : (Lit.int .i64 y5).wf = true) (f6 : (Lit.int .i64 y6).wf = true) (f7 : (Lit.int .i64 y7).wf = true) (f8 : (Lit.int .i64 y8).wf = true) (f9 : (Lit.int .i64 y9).wf = true) (f10 : (Lit.int .i64 y10).wf = true) (hl : IsIns4 w a l) (ho : OkP4 l) (hmx : l.length ≤ 9223372036854775807) :
    Calls Tryd.prog 4 #[.agg #[.int .i64 y0, .int .i64 y1, .int .i64 y2, .int .i64 y3, .int .i64 y4, .int .i64 y5, .int .i64 y6, .int .i64 y7, .int .i64 y8, .int .i64 y9, .int .i64 y10], .slice a l.length capl] w (Gives w (.bool true)) := by
  obtain ⟨bt, hsz⟩ : ∃ bt, SzAt bt w := hS
  obtain ⟨w4, e4, ha, m4, s4⟩ := entry1 w (.cells #[.int .i64 y0, .int .i64 y1, .int .i64 y2, .int .i64 y3, .int .i64 y4, .int .i64 y5, .int .i64 y6, .int .i64 y7, .int .i64 y8, .int .i64 y9, .int .i64 y10] 23)
  clear ho
  have hbt := hsz.lt
  have hb0 := hsz.lt0
  by_cases h1 : 60 < l.length
  · have d0 : decide ((60 : Int) < (l.length : Int)) = true := by simp; omega
    have M1 := Lib.hid m4
    clear ha m4 f0 f1 f2 f3 f4 f5 f6 f7 f8 f9 f10 hl s4 hsz hbt hb0
    go_enter Tryd.func4, Tryd.ntmps4
    go_wp2_with fail
    refine (lives10_ok _).mono ?_
    rintro e w18 ⟨rfl, h18⟩
    have M18 := Lib.hid (M1.out.trans h18)
    clear h18
    go_wp2_with fail
    go_ret
    exact ⟨rfl, M18.out⟩
  have d0 : decide ((60 : Int) < (l.length : Int)) = false := by simp; omega
  obtain ⟨d, n, G, zs, ins, S, hn, hlz, hz, hL, hI, AF⟩ := pa_ok y0 y1 y2 y3 y4 y5 y6 y7 y8 y9 y10 f0 f1 f2 f3 f4 f5 f6 f7 f8 f9 f10 l (by omega)
  have wds := S.words
  have H := S.hdin hn
  have hnl : n ≤ 1000 := by omega
  have hil : ins.length ≤ 1000 := by have h := hI.len; have := H.pg1; have := H.pg2; have := H.st1; have := H.top62; have : 0 ≤ chunksV d.pg := by unfold chunksV; omega
                                     have : 0 ≤ tableV d.st := by unfold tableV; omega
                                     omega
  have SS := Lib.hid S
  have HL := Lib.hid hL
  have HI := Lib.hid hI
  have HH := Lib.hid H
  have M1 := Lib.hid m4
  have HSZ := Lib.hid (hsz.more m4)
  have HA := Lib.hid ha
  have AO := Lib.hid (AF.out a capl w4 (hl.more m4))
  have HLZ := Lib.hid hlz
  have HZ := Lib.hid hz
  clear m4 ha f0 f1 f2 f3 f4 f5 f6 f7 f8 f9 f10 hl AF hz hlz H h1 S hn hL hI wds hsz
  go_enter Tryd.func4, Tryd.ntmps4
  go_wp2_with (refine wpList_load_row rfl 23 _ rfl w.heap.size rfl 23 _ _ _ HA.out Tryd.underlying23 rfl (by kernel_rfl) ?_)
  clear e4
  refine AO.out.mono ?_
  rintro e w2 ⟨gz, cz, gi, ci, rfl, hws, his, hgz, hgi, m2⟩
  obtain ⟨wa, wb, w5, ea, eb, ec, D1, E4, D5, E5, m5, s5⟩ := two_boxesE w2 d gi ins.length ci
  have hgz2 : gz < w2.heap.size := hws.lt
  have hgi2 : gi < w2.heap.size := his.lt
  have hs2 : w.heap.size + 1 ≤ w2.heap.size := by have := m2.size; omega
  have D1 := Lib.hid D1
  obtain ⟨ce, fe, ke⟩ := box_cells E4
  have mm := m2.trans m5
  have cn := (box_cells E5).1
  have hmk := fun w => run_make_where ins.length (ins.length : Int) rfl (by omega) w
  obtain ⟨w6, e6, hr6, m6, s6⟩ := entry1 w5 (.cells (rowOf (zeros ins.length)) 3)
  obtain ⟨w7, e7, hb7, m7, s7⟩ := entry1 w6 (.cells #[.slice none 0 0] 34)
  obtain ⟨c7, f7, k7⟩ := box_cells hb7
  obtain ⟨w8, e8⟩ : ∃ w8, w7.setCell ⟨w6.heap.size, 0, none⟩ (.slice (some ⟨w5.heap.size, 0, none⟩) ins.length ins.length) = w8 := ⟨_, rfl⟩
  have hb8 : w8.heap[w6.heap.size]? = some (.cells #[.slice (some ⟨w5.heap.size, 0, none⟩) ins.length ins.length] 34 (0, 0)) := by rw [← e8]; exact setCell_one hb7 _
  have m8 : More w6 w8 := by rw [← e8]; exact Turned.setCell m7 _ _ (fun q => by simp at q)
  obtain ⟨w9, e9, hb9, m9, s9⟩ := entry1 w8 (.cells #[.bool false] 4)
  obtain ⟨c9, f9, k9⟩ := box_cells hb9
  obtain ⟨w10, e10⟩ : ∃ w10, w9.setCell ⟨w8.heap.size, 0, none⟩ (.bool false) = w10 := ⟨_, rfl⟩
  have hb10 : BoxB w8.heap.size w10 false := by rw [← e10]; exact boxB_set hb9 false
  have m10 : More w8 w10 := by rw [← e10]; exact Turned.setCell m9 _ _ (fun q => by simp at q)
  have s8 : w8.heap.size = w6.heap.size + 1 := by rw [← e8]; simpa [World.setCell] using s7
  have mX := (m6.trans m8).trans m10
  have K10 : EaK d (w2.heap.size + 1) w2.heap.size gi ci bt ins.length w10 := ⟨mX.block E5, mX.block D5, (HSZ.out.more mm).more mX⟩
  have nE : ∀ k, EaB (w2.heap.size + 1) w2.heap.size bt k → k ≠ w6.heap.size ∧ k ≠ w8.heap.size := by
    rintro k (rfl | rfl | rfl | rfl) <;> omega
  have hne : w6.heap.size ≠ w8.heap.size := by omega
  have DO := ea_do SS.out.ok zs (by rw [HLZ.out]; exact HH.out) (by rw [HLZ.out]; exact hnl) HZ.out HL.out ins HI.out w10 (w2.heap.size + 1) w6.heap.size w8.heap.size w2.heap.size gi ci bt (some ⟨gz, 0, none⟩) cz ⟨K10, ⟨_, m10.block hb8⟩, ⟨_, hb10⟩⟩ nE hne ((hws.more m5).more mX).words
  rw [HLZ.out] at DO
  have DO := Lib.hid DO
  have M10 := Lib.hid (M1.out.trans (mm.trans mX))
  have K10 := Lib.hid K10
  have I10 := Lib.hid ((his.more m5).more mX)
  have NE := Lib.hid nE
  have hg6 : gi ≠ w6.heap.size ∧ gi ≠ w8.heap.size := by omega
  have hw6 : w.heap.size ≤ w6.heap.size ∧ w.heap.size ≤ w8.heap.size := by omega
  clear hws his D5 E5 E4 m2 m5 mm s4 AO HSZ hgz HA hr6 m6 hb7 m7 hb8 m8 hb9 m9 hb10 m10 mX nE M1 s5 s6 s7 s8 s9 hne hgz2
  go_wp2_with (refine wpList_store_row rfl 28 _ _ rfl w2.heap.size _ rfl rfl 28 zero24 D1.out (by kernel_rfl) rfl (arr_one d) ?_)
  refine DO.out.mono ?_
  rintro e w11 ⟨v1, v2, b, rfl, t11, ⟨gf, cf, x1, x2, x3⟩, bx⟩
  have K11 := K10.out.keep t11 (fun k hk => by rintro (z | z); exact (NE.out k hk).1 z; exact (NE.out k hk).2 z)
  have I11 := I10.out.keep t11 (by rintro (z | z); exact hg6.1 z; exact hg6.2 z)
  have M11 : Hid (More w w11) := Lib.hid (Turned.mono (turned_own (F := fun _ => False) M10.out t11 (fun b e => .inr (by omega))) (fun _ _ q => q))
  have cr := (box_cells bx).1
  have cf := (box_cells x1).1
  have ci := (box_cells K11.h1).1
  have RS := Lib.hid (rows_same ins _ _ 0 0 w11 (by omega) (x2.rw' (Nat.zero_le _)) (I11.rw' (Nat.zero_le _)))
  clear K11 I11 x1 x2 bx t11 DO K10 I10 M10 ce fe ke cn e6 e7 e8 e9 e10 ea eb ec hmk c7 f7 k7 c9 f9 k9 hg6 hw6 NE
  go_wp2_with fail
  refine RS.out.mono ?_
  rintro e w12 ⟨rfl, m12⟩
  have M12 := Lib.hid (M11.out.trans m12)
  clear m12
  go_wp2_with fail
  refine (lives10_ok _).mono ?_
  rintro e w18 ⟨rfl, h18⟩
  have M18 := Lib.hid (M12.out.trans h18)
  clear h18
  go_wp2_with fail
  go_ret
  exact ⟨rfl, M18.out⟩
end Go.Proofs.YtogfikemodaepaaDoor

