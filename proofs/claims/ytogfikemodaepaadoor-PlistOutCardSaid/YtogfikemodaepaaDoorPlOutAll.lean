/-
  PlistOut's program over words: what is linked is the first one, and what is unlinked is gone.
-/
import Derived.Test.YtogfikemodaepaaDoorPlSem
import Derived.Test.YtogfikemodaepaaDoorPrgAll
import Derived.Test.YtogfikemodaepaaDoorPlClF
import Derived.Test.YtogfikemodaepaaDoorPlRun
namespace Go.Proofs.YtogfikemodaepaaDoor
open Go.RowKit Go.Sort Go.Maps Go.Shelf
set_option linter.unusedVariables false
set_option linter.unusedSimpArgs false
set_option linter.unusedSectionVars false

/-- How many of a row are not p. -/
def cntV : List Int → Int → Nat
  | [], _ => 0
  | x :: l, p => (if x = p then 0 else 1) + cntV l p
theorem cnt_le (l : List Int) (p : Int) : cntV l p ≤ l.length := by
  induction l with
  | nil => exact Nat.le_refl _
  | cons x l ih => show (if x = p then 0 else 1) + cntV l p ≤ l.length + 1; split <;> omega
theorem cnt_app (l m : List Int) (p : Int) : cntV (l ++ m) p = cntV l p + cntV m p := by
  induction l with
  | nil => show cntV m p = 0 + cntV m p; omega
  | cons x l ih => show (if x = p then 0 else 1) + cntV (l ++ m) p = (if x = p then 0 else 1) + cntV l p + cntV m p; rw [ih]; omega
theorem cnt_off (l : List Int) (p : Int) (h : p ∉ l) : cntV l p = l.length := by
  induction l with
  | nil => rfl
  | cons x l ih =>
    have h1 : x ≠ p := fun q => h (by simp [q])
    have h2 : p ∉ l := fun q => h (by simp [q])
    show (if x = p then 0 else 1) + cntV l p = l.length + 1
    rw [if_neg h1, ih h2]; omega
theorem cnt_take (l : List Int) (p : Int) (j : Nat) (hj : j < l.length) : cntV (l.take (j + 1)) p = cntV (l.take j) p + (if l.getD j 0 = p then 0 else 1) := by
  rw [List.take_add_one, cnt_app, List.getElem?_eq_getElem hj, List.getD_eq_getElem?_getD, List.getElem?_eq_getElem hj]
  rfl
def thrB (q f : Int) : Bool := decide (0 < slotsC q) && (decide (1 ≤ f) && decide (f ≤ slotsC q))
def outB (was rest : List Int) (cut : Bool) (p : Int) : Bool := (cut == decide (cntV was p < was.length)) && decide (rest.length = cntV was p)
def offB (was all : List Int) (linked : Bool) (p q f : Int) : Bool := (linked == thrB q f) && (!thrB q f || (decide (all.length = was.length + 1) && decide (all.getD 0 0 = p)))
def outInP (pg st p q f : Int) : Prg Bool := bindP (plListP pg st q f) fun was => bindP (plUnlinkP pg st p q f) fun cut => bindP (plListP pg st q f) fun rest => if outB was rest cut p then bindP (plUnlinkP pg st p q f) (fun b => pureP (!b)) else pureP false
def outOffP (pg st p q f : Int) : Prg Bool := bindP (plListP pg st q f) fun was => bindP (plLinkP pg st p q f) fun linked => bindP (plListP pg st q f) fun all => if offB was all linked p q f then bindP (plUnlinkP pg st p q f) (fun u => if u == thrB q f then bindP (plListP pg st q f) (fun z => pureP (decide (z = was))) else pureP false) else pureP false
theorem sound_outIn (pg st p q f : Int) : Sound (outInP pg st p q f) := sound_bind (sound_plList _ _ _ _) (fun _ => sound_bind (sound_plUnlink _ _ _ _ _) (fun _ => sound_bind (sound_plList _ _ _ _) (fun _ => sound_ite (sound_bind (sound_plUnlink _ _ _ _ _) (fun _ => sound_pure _)) (sound_pure _))))
theorem sound_outOff (pg st p q f : Int) : Sound (outOffP pg st p q f) := sound_bind (sound_plList _ _ _ _) (fun _ => sound_bind (sound_plLink _ _ _ _ _) (fun _ => sound_bind (sound_plList _ _ _ _) (fun _ => sound_ite (sound_bind (sound_plUnlink _ _ _ _ _) (fun _ => sound_ite (sound_bind (sound_plList _ _ _ _) (fun _ => sound_pure _)) (sound_pure _))) (sound_pure _))))
section
variable {pg st : Int} {n : Nat} (H : HdIn pg st n)
include H
theorem good_outIn (p q f : Int) : Good n (fun _ => True) (outInP pg st p q f) := good_bind (good_plList H _ _) (fun _ _ => good_bind (good_plUnlink H _ _ _) (fun _ _ => good_bind (good_plList H _ _) (fun _ _ => good_ite (fun _ => good_bind (good_plUnlink H _ _ _) (fun _ _ => good_pure n trivial)) (fun _ => good_pure n trivial))))
theorem good_outOff (p q f : Int) : Good n (fun _ => True) (outOffP pg st p q f) := good_bind (good_plList H _ _) (fun _ _ => good_bind (good_plLink H _ _ _) (fun _ _ => good_bind (good_plList H _ _) (fun _ _ => good_ite (fun _ => good_bind (good_plUnlink H _ _ _) (fun _ _ => good_ite (fun _ => good_bind (good_plList H _ _) (fun _ _ => good_pure n trivial)) (fun _ => good_pure n trivial))) (fun _ => good_pure n trivial))))
theorem thr_iff (q f : Int) : thrB q f = true ↔ headV pg st q f ≠ 0 := by
  have hp : 0 < headsV st pg := by
    have := H.st1; have := H.pg1
    unfold headsV tableV chunksV; omega
  constructor
  · intro h
    simp only [thrB, Bool.and_eq_true, decide_eq_true_eq] at h
    obtain ⟨h0, h1, h2⟩ := h
    have hq : 0 ≤ q ∧ q ≤ 4 := by
      apply Classical.byContradiction
      intro e
      rw [slotsC_none (by omega)] at h0; omega
    rw [slotsC_eq hq] at h2
    unfold headV
    rw [if_pos ⟨hq.1, hq.2, h1, h2⟩]
    have : 0 ≤ aheadV q := by unfold aheadV; (repeat' split) <;> omega
    omega
  · intro h
    obtain ⟨_, a, b, c, d⟩ := head_hd h
    have hs := slotsC_eq ⟨a, b⟩
    have := (slots_lo q a b).1
    simp only [thrB, Bool.and_eq_true, decide_eq_true_eq]
    exact ⟨by omega, c, by omega⟩
end
theorem outIn_true {pg st : Int} {zs : List Int} (H : HdIn pg st zs.length) (hz : OkW zs) {G : Int → List Int} (L : Ln pg st G zs) {p : Int} (hp : isPage pg p = true) (q f : Int) : ∃ D, outInP pg st p q f (allK zs) [] = .ok true D ∧ InvD zs.length D := by
  obtain ⟨D1, e1, A1⟩ := at_flat (flat_plList H q f) hz (OnW.start zs)
  obtain ⟨D2, e2, A2⟩ := at_flat (flat_plUnlink H p q f) hz A1
  obtain ⟨D3, e3, A3⟩ := at_flat (flat_plList H q f) hz A2
  obtain ⟨D4, e4, A4⟩ := at_flat (flat_plUnlink H p q f) hz A3
  have e1 : plListP pg st q f (allK zs) [] = .ok (plListV pg st q f zs) D1 := e1
  have e2 : plUnlinkP pg st p q f (allK zs) D1 = .ok (plUnlinkV pg st p q f zs).1 D2 := e2
  have e3 : plListP pg st q f (allK zs) D2 = .ok (plListV pg st q f (plUnlinkV pg st p q f zs).2) D3 := e3
  have e4 : plUnlinkP pg st p q f (allK zs) D3 = .ok (plUnlinkV pg st p q f (plUnlinkV pg st p q f zs).2).1 D4 := e4
  have key : outB (plListV pg st q f zs) (plListV pg st q f (plUnlinkV pg st p q f zs).2) (plUnlinkV pg st p q f zs).1 p = true ∧ (plUnlinkV pg st p q f (plUnlinkV pg st p q f zs).2).1 = false := by
    by_cases hin : headV pg st q f ≠ 0 ∧ p ∈ G (headV pg st q f)
    · obtain ⟨h0, hm⟩ := hin
      obtain ⟨s, t, hG, hs⟩ := split_mem hm
      obtain ⟨u1, L2, o2⟩ := unlink_ln H L rfl h0 hG hs
      have ha := (head_hd h0).1
      have hnd := L.nodup _ ha
      rw [hG] at hnd
      have ht : p ∉ t := by
        have := (List.nodup_append.1 hnd).2.1
        simp only [List.nodup_cons] at this
        exact this.1
      have l1 : plListV pg st q f zs = s ++ p :: t := by rw [list_is H L, if_neg h0, hG]
      have l2 : plListV pg st q f (plUnlinkV pg st p q f zs).2 = s ++ t := by rw [list_is H L2, if_neg h0, updG_at]
      have c1 : cntV (s ++ p :: t) p = s.length + t.length := by
        rw [cnt_app, cnt_off s p hs]
        show s.length + ((if p = p then 0 else 1) + cntV t p) = _
        rw [if_pos rfl, cnt_off t p ht]; omega
      have hz2 := unlink_no H L2 (c := q) (f := f) (p := p) (fun _ _ => by rw [updG_at]; intro x; rcases List.mem_append.1 x with x | x; exact hs x; exact ht x)
      refine ⟨?_, by rw [hz2]⟩
      rw [l1, l2, u1]
      unfold outB
      rw [c1]
      have h1 : decide (s.length + t.length < (s ++ p :: t).length) = true := by simp
      have h2 : decide ((s ++ t).length = s.length + t.length) = true := by simp
      rw [h1, h2]; rfl
    · have hno : isPage pg p = true → headV pg st q f ≠ 0 → p ∉ G (headV pg st q f) := fun _ a b => hin ⟨a, b⟩
      have u1 := unlink_no H L (c := q) (f := f) (p := p) hno
      rw [u1]
      refine ⟨?_, by rw [u1]⟩
      have hc : cntV (plListV pg st q f zs) p = (plListV pg st q f zs).length := by
        apply cnt_off
        rw [list_is H L]
        split
        · simp
        · rename_i h0; exact hno hp h0
      unfold outB
      show ((false == decide (cntV (plListV pg st q f zs) p < (plListV pg st q f zs).length)) && decide ((plListV pg st q f zs).length = cntV (plListV pg st q f zs) p)) = true
      rw [hc]; simp
  refine ⟨D4, ?_, A4.inv⟩
  show bindP (plListP pg st q f) _ (allK zs) [] = _
  rw [bindP_ok e1, bindP_ok e2, bindP_ok e3, if_pos key.1, bindP_ok e4, key.2]
  rfl
theorem outOff_true {pg st : Int} {zs : List Int} (H : HdIn pg st zs.length) (hz : OkW zs) {G : Int → List Int} (L : Ln pg st G zs) {p : Int} (hp : isPage pg p = true) (hf : ∀ a, isHd pg st a → p ∉ G a) (q f : Int) : ∃ D, outOffP pg st p q f (allK zs) [] = .ok true D ∧ OnW zs D zs := by
  obtain ⟨D1, e1, A1⟩ := at_flat (flat_plList H q f) hz (OnW.start zs)
  obtain ⟨D2, e2, A2⟩ := at_flat (flat_plLink H p q f) hz A1
  obtain ⟨D3, e3, A3⟩ := at_flat (flat_plList H q f) hz A2
  obtain ⟨D4, e4, A4⟩ := at_flat (flat_plUnlink H p q f) hz A3
  obtain ⟨D5, e5, A5⟩ := at_flat (flat_plList H q f) hz A4
  have e1 : plListP pg st q f (allK zs) [] = .ok (plListV pg st q f zs) D1 := e1
  have e2 : plLinkP pg st p q f (allK zs) D1 = .ok (plLinkV pg st p q f zs).1 D2 := e2
  have e3 : plListP pg st q f (allK zs) D2 = .ok (plListV pg st q f (plLinkV pg st p q f zs).2) D3 := e3
  have e4 : plUnlinkP pg st p q f (allK zs) D3 = .ok (plUnlinkV pg st p q f (plLinkV pg st p q f zs).2).1 D4 := e4
  have e5 : plListP pg st q f (allK zs) D4 = .ok (plListV pg st q f (plUnlinkV pg st p q f (plLinkV pg st p q f zs).2).2) D5 := e5
  have A5 : OnW zs D5 (plUnlinkV pg st p q f (plLinkV pg st p q f zs).2).2 := A5
  have key : offB (plListV pg st q f zs) (plListV pg st q f (plLinkV pg st p q f zs).2) (plLinkV pg st p q f zs).1 p q f = true ∧ (plUnlinkV pg st p q f (plLinkV pg st p q f zs).2).1 = thrB q f ∧ (plUnlinkV pg st p q f (plLinkV pg st p q f zs).2).2 = zs := by
    by_cases h0 : headV pg st q f = 0
    · have ht : thrB q f = false := by
        cases e : thrB q f with
        | false => rfl
        | true => exact absurd h0 ((thr_iff H q f).1 e)
      have hl : plLinkV pg st p q f zs = (false, zs) := by unfold plLinkV; rw [if_neg (fun x => x.1 h0)]
      have hu := unlink_no H L (c := q) (f := f) (p := p) (fun _ a => absurd h0 a)
      rw [hl]
      refine ⟨?_, by rw [hu, ht], by rw [hu]⟩
      unfold offB; rw [ht]; rfl
    · have ht : thrB q f = true := (thr_iff H q f).2 h0
      obtain ⟨L2, o2⟩ := link_ln H L rfl h0 hp hf
      have hl : (plLinkV pg st p q f zs).1 = true := by unfold plLinkV; rw [if_pos ⟨h0, hp⟩]
      obtain ⟨u1, L3, o3⟩ := unlink_ln H (c := q) (f := f) L2 o2.len h0 (s := []) (t := G (headV pg st q f)) (p := p) (by rw [updG_at]; rfl) (by simp)
      have hG : updG (updG G (headV pg st q f) (p :: G (headV pg st q f))) (headV pg st q f) ([] ++ G (headV pg st q f)) = G := by
        funext b
        unfold updG
        by_cases e : b = headV pg st q f
        · rw [if_pos e, e]; rfl
        · rw [if_neg e, if_neg e]
      rw [hG] at L3
      have l1 : plListV pg st q f zs = G (headV pg st q f) := by rw [list_is H L, if_neg h0]
      have l2 : plListV pg st q f (plLinkV pg st p q f zs).2 = p :: G (headV pg st q f) := by rw [list_is H L2, if_neg h0, updG_at]
      refine ⟨?_, by rw [u1, ht], L.uniq L3 (o2.trans o3)⟩
      unfold offB; rw [hl, ht, l1, l2]; simp
  rw [key.2.2] at A5 e5
  refine ⟨D5, ?_, A5⟩
  show bindP (plListP pg st q f) _ (allK zs) [] = _
  rw [bindP_ok e1, bindP_ok e2, bindP_ok e3, if_pos key.1, bindP_ok e4, key.2.1, if_pos (by simp), bindP_ok e5]
  show Res.ok (decide (plListV pg st q f zs = plListV pg st q f zs)) D5 = _
  simp
end Go.Proofs.YtogfikemodaepaaDoor

namespace Go.Proofs.YtogfikemodaepaaDoor
open Go.RowKit Go.Sort Go.Maps Go.Shelf
set_option linter.unusedVariables false
set_option linter.unusedSimpArgs false
set_option linter.unusedSectionVars false

structure OuK (c : Cfg) (g1 g2 g3 g4 g5 gi ci bt : Nat) (ins : List Int) (q f : Int) (j : Nat) (w : World) : Prop where
  h1 : w.heap[g1]? = some (.cells c.arr 28 (0, 0))
  h2 : w.heap[g2]? = some (.cells #[.int .i64 q] 3 (0, 0))
  h3 : w.heap[g3]? = some (.cells #[.int .i64 f] 3 (0, 0))
  h4 : w.heap[g4]? = some (.cells #[.slice (some ⟨gi, 0, none⟩) ins.length ci] 34 (0, 0))
  h5 : w.heap[g5]? = some (.cells #[.int .i64 (j : Int)] 3 (0, 0))
  row : Ws w gi ci ins
  sz : SzAt bt w
def OuB (g1 g2 g3 g4 g5 gi bt k : Nat) : Prop := k = g1 ∨ k = g2 ∨ k = g3 ∨ k = g4 ∨ k = g5 ∨ k = gi ∨ k = 0 ∨ k = bt
theorem OuK.keep {c : Cfg} {g1 g2 g3 g4 g5 gi ci bt j : Nat} {ins : List Int} {q f : Int} {S : Nat → Prop} {w w' : World} (h : OuK c g1 g2 g3 g4 g5 gi ci bt ins q f j w) (t : Turned S w w') (n : ∀ k, OuB g1 g2 g3 g4 g5 gi bt k → ¬ S k) : OuK c g1 g2 g3 g4 g5 gi ci bt ins q f j w' :=
  ⟨(t.block _ (lt_of_heap h.h1) (n _ (.inl rfl))).trans h.h1, (t.block _ (lt_of_heap h.h2) (n _ (.inr (.inl rfl)))).trans h.h2, (t.block _ (lt_of_heap h.h3) (n _ (.inr (.inr (.inl rfl))))).trans h.h3, (t.block _ (lt_of_heap h.h4) (n _ (.inr (.inr (.inr (.inl rfl)))))).trans h.h4,
   (t.block _ (lt_of_heap h.h5) (n _ (.inr (.inr (.inr (.inr (.inl rfl))))))).trans h.h5, h.row.keep t (n _ (.inr (.inr (.inr (.inr (.inr (.inl rfl))))))), h.sz.keep t (n _ (.inr (.inr (.inr (.inr (.inr (.inr (.inl rfl)))))))) (n _ (.inr (.inr (.inr (.inr (.inr (.inr (.inr rfl))))))))⟩
theorem OuK.lt {c : Cfg} {g1 g2 g3 g4 g5 gi ci bt j : Nat} {ins : List Int} {q f : Int} {w : World} (h : OuK c g1 g2 g3 g4 g5 gi ci bt ins q f j w) {k : Nat} (hk : OuB g1 g2 g3 g4 g5 gi bt k) : k < w.heap.size := by
  rcases hk with rfl | rfl | rfl | rfl | rfl | rfl | rfl | rfl
  · exact lt_of_heap h.h1
  · exact lt_of_heap h.h2
  · exact lt_of_heap h.h3
  · exact lt_of_heap h.h4
  · exact lt_of_heap h.h5
  · exact h.row.lt
  · exact h.sz.lt0
  · exact h.sz.lt
structure OuY (c : Cfg) (g1 g2 g3 g4 g5 g6 gi ci bt : Nat) (ins : List Int) (q f : Int) (j : Nat) (w : World) : Prop where
  k : OuK c g1 g2 g3 g4 g5 gi ci bt ins q f j w
  h6 : ∃ r, BoxB g6 w r
/-- On the way, with two rows of the run's own. -/
def OuM (W0 w : World) (F : Nat → Prop) (g6 p : Nat) (kn : Int → Option Int) (n : Nat) (D : List KV) (F' : Nat → Prop) (va : Value) (avs : List Int) (vb : Value) (bvs : List Int) : Prop :=
  MidV W0 w F (fun b => b = g6) p kn n D F' ∧ OwnR W0.heap.size F' w va avs ∧ OwnR W0.heap.size F' w vb bvs
theorem OuM.more {W0 w w' : World} {F F' : Nat → Prop} {g6 p n : Nat} {kn : Int → Option Int} {D : List KV} {va vb : Value} {avs bvs : List Int} (h : OuM W0 w F g6 p kn n D F' va avs vb bvs) (m : More w w') : OuM W0 w' F g6 p kn n D F' va avs vb bvs :=
  ⟨h.1.more m, h.2.1.more m, h.2.2.more m⟩

set_option maxRecDepth 100000 in
set_option maxHeartbeats 8000000 in
theorem ou_in {c : Cfg} (R : c.Ok) {n : Nat} (H : HdIn c.pg c.st n) (hn : n ≤ 10000) (F : Nat → Prop) (p g1 g2 g3 g4 g5 g6 gi ci bt : Nat) (kn : Int → Option Int) (ins : List Int) (q f : Int) (j : Nat) (hj : j < ins.length) (hne : ins.getD j 0 ≠ 0) (W0 : World) (hv : ViewAt W0 F p kn []) (hk : OkK kn) (hY : OuY c g1 g2 g3 g4 g5 g6 gi ci bt ins q f j W0) (nF : ∀ k, OuB g1 g2 g3 g4 g5 gi bt k → ¬ F k) (n6 : ¬ F g6) (nE : ∀ k, OuB g1 g2 g3 g4 g5 gi bt k → k ≠ g6)
    (ht : ∀ x D, outInP c.pg c.st j q f kn [] = .ok x D → x = true) :
    Calls Tryd.prog 22 #[.pointer (some ⟨p, 0, none⟩), .pointer (some ⟨g1, 0, none⟩), .pointer (some ⟨g2, 0, none⟩), .pointer (some ⟨g3, 0, none⟩), .pointer (some ⟨g4, 0, none⟩), .pointer (some ⟨g5, 0, none⟩), .pointer (some ⟨g6, 0, none⟩)] W0 (WentY W0 F (fun b => b = g6) (fun w' => OuY c g1 g2 g3 g4 g5 g6 gi ci bt ins q f j w') (fun w' => BoxB g6 w' true) p kn (ranOf (outInP c.pg c.st j q f kn []))) := by
  obtain ⟨Rr, hR⟩ : ∃ Rr, outInP c.pg c.st j q f kn [] = Rr := ⟨_, rfl⟩
  rw [hR] at ht ⊢
  obtain ⟨hK, b0, h6⟩ := hY
  have l6 := lt_of_heap h6
  have HK := Lib.hid hk
  have HR := Lib.hid R
  have HH := Lib.hid H
  have HRr := Lib.hid hR
  have M0 : Hid (MidV W0 W0 F (fun b => b = g6) p kn n [] F) := Lib.hid (MidV.begin hv (invD_nil n))
  have B0 := Lib.hid h6
  have NF : Hid (∀ wr D' F', MidV W0 wr F (fun b => b = g6) p kn n D' F' → ¬ F' g6) := Lib.hid fun wr D' F' h => h.off l6 n6
  have KT : Hid (∀ wr, Turned (fun b => F b ∨ b = g6) W0 wr → OuK c g1 g2 g3 g4 g5 gi ci bt ins q f j wr) := Lib.hid fun wr t => hK.keep t (fun k hk => by rintro (z | z); exact nF k hk z; exact nE k hk z)
  have KL : Hid (∀ wr D' F', MidV W0 wr F (fun b => b = g6) p kn n D' F' → OuK c g1 g2 g3 g4 g5 gi ci bt ins q f j wr) := Lib.hid fun wr D' F' h => KT.out _ h.turn
  have NEED : Hid (∀ a w2 (b : Bool), Rr = .need a → DeadAt w2 p a → Turned (fun b => F b ∨ b = g6) W0 w2 → BoxB g6 w2 b → WentY W0 F (fun b => b = g6) (fun w' => OuY c g1 g2 g3 g4 g5 g6 gi ci bt ins q f j w') (fun w' => BoxB g6 w' true) p kn (ranOf Rr) (.panicked (endOf p)) w2) := Lib.hid fun a w2 b e hd ht' hb => wy_need (ranOf_need e) hd ht' ⟨KT.out _ ht', ⟨b, hb⟩⟩
  have DONE : Hid (∀ w2 D F' (b : Bool), Rr = .ok b D → MidV W0 w2 F (fun b => b = g6) p kn n D F' → BoxB g6 w2 true → WentY W0 F (fun b => b = g6) (fun w' => OuY c g1 g2 g3 g4 g5 g6 gi ci bt ins q f j w') (fun w' => BoxB g6 w' true) p kn (ranOf Rr) (.returned (.tuple #[])) w2) := Lib.hid fun w2 D F' b e h hb => wy_done h (ranOf_ok e) ⟨KL.out _ _ _ h, ⟨true, hb⟩⟩ hb
  have HT := Lib.hid ht
  obtain ⟨zv, hzv⟩ : ∃ zv, ins.getD j 0 = zv := ⟨_, rfl⟩
  have KZ : Hid (∀ wr D' F', MidV W0 wr F (fun b => b = g6) p kn n D' F' → wr.cell? ⟨gi, j, none⟩ = some (.int .i64 zv)) := Lib.hid fun wr D' F' h => by rw [← hzv]; exact (KL.out _ _ _ h).row.cell hj
  have L0 := Lib.hid (KL.out _ _ _ M0.out).h1
  have c20 := (box_cells (KL.out _ _ _ M0.out).h2).1
  have c30 := (box_cells (KL.out _ _ _ M0.out).h3).1
  have c40 := (box_cells (KL.out _ _ _ M0.out).h4).1
  have c50 := (box_cells (KL.out _ _ _ M0.out).h5).1
  clear hv hk R H h6 n6 nF nE ht hR KT hK
  rw [hzv] at hne
  have dz : (zv != 0) = true := by simpa using hne
  clear hzv hne
  go_enter Tryd.func22, Tryd.ntmps22
  go_wp2_with (first | (refine wpList_load_row rfl 28 _ rfl _ rfl 28 _ _ _ L0.out Tryd.underlying28 rfl (by kernel_rfl) ?_) | (refine wpList_load_rowG rfl 28 _ rfl _ rfl 28 _ _ _ L0.out Tryd.underlying28 rfl (by kernel_rfl) ?_))
  refine (pl_List HR.out HH.out F p kn [] q f W0 M0.out.view HK.out M0.out.inv).mono ?_
  intro e w1 he
  rcases M0.out.stepR (More.refl _) HK.out (good_plList HH.out _ _) he with ⟨a', hE, rfl, hd', ht', hk'⟩ | ⟨avs, D1, F1, va, hE, rfl, hp1, M1, hq1, hk', hf'⟩
  · exact ⟨rfl, NEED.out a' w1 _ (HRr.out.symm.trans (bindP_need hE)) hd' ht' (hk' _ _ (NF.out _ _ _ M0.out) B0.out)⟩
  have B1 := Lib.hid (show BoxB g6 w1 b0 from hk' _ _ (NF.out _ _ _ M0.out) B0.out)
  have hp1 : OwnR W0.heap.size F1 w1 va avs := hp1
  have R1 := Lib.hid ((bindP_ok hE).symm.trans HRr.out)
  skip
  have P1 := Lib.hid (OwnR.mono hp1 (show W0.heap.size ≤ _ from M0.out.size))
  have M1 := Lib.hid M1
  have L1 := Lib.hid (KL.out _ _ _ M1.out).h1
  have c21 := (box_cells (KL.out _ _ _ M1.out).h2).1
  have c31 := (box_cells (KL.out _ _ _ M1.out).h3).1
  have c41 := (box_cells (KL.out _ _ _ M1.out).h4).1
  have c51 := (box_cells (KL.out _ _ _ M1.out).h5).1
  clear he hE hk' hf'
  clear c20 c30 c40 c50 hp1
  have z1 := KZ.out _ _ _ M1.out
  obtain ⟨a1, c1, rfl, hrd⟩ := P1.out.1.reads
  go_wp2_with (first | (refine wpList_load_row rfl 28 _ rfl _ rfl 28 _ _ _ L1.out Tryd.underlying28 rfl (by kernel_rfl) ?_) | (refine wpList_load_rowG rfl 28 _ rfl _ rfl 28 _ _ _ L1.out Tryd.underlying28 rfl (by kernel_rfl) ?_))
  refine (pl_Unlink HR.out HH.out hn F1 p kn D1 (j : Int) q f w1 M1.out.view HK.out M1.out.inv).mono ?_
  intro e w2 he
  rcases M1.out.step (More.refl _) HK.out (good_plUnlink HH.out _ _ _) he with ⟨a', hE, rfl, hd', ht', hk'⟩ | ⟨x2, D2, F2, hE, rfl, M2, hq2, hk', hf'⟩
  · exact ⟨rfl, NEED.out a' w2 _ (R1.out.symm.trans (bindP_need hE)) hd' ht' (hk' _ _ (NF.out _ _ _ M1.out) B1.out)⟩
  have B2 := Lib.hid (show BoxB g6 w2 b0 from hk' _ _ (NF.out _ _ _ M1.out) B1.out)
  have R2 := Lib.hid ((bindP_ok hE).symm.trans R1.out)
  have A2 := Lib.hid (P1.out.went hk' hf')
  have M2 := Lib.hid M2
  have L2 := Lib.hid (KL.out _ _ _ M2.out).h1
  have c22 := (box_cells (KL.out _ _ _ M2.out).h2).1
  have c32 := (box_cells (KL.out _ _ _ M2.out).h3).1
  have c42 := (box_cells (KL.out _ _ _ M2.out).h4).1
  have c52 := (box_cells (KL.out _ _ _ M2.out).h5).1
  clear he hE hk' hf'
  clear c21 c31 c41 c51 z1
  go_wp2_with (first | (refine wpList_load_row rfl 28 _ rfl _ rfl 28 _ _ _ L2.out Tryd.underlying28 rfl (by kernel_rfl) ?_) | (refine wpList_load_rowG rfl 28 _ rfl _ rfl 28 _ _ _ L2.out Tryd.underlying28 rfl (by kernel_rfl) ?_))
  refine (pl_List HR.out HH.out F2 p kn D2 q f w2 M2.out.view HK.out M2.out.inv).mono ?_
  intro e w3 he
  rcases M2.out.stepR (More.refl _) HK.out (good_plList HH.out _ _) he with ⟨a', hE, rfl, hd', ht', hk'⟩ | ⟨bvs, D3, F3, vb, hE, rfl, hp3, M3, hq3, hk', hf'⟩
  · exact ⟨rfl, NEED.out a' w3 _ (R2.out.symm.trans (bindP_need hE)) hd' ht' (hk' _ _ (NF.out _ _ _ M2.out) B2.out)⟩
  have B3 := Lib.hid (show BoxB g6 w3 b0 from hk' _ _ (NF.out _ _ _ M2.out) B2.out)
  have hp3 : OwnR w2.heap.size F3 w3 vb bvs := hp3
  have R3 := Lib.hid ((bindP_ok hE).symm.trans R2.out)
  have A3 := Lib.hid (A2.out.went hk' hf')
  have P3 := Lib.hid (OwnR.mono hp3 (show W0.heap.size ≤ _ from M2.out.size))
  have M3 := Lib.hid M3
  have L3 := Lib.hid (KL.out _ _ _ M3.out).h1
  have c23 := (box_cells (KL.out _ _ _ M3.out).h2).1
  have c33 := (box_cells (KL.out _ _ _ M3.out).h3).1
  have c43 := (box_cells (KL.out _ _ _ M3.out).h4).1
  have c53 := (box_cells (KL.out _ _ _ M3.out).h5).1
  clear he hE hk' hf'
  clear c22 c32 c42 c52 hp3 hrd
  obtain ⟨a3, c3, rfl, _⟩ := P3.out.1.reads
  have R3' := Lib.hid (show (if outB avs bvs x2 j then bindP (plUnlinkP c.pg c.st j q f) (fun b => pureP (!b)) else pureP false) kn D3 = Rr from R3.out)
  have hin : outB avs bvs x2 j = true := by
    cases e : outB avs bvs x2 j with
    | true => rfl
    | false => exact absurd (HT.out false D3 (by have h := R3'.out; rw [e] at h; exact h.symm)) (by simp)
  have RI := Lib.hid (show bindP (plUnlinkP c.pg c.st j q f) (fun b => pureP (!b)) kn D3 = Rr from by have h := R3'.out; rw [if_pos hin] at h; exact h)
  obtain ⟨hi1, hi2⟩ := Bool.and_eq_true_iff.1 hin
  have HI1 := Lib.hid hi1
  have HI2 := Lib.hid (of_decide_eq_true hi2)
  have FINE9 : Hid (∀ w2 D F', Rr = .ok true D → MidV W0 w2 F (fun b => b = g6) p kn n D F' → BoxB g6 w2 true → WentY W0 F (fun b => b = g6) (fun w' => OuY c g1 g2 g3 g4 g5 g6 gi ci bt ins q f j w') (fun w' => BoxB g6 w' true) p kn (ranOf Rr) (.returned (.tuple #[])) w2) := Lib.hid fun w2 D F' e h hb => DONE.out w2 D F' true e h hb
  have hal : avs.length ≤ 256 := hq1.2
  clear hin hi1 hi2 R3 R3' R2 R1 hq1 hq3
  go_wp2_with fail
  go_loopw [11, 12] (fun v11 v12 wr => ∃ i : Nat, v12 = .int .i64 (i : Int) ∧ i ≤ avs.length ∧ v11 = .int .i64 (cntV (avs.take i) j : Int) ∧ More w3 wr) (fun _ v12 _ => avs.length - (intOf v12).toNat)
  case atStart => exact ⟨0, rfl, by omega, rfl, More.refl _⟩
  case round =>
    obtain ⟨i, rfl, hi, rfl, ht⟩ := hrel
    have MW := Lib.hid ht
    have MI := Lib.hid (M3.out.more ht)
    have AI := Lib.hid (A3.out.more ht)
    have BI : Hid (BoxB g6 wr b0) := Lib.hid (ht.block B3.out)
    have L6 := Lib.hid (KL.out _ _ _ MI.out).h1
    have c26 := (box_cells (KL.out _ _ _ MI.out).h2).1
    have c36 := (box_cells (KL.out _ _ _ MI.out).h3).1
    have c46 := (box_cells (KL.out _ _ _ MI.out).h4).1
    have c56 := (box_cells (KL.out _ _ _ MI.out).h5).1
    have qi : IntKind.i64.wrap ((i : Int) + 1) = (i : Int) + 1 := wrap_in (by omega) (by omega)
    by_cases hlt : i < avs.length
    · have d3 : decide ((i : Int) < (avs.length : Int)) = true := by simp; omega
      have hcn := cnt_take avs j i hlt
      have hcl := cnt_le (avs.take i) j
      have htl : (avs.take i).length ≤ 256 := by simp; omega
      obtain ⟨a1', c1', e1, hrd⟩ := AI.out.1.reads
      simp only [Value.slice.injEq] at e1
      obtain ⟨rfl, _, rfl⟩ := e1
      obtain ⟨ga, rfl, _, _, hcell⟩ := hrd i hlt
      have ca := hcell i hlt
      obtain ⟨xv, hxv⟩ : ∃ xv, avs.getD i 0 = xv := ⟨_, rfl⟩
      rw [hxv] at ca hcn
      obtain ⟨kk, hkk⟩ : ∃ kk, cntV (avs.take i) (j : Int) = kk := ⟨_, rfl⟩
      rw [hkk] at hcn hcl ⊢
      have qk : IntKind.i64.wrap ((kk : Int) + 1) = (kk : Int) + 1 := wrap_in (by omega) (by omega)
      have hix : (i : Int) < (avs.length : Int) := by omega
      clear hcell hrd hxv
      go_wp2_with fail
      by_cases hx : xv = (j : Int)
      · have dx : (xv != (j : Int)) = false := by simp [hx]
        rw [if_pos hx] at hcn
        clear hx
        refine wp_region_more (by kernel_rfl) (by kernel_rfl) ?_
        iterate 6
          with_reducible refine wpQuiet_step (fun K hK => ?_)
          go_simp
          first
          | (refine hK _ ?_; clear hK K)
          | (apply Exists.intro
             refine ⟨fun W hW => ?_, hK _ ?_⟩
             first
             | (have ca' := hW.cell ca; have c5' := hW.cell c56; go_simp; try rfl)
             clear hK K)
        intro w9 m9
        have T9 := Lib.hid (MW.out.trans m9)
        clear m9
        go_wp2_with fail
        go_roundw
        case rel => exact ⟨i + 1, by go_num, by omega, by rw [hcn]; simp, T9.out⟩
        case measure => simp [intOf]; omega
      · have dx : (xv != (j : Int)) = true := by simpa using hx
        rw [if_neg hx] at hcn
        clear hx
        refine wp_region_more (by kernel_rfl) (by kernel_rfl) ?_
        iterate 6
          with_reducible refine wpQuiet_step (fun K hK => ?_)
          go_simp
          first
          | (refine hK _ ?_; clear hK K)
          | (apply Exists.intro
             refine ⟨fun W hW => ?_, hK _ ?_⟩
             first
             | (have ca' := hW.cell ca; have c5' := hW.cell c56; go_simp; try rfl)
             clear hK K)
        intro w9 m9
        have T9 := Lib.hid (MW.out.trans m9)
        clear m9
        go_wp2_with fail
        go_roundw
        case rel => exact ⟨i + 1, by go_num, by omega, by rw [hcn]; go_num, T9.out⟩
        case measure => simp [intOf]; omega
    · obtain rfl : i = avs.length := by omega
      have d3 : decide ((avs.length : Int) < (avs.length : Int)) = false := by simp
      rw [List.take_length] at *
      have hb2 := HI2.out
      have hx2 : x2 = decide (bvs.length < avs.length) := by
        have h := HI1.out
        rw [← hb2] at h
        simpa using h
      rw [← hb2]
      clear hb2
      subst hx2
      go_wp2_with (first | (refine wpList_load_row rfl 28 _ rfl _ rfl 28 _ _ _ L6.out Tryd.underlying28 rfl (by kernel_rfl) ?_) | (refine wpList_load_rowG rfl 28 _ rfl _ rfl 28 _ _ _ L6.out Tryd.underlying28 rfl (by kernel_rfl) ?_))
      refine (pl_Unlink HR.out HH.out hn F3 p kn D3 (j : Int) q f wr MI.out.view HK.out MI.out.inv).mono ?_
      intro e w4 he
      rcases MI.out.step (More.refl _) HK.out (good_plUnlink HH.out _ _ _) he with ⟨a', hE, rfl, hd', ht', hk'⟩ | ⟨x4, D4, F4, hE, rfl, M4, hq4, hk', hf'⟩
      · exact ⟨rfl, NEED.out a' w4 _ (RI.out.symm.trans (bindP_need hE)) hd' ht' (hk' _ _ (NF.out _ _ _ MI.out) BI.out)⟩
      have B4 := Lib.hid (show BoxB g6 w4 b0 from hk' _ _ (NF.out _ _ _ MI.out) BI.out)
      have R4 := Lib.hid ((bindP_ok hE).symm.trans RI.out)
      have A4 := Lib.hid (AI.out.went hk' hf')
      have M4 := Lib.hid M4
      have L4 := Lib.hid (KL.out _ _ _ M4.out).h1
      have c24 := (box_cells (KL.out _ _ _ M4.out).h2).1
      have c34 := (box_cells (KL.out _ _ _ M4.out).h3).1
      have c44 := (box_cells (KL.out _ _ _ M4.out).h4).1
      have c54 := (box_cells (KL.out _ _ _ M4.out).h5).1
      clear he hE hk' hf'
      have hx4 : x4 = false := by
        have h := HT.out _ _ R4.out.symm
        simpa using h
      subst hx4
      obtain ⟨cr, fr, kr⟩ := box_cells B4.out
      obtain ⟨w9, e9⟩ : ∃ w9, w4.setCell ⟨g6, 0, none⟩ (.bool true) = w9 := ⟨_, rfl⟩
      have FIN := Lib.hid (FINE9.out w9 D4 F4 R4.out.symm (by rw [← e9]; exact M4.out.box (fun _ => rfl) (NF.out _ _ _ M4.out) _ B4.out) (by rw [← e9]; exact boxB_set B4.out true))
      clear c26 c36 c46 c56 L6 c24 c34 c44 c54 L4 hq4
      go_wp2_with fail
      go_end0
      exact FIN.out

set_option maxRecDepth 100000 in
set_option maxHeartbeats 8000000 in
theorem ou_off {c : Cfg} (R : c.Ok) {n : Nat} (H : HdIn c.pg c.st n) (hn : n ≤ 10000) (F : Nat → Prop) (p g1 g2 g3 g4 g5 g6 gi ci bt : Nat) (kn : Int → Option Int) (ins : List Int) (q f : Int) (j : Nat) (hj : j < ins.length) (hne : ins.getD j 0 = 0) (W0 : World) (hv : ViewAt W0 F p kn []) (hk : OkK kn) (hY : OuY c g1 g2 g3 g4 g5 g6 gi ci bt ins q f j W0) (nF : ∀ k, OuB g1 g2 g3 g4 g5 gi bt k → ¬ F k) (n6 : ¬ F g6) (nE : ∀ k, OuB g1 g2 g3 g4 g5 gi bt k → k ≠ g6)
    (ht : ∀ x D, outOffP c.pg c.st j q f kn [] = .ok x D → x = true) :
    Calls Tryd.prog 22 #[.pointer (some ⟨p, 0, none⟩), .pointer (some ⟨g1, 0, none⟩), .pointer (some ⟨g2, 0, none⟩), .pointer (some ⟨g3, 0, none⟩), .pointer (some ⟨g4, 0, none⟩), .pointer (some ⟨g5, 0, none⟩), .pointer (some ⟨g6, 0, none⟩)] W0 (WentY W0 F (fun b => b = g6) (fun w' => OuY c g1 g2 g3 g4 g5 g6 gi ci bt ins q f j w') (fun w' => BoxB g6 w' true) p kn (ranOf (outOffP c.pg c.st j q f kn []))) := by
  obtain ⟨Rr, hR⟩ : ∃ Rr, outOffP c.pg c.st j q f kn [] = Rr := ⟨_, rfl⟩
  rw [hR] at ht ⊢
  obtain ⟨hK, b0, h6⟩ := hY
  have l6 := lt_of_heap h6
  have HK := Lib.hid hk
  have HR := Lib.hid R
  have HH := Lib.hid H
  have HRr := Lib.hid hR
  have M0 : Hid (MidV W0 W0 F (fun b => b = g6) p kn n [] F) := Lib.hid (MidV.begin hv (invD_nil n))
  have B0 := Lib.hid h6
  have NF : Hid (∀ wr D' F', MidV W0 wr F (fun b => b = g6) p kn n D' F' → ¬ F' g6) := Lib.hid fun wr D' F' h => h.off l6 n6
  have KT : Hid (∀ wr, Turned (fun b => F b ∨ b = g6) W0 wr → OuK c g1 g2 g3 g4 g5 gi ci bt ins q f j wr) := Lib.hid fun wr t => hK.keep t (fun k hk => by rintro (z | z); exact nF k hk z; exact nE k hk z)
  have KL : Hid (∀ wr D' F', MidV W0 wr F (fun b => b = g6) p kn n D' F' → OuK c g1 g2 g3 g4 g5 gi ci bt ins q f j wr) := Lib.hid fun wr D' F' h => KT.out _ h.turn
  have NEED : Hid (∀ a w2 (b : Bool), Rr = .need a → DeadAt w2 p a → Turned (fun b => F b ∨ b = g6) W0 w2 → BoxB g6 w2 b → WentY W0 F (fun b => b = g6) (fun w' => OuY c g1 g2 g3 g4 g5 g6 gi ci bt ins q f j w') (fun w' => BoxB g6 w' true) p kn (ranOf Rr) (.panicked (endOf p)) w2) := Lib.hid fun a w2 b e hd ht' hb => wy_need (ranOf_need e) hd ht' ⟨KT.out _ ht', ⟨b, hb⟩⟩
  have DONE : Hid (∀ w2 D F' (b : Bool), Rr = .ok b D → MidV W0 w2 F (fun b => b = g6) p kn n D F' → BoxB g6 w2 true → WentY W0 F (fun b => b = g6) (fun w' => OuY c g1 g2 g3 g4 g5 g6 gi ci bt ins q f j w') (fun w' => BoxB g6 w' true) p kn (ranOf Rr) (.returned (.tuple #[])) w2) := Lib.hid fun w2 D F' b e h hb => wy_done h (ranOf_ok e) ⟨KL.out _ _ _ h, ⟨true, hb⟩⟩ hb
  have HT := Lib.hid ht
  obtain ⟨zv, hzv⟩ : ∃ zv, ins.getD j 0 = zv := ⟨_, rfl⟩
  have KZ : Hid (∀ wr D' F', MidV W0 wr F (fun b => b = g6) p kn n D' F' → wr.cell? ⟨gi, j, none⟩ = some (.int .i64 zv)) := Lib.hid fun wr D' F' h => by rw [← hzv]; exact (KL.out _ _ _ h).row.cell hj
  have L0 := Lib.hid (KL.out _ _ _ M0.out).h1
  have c20 := (box_cells (KL.out _ _ _ M0.out).h2).1
  have c30 := (box_cells (KL.out _ _ _ M0.out).h3).1
  have c40 := (box_cells (KL.out _ _ _ M0.out).h4).1
  have c50 := (box_cells (KL.out _ _ _ M0.out).h5).1
  clear hv hk R H h6 n6 nF nE ht hR KT hK
  rw [hzv] at hne
  subst hne
  clear hzv
  go_enter Tryd.func22, Tryd.ntmps22
  go_wp2_with (first | (refine wpList_load_row rfl 28 _ rfl _ rfl 28 _ _ _ L0.out Tryd.underlying28 rfl (by kernel_rfl) ?_) | (refine wpList_load_rowG rfl 28 _ rfl _ rfl 28 _ _ _ L0.out Tryd.underlying28 rfl (by kernel_rfl) ?_))
  refine (pl_List HR.out HH.out F p kn [] q f W0 M0.out.view HK.out M0.out.inv).mono ?_
  intro e w1 he
  rcases M0.out.stepR (More.refl _) HK.out (good_plList HH.out _ _) he with ⟨a', hE, rfl, hd', ht', hk'⟩ | ⟨avs, D1, F1, va, hE, rfl, hp1, M1, hq1, hk', hf'⟩
  · exact ⟨rfl, NEED.out a' w1 _ (HRr.out.symm.trans (bindP_need hE)) hd' ht' (hk' _ _ (NF.out _ _ _ M0.out) B0.out)⟩
  have B1 := Lib.hid (show BoxB g6 w1 b0 from hk' _ _ (NF.out _ _ _ M0.out) B0.out)
  have hp1 : OwnR W0.heap.size F1 w1 va avs := hp1
  have R1 := Lib.hid ((bindP_ok hE).symm.trans HRr.out)
  skip
  have P1 := Lib.hid (OwnR.mono hp1 (show W0.heap.size ≤ _ from M0.out.size))
  have M1 := Lib.hid M1
  have L1 := Lib.hid (KL.out _ _ _ M1.out).h1
  have c21 := (box_cells (KL.out _ _ _ M1.out).h2).1
  have c31 := (box_cells (KL.out _ _ _ M1.out).h3).1
  have c41 := (box_cells (KL.out _ _ _ M1.out).h4).1
  have c51 := (box_cells (KL.out _ _ _ M1.out).h5).1
  clear he hE hk' hf'
  clear c20 c30 c40 c50 hp1
  have z1 := KZ.out _ _ _ M1.out
  obtain ⟨a1, c1, rfl, hrd⟩ := P1.out.1.reads
  go_wp2_with (first | (refine wpList_load_row rfl 28 _ rfl _ rfl 28 _ _ _ L1.out Tryd.underlying28 rfl (by kernel_rfl) ?_) | (refine wpList_load_rowG rfl 28 _ rfl _ rfl 28 _ _ _ L1.out Tryd.underlying28 rfl (by kernel_rfl) ?_))
  refine (pl_Link HR.out HH.out hn F1 p kn D1 (j : Int) q f w1 M1.out.view HK.out M1.out.inv).mono ?_
  intro e w2 he
  rcases M1.out.step (More.refl _) HK.out (good_plLink HH.out _ _ _) he with ⟨a', hE, rfl, hd', ht', hk'⟩ | ⟨x2, D2, F2, hE, rfl, M2, hq2, hk', hf'⟩
  · exact ⟨rfl, NEED.out a' w2 _ (R1.out.symm.trans (bindP_need hE)) hd' ht' (hk' _ _ (NF.out _ _ _ M1.out) B1.out)⟩
  have B2 := Lib.hid (show BoxB g6 w2 b0 from hk' _ _ (NF.out _ _ _ M1.out) B1.out)
  have R2 := Lib.hid ((bindP_ok hE).symm.trans R1.out)
  have A2 := Lib.hid (P1.out.went hk' hf')
  have M2 := Lib.hid M2
  have L2 := Lib.hid (KL.out _ _ _ M2.out).h1
  have c22 := (box_cells (KL.out _ _ _ M2.out).h2).1
  have c32 := (box_cells (KL.out _ _ _ M2.out).h3).1
  have c42 := (box_cells (KL.out _ _ _ M2.out).h4).1
  have c52 := (box_cells (KL.out _ _ _ M2.out).h5).1
  clear he hE hk' hf'
  clear c21 c31 c41 c51 z1
  go_wp2_with (first | (refine wpList_load_row rfl 28 _ rfl _ rfl 28 _ _ _ L2.out Tryd.underlying28 rfl (by kernel_rfl) ?_) | (refine wpList_load_rowG rfl 28 _ rfl _ rfl 28 _ _ _ L2.out Tryd.underlying28 rfl (by kernel_rfl) ?_))
  refine (pl_List HR.out HH.out F2 p kn D2 q f w2 M2.out.view HK.out M2.out.inv).mono ?_
  intro e w3 he
  rcases M2.out.stepR (More.refl _) HK.out (good_plList HH.out _ _) he with ⟨a', hE, rfl, hd', ht', hk'⟩ | ⟨bvs, D3, F3, vb, hE, rfl, hp3, M3, hq3, hk', hf'⟩
  · exact ⟨rfl, NEED.out a' w3 _ (R2.out.symm.trans (bindP_need hE)) hd' ht' (hk' _ _ (NF.out _ _ _ M2.out) B2.out)⟩
  have B3 := Lib.hid (show BoxB g6 w3 b0 from hk' _ _ (NF.out _ _ _ M2.out) B2.out)
  have hp3 : OwnR w2.heap.size F3 w3 vb bvs := hp3
  have R3 := Lib.hid ((bindP_ok hE).symm.trans R2.out)
  have A3 := Lib.hid (A2.out.went hk' hf')
  have P3 := Lib.hid (OwnR.mono hp3 (show W0.heap.size ≤ _ from M2.out.size))
  have M3 := Lib.hid M3
  have L3 := Lib.hid (KL.out _ _ _ M3.out).h1
  have c23 := (box_cells (KL.out _ _ _ M3.out).h2).1
  have c33 := (box_cells (KL.out _ _ _ M3.out).h3).1
  have c43 := (box_cells (KL.out _ _ _ M3.out).h4).1
  have c53 := (box_cells (KL.out _ _ _ M3.out).h5).1
  clear he hE hk' hf'
  clear c22 c32 c42 c52 hp3 hrd
  obtain ⟨a2, c2, rfl, _⟩ := P3.out.1.reads
  have R3' := Lib.hid (show (if offB avs bvs x2 j q f then bindP (plUnlinkP c.pg c.st j q f) (fun u => if u == thrB q f then bindP (plListP c.pg c.st q f) (fun z => pureP (decide (z = avs))) else pureP false) else pureP false) kn D3 = Rr from R3.out)
  have hin : offB avs bvs x2 j q f = true := by
    cases e : offB avs bvs x2 j q f with
    | true => rfl
    | false => exact absurd (HT.out false D3 (by have h := R3'.out; rw [e] at h; exact h.symm)) (by simp)
  have RI := Lib.hid (show bindP (plUnlinkP c.pg c.st j q f) (fun u => if u == thrB q f then bindP (plListP c.pg c.st q f) (fun z => pureP (decide (z = avs))) else pureP false) kn D3 = Rr from by have h := R3'.out; rw [if_pos hin] at h; exact h)
  obtain ⟨hi1, hi2⟩ := Bool.and_eq_true_iff.1 hin
  have HI1 : Hid (x2 = thrB q f) := Lib.hid (by simpa using hi1)
  have HI2 := Lib.hid hi2
  have FINE9 : Hid (∀ w2 D F', (∃ D0, Rr = .ok true D0 ∧ D0 = D) → MidV W0 w2 F (fun b => b = g6) p kn n D F' → BoxB g6 w2 true → WentY W0 F (fun b => b = g6) (fun w' => OuY c g1 g2 g3 g4 g5 g6 gi ci bt ins q f j w') (fun w' => BoxB g6 w' true) p kn (ranOf Rr) (.returned (.tuple #[])) w2) := Lib.hid fun w2 D F' e h hb => DONE.out w2 D F' true (by obtain ⟨D0, e1, rfl⟩ := e; exact e1) h hb
  have hal : avs.length ≤ 1000000 := by have := hq1.2; omega
  have M5 := Lib.hid (show OuM W0 w3 F g6 p kn n D3 F3 (.slice a1 avs.length c1) avs (.slice a2 bvs.length c2) bvs from ⟨M3.out, A3.out, P3.out⟩)
  have KM : Hid (∀ wr D' F', OuM W0 wr F g6 p kn n D' F' (.slice a1 avs.length c1) avs (.slice a2 bvs.length c2) bvs → OuK c g1 g2 g3 g4 g5 gi ci bt ins q f j wr) := Lib.hid fun wr D' F' h => KL.out _ _ _ h.1
  clear hin hi1 hi2 R3 R3' R2 R1 hq1 hq3 A3 A2 P1 M3 M2 M1 B1 B2 L1 L2
  go_wp2_with (first | (refine wpList_load_row rfl 28 _ rfl _ rfl 28 _ _ _ L3.out Tryd.underlying28 rfl (by kernel_rfl) ?_) | (refine wpList_load_rowG rfl 28 _ rfl _ rfl 28 _ _ _ L3.out Tryd.underlying28 rfl (by kernel_rfl) ?_))
  clear c23 c33 c43 c53 L3
  refine wp_region_anyC (OuK c g1 g2 g3 g4 g5 gi ci bt ins q f j) (by kernel_rfl) ?_
  have MR := Lib.hid (M5.out.more ((More.refl w3).drewN 1))
  have BR : Hid (BoxB g6 (w3.drewN 1) b0) := Lib.hid (((More.refl w3).drewN 1).block B3.out)
  change anyC _ _ _ _ _ _ _ _ (w3.drewN 1)
  generalize w3.drewN 1 = wq at MR BR ⊢
  generalize hA : Act.mk _ _ = A
  have HF : AG 137 A [(0, .pointer (some ⟨p, 0, none⟩)), (1, .pointer (some ⟨g1, 0, none⟩)), (2, .pointer (some ⟨g2, 0, none⟩)), (3, .pointer (some ⟨g3, 0, none⟩)), (4, .pointer (some ⟨g4, 0, none⟩)), (5, .pointer (some ⟨g5, 0, none⟩)), (6, .pointer (some ⟨g6, 0, none⟩))] := by
    rw [← hA]
    refine ⟨⟨Nat.le_of_ble_eq_true rfl, rfl⟩, ?_⟩
    intro z hz; simp only [List.mem_cons, List.not_mem_nil, or_false] at hz; rcases hz with rfl | rfl | rfl | rfl | rfl | rfl | rfl <;> rfl
  refine anyC_start (fun a W => ∃ (u83 u84 u85 u86 u87 u88 u89 u90 u91 u92 u93 u94 u95 : Value), a = (Act.put (Act.put (Act.put (Act.put (Act.put (Act.put (Act.put (Act.put (Act.put (Act.put (Act.put (Act.put (Act.put (Act.put A (some 83) u83) (some 84) u84) (some 85) u85) (some 86) u86) (some 87) u87) (some 88) u88) (some 89) u89) (some 90) u90) (some 91) u91) (some 92) u92) (some 93) u93) (some 94) u94) (some 95) u95) (some 15) (.bool (thrB q f))) ∧ OuM W0 W F g6 p kn n D3 F3 (.slice a1 avs.length c1) avs (.slice a2 bvs.length c2) bvs ∧ BoxB g6 W b0) (fun W => WentY W0 F (fun b => b = g6) (fun w' => OuY c g1 g2 g3 g4 g5 g6 gi ci bt ins q f j w') (fun w' => BoxB g6 w' true) p kn (ranOf Rr) (.panicked (endOf p)) W) (endOf p) (fun a W hd h => ⟨hd, h⟩) (fun _ _ _ _ _ h => h) ?_ ?_
  · skip
    rintro a wa ⟨u83, u84, u85, u86, u87, u88, u89, u90, u91, u92, u93, u94, u95, rfl, MS, BS⟩
    rw [← hA]
    replace MS := Lib.hid MS
    replace BS := Lib.hid BS
    clear HF hA MR BR M5 B3
    go_simp
    cases hT : thrB q f with
    | false =>
      have R8 := Lib.hid (show bindP (plUnlinkP c.pg c.st j q f) (fun u => if u == false then bindP (plListP c.pg c.st q f) (fun z => pureP (decide (z = avs))) else pureP false) kn D3 = Rr from by have h := RI.out; rw [hT] at h; exact h)
      have hx2 : x2 = false := by rw [← hT]; exact HI1.out
      subst hx2
      have KN : Hid (∀ wr D' F', OuM W0 wr F g6 p kn n D' F' (.slice a1 avs.length c1) avs (.slice a2 bvs.length c2) bvs → OuK c g1 g2 g3 g4 g5 gi ci bt ins q f j wr) := KM
      have KN1 : Hid (∀ wr D' F', OuM W0 wr F g6 p kn n D' F' (.slice a1 avs.length c1) avs (.slice a2 bvs.length c2) bvs → ∀ w9, w9 = wr.setCell ⟨g6, 0, none⟩ (.bool true) → MidV W0 w9 F (fun b => b = g6) p kn n D' F' → OuK c g1 g2 g3 g4 g5 gi ci bt ins q f j w9) := Lib.hid fun wr D' F' h w9 e m => KL.out _ _ _ m
      clear RI HI1 HI2 hT
      go_wp2_with fail
      refine wp_region_anyC (fun W => OuK c g1 g2 g3 g4 g5 gi ci bt ins q f j W) (by kernel_rfl) ?_
      have MR := Lib.hid (MS.out.more ((More.refl wa).drewN 1))
      have BR : Hid (BoxB g6 (wa.drewN 1) b0) := Lib.hid (((More.refl wa).drewN 1).block BS.out)
      change anyC _ _ _ _ _ _ _ _ (wa.drewN 1)
      generalize wa.drewN 1 = wq at MR BR ⊢
      generalize hA : Act.mk _ _ = A
      have HF : AG 137 A [(0, .pointer (some ⟨p, 0, none⟩)), (1, .pointer (some ⟨g1, 0, none⟩)), (2, .pointer (some ⟨g2, 0, none⟩)), (3, .pointer (some ⟨g3, 0, none⟩)), (4, .pointer (some ⟨g4, 0, none⟩)), (5, .pointer (some ⟨g5, 0, none⟩)), (6, .pointer (some ⟨g6, 0, none⟩)), (8, .slice a1 avs.length c1), (13, .bool false), (14, .slice a2 bvs.length c2), (15, .bool false)] := by
        rw [← hA]
        refine ⟨⟨Nat.le_of_ble_eq_true rfl, rfl⟩, ?_⟩
        intro z hz; simp only [List.mem_cons, List.not_mem_nil, or_false] at hz; rcases hz with rfl | rfl | rfl | rfl | rfl | rfl | rfl | rfl | rfl | rfl | rfl <;> rfl
      refine anyC_start (fun a W => ∃ (u96 u97 u98 u99 u100 u101 u102 u103 u104 u105 u106 u107 u108 u109 u110 u111 u112 u113 u114 u115 u116 u117 u118 u119 u120 u121 u122 u123 u125 u124 u126 u127 u128 u129 u130 u131 u132 u134 u133 u135 u136 : Value) (D9 : List KV) (F9 : Nat → Prop), a = (Act.put (Act.put (Act.put (Act.put (Act.put (Act.put (Act.put (Act.put (Act.put (Act.put (Act.put (Act.put (Act.put (Act.put (Act.put (Act.put (Act.put (Act.put (Act.put (Act.put (Act.put (Act.put (Act.put (Act.put (Act.put (Act.put (Act.put (Act.put (Act.put (Act.put (Act.put (Act.put (Act.put (Act.put (Act.put (Act.put (Act.put (Act.put (Act.put (Act.put (Act.put (Act.put A (some 96) u96) (some 97) u97) (some 98) u98) (some 99) u99) (some 100) u100) (some 101) u101) (some 102) u102) (some 103) u103) (some 104) u104) (some 105) u105) (some 106) u106) (some 107) u107) (some 108) u108) (some 109) u109) (some 110) u110) (some 111) u111) (some 112) u112) (some 113) u113) (some 114) u114) (some 115) u115) (some 116) u116) (some 117) u117) (some 118) u118) (some 119) u119) (some 120) u120) (some 121) u121) (some 122) u122) (some 123) u123) (some 125) u125) (some 124) u124) (some 126) u126) (some 127) u127) (some 128) u128) (some 129) u129) (some 130) u130) (some 131) u131) (some 132) u132) (some 134) u134) (some 133) u133) (some 135) u135) (some 136) u136) none undef) ∧ MidV W0 W F (fun b => b = g6) p kn n D9 F9 ∧ BoxB g6 W true ∧ ∃ D0, Rr = .ok true D0 ∧ D0 = D9) (fun W => WentY W0 F (fun b => b = g6) (fun w' => OuY c g1 g2 g3 g4 g5 g6 gi ci bt ins q f j w') (fun w' => BoxB g6 w' true) p kn (ranOf Rr) (.panicked (endOf p)) W) (endOf p) (fun a W hd h => ⟨hd, h⟩) (fun _ _ _ _ _ h => h) ?_ ?_
      · skip
        rintro a wb ⟨u96, u97, u98, u99, u100, u101, u102, u103, u104, u105, u106, u107, u108, u109, u110, u111, u112, u113, u114, u115, u116, u117, u118, u119, u120, u121, u122, u123, u125, u124, u126, u127, u128, u129, u130, u131, u132, u134, u133, u135, u136, D9, F9, rfl, MT, BT, EQ9⟩
        rw [← hA]
        have FIN := Lib.hid (FINE9.out wb D9 F9 EQ9 MT BT)
        clear HF hA MR BR MS BS MT BT R8
        go_simp
        go_wp2_with fail
        go_end0
        exact FIN.out
      intro QQ FINE FIND FINQ
      clear hA
      refine anyC_takeD (i := 0) (v := .bool false) (some 96) rfl rfl (by kernel_rfl) (by kernel_rfl) (by kernel_rfl) (fun c a w => FINQ c a _ _ w) (KN.out _ _ _ MR.out) (by exact yieldsC_moveG (wanted_none rfl) _ rfl (HF.get 8 rfl)) ?_
      replace HF := HF.put 96 (.bool false) (by decide) rfl
      generalize hB1_96 : Act.put _ _ _ = A at HF ⊢
      refine anyC_takeD (i := 1) (v := .bool false) (some 97) rfl rfl (by kernel_rfl) (by kernel_rfl) (by kernel_rfl) (fun c a w => FINQ c a _ _ w) (KN.out _ _ _ MR.out) (by exact yieldsC_moveG (wanted_none rfl) _ rfl (HF.get 11 rfl)) ?_
      replace HF := HF.put 97 (.bool false) (by decide) rfl
      generalize hB2_97 : Act.put _ _ _ = A at HF ⊢
      refine anyC_takeD (i := 2) (v := .bool true) (some 98) rfl rfl (by kernel_rfl) (by kernel_rfl) (by kernel_rfl) (fun c a w => FINQ c a _ _ w) (KN.out _ _ _ MR.out) (by exact yieldsC_eqlBB (wanted_none rfl) rfl (HF.get 1 rfl) (HF.get 0 rfl) rfl) ?_
      replace HF := HF.put 98 (.bool true) (by decide) rfl
      generalize hB3_98 : Act.put _ _ _ = A at HF ⊢
      refine anyC_takeD (i := 3) (v := .bool true) (some 99) rfl rfl (by kernel_rfl) (by kernel_rfl) (by kernel_rfl) (fun c a w => FINQ c a _ _ w) (KN.out _ _ _ MR.out) (by exact yieldsC_moveG (wanted_none rfl) _ rfl (HF.get 0 rfl)) ?_
      replace HF := HF.put 99 (.bool true) (by decide) rfl
      generalize hB4_99 : Act.put _ _ _ = A at HF ⊢
      refine anyC_takeD (i := 4) (v := .bool false) (some 100) rfl rfl (by kernel_rfl) (by kernel_rfl) (by kernel_rfl) (fun c a w => FINQ c a _ _ w) (KN.out _ _ _ MR.out) (by exact yieldsC_moveG (wanted_g 3 true 99 rfl rfl (HF.at (by decide) 0 rfl)) _ rfl (HF.get 14 rfl)) ?_
      replace HF := HF.put 100 (.bool false) (by decide) rfl
      generalize hB5_100 : Act.put _ _ _ = A at HF ⊢
      refine anyC_takeD (i := 5) (v := .bool true) (some 101) rfl rfl (by kernel_rfl) (by kernel_rfl) (by kernel_rfl) (fun c a w => FINQ c a _ _ w) (KN.out _ _ _ MR.out) (by exact yieldsC_not (wanted_g 3 true 99 rfl rfl (HF.at (by decide) 1 rfl)) rfl (HF.get 0 rfl)) ?_
      replace HF := HF.put 101 (.bool true) (by decide) rfl
      generalize hB6_101 : Act.put _ _ _ = A at HF ⊢
      refine anyC_takeD (i := 6) (v := .bool true) (some 102) rfl rfl (by kernel_rfl) (by kernel_rfl) (by kernel_rfl) (fun c a w => FINQ c a _ _ w) (KN.out _ _ _ MR.out) (by exact yieldsC_moveG (wanted_g 3 true 99 rfl rfl (HF.at (by decide) 2 rfl)) _ rfl (HF.get 0 rfl)) ?_
      replace HF := HF.put 102 (.bool true) (by decide) rfl
      generalize hB7_102 : Act.put _ _ _ = A at HF ⊢
      refine anyC_takeD (i := 7) (v := undef) (some 103) rfl rfl (by kernel_rfl) (by kernel_rfl) (by kernel_rfl) (fun c a w => FINQ c a _ _ w) (KN.out _ _ _ MR.out) (by exact yieldsC_skip (wanted_gF 6 false 102 rfl rfl (HF.at (by decide) 0 rfl))) ?_
      replace HF := HF.put 103 (undef) (by decide) rfl
      generalize hB8_103 : Act.put _ _ _ = A at HF ⊢
      refine anyC_takeD (i := 8) (v := undef) (some 104) rfl rfl (by kernel_rfl) (by kernel_rfl) (by kernel_rfl) (fun c a w => FINQ c a _ _ w) (KN.out _ _ _ MR.out) (by exact yieldsC_skip (wanted_gF 6 false 102 rfl rfl (HF.at (by decide) 1 rfl))) ?_
      replace HF := HF.put 104 (undef) (by decide) rfl
      generalize hB9_104 : Act.put _ _ _ = A at HF ⊢
      refine anyC_takeD (i := 9) (v := undef) (some 105) rfl rfl (by kernel_rfl) (by kernel_rfl) (by kernel_rfl) (fun c a w => FINQ c a _ _ w) (KN.out _ _ _ MR.out) (by exact yieldsC_skip (wanted_gF 6 false 102 rfl rfl (HF.at (by decide) 2 rfl))) ?_
      replace HF := HF.put 105 (undef) (by decide) rfl
      generalize hB10_105 : Act.put _ _ _ = A at HF ⊢
      refine anyC_takeD (i := 10) (v := undef) (some 106) rfl rfl (by kernel_rfl) (by kernel_rfl) (by kernel_rfl) (fun c a w => FINQ c a _ _ w) (KN.out _ _ _ MR.out) (by exact yieldsC_skip (wanted_gF 6 false 102 rfl rfl (HF.at (by decide) 3 rfl))) ?_
      replace HF := HF.put 106 (undef) (by decide) rfl
      generalize hB11_106 : Act.put _ _ _ = A at HF ⊢
      refine anyC_takeD (i := 11) (v := undef) (some 107) rfl rfl (by kernel_rfl) (by kernel_rfl) (by kernel_rfl) (fun c a w => FINQ c a _ _ w) (KN.out _ _ _ MR.out) (by exact yieldsC_skip (wanted_gF 6 false 102 rfl rfl (HF.at (by decide) 4 rfl))) ?_
      replace HF := HF.put 107 (undef) (by decide) rfl
      generalize hB12_107 : Act.put _ _ _ = A at HF ⊢
      refine anyC_takeD (i := 12) (v := undef) (some 108) rfl rfl (by kernel_rfl) (by kernel_rfl) (by kernel_rfl) (fun c a w => FINQ c a _ _ w) (KN.out _ _ _ MR.out) (by exact yieldsC_skip (wanted_gF 6 false 102 rfl rfl (HF.at (by decide) 5 rfl))) ?_
      replace HF := HF.put 108 (undef) (by decide) rfl
      generalize hB13_108 : Act.put _ _ _ = A at HF ⊢
      refine anyC_takeD (i := 13) (v := undef) (some 109) rfl rfl (by kernel_rfl) (by kernel_rfl) (by kernel_rfl) (fun c a w => FINQ c a _ _ w) (KN.out _ _ _ MR.out) (by exact yieldsC_skip (wanted_gF 6 false 102 rfl rfl (HF.at (by decide) 6 rfl))) ?_
      replace HF := HF.put 109 (undef) (by decide) rfl
      generalize hB14_109 : Act.put _ _ _ = A at HF ⊢
      refine anyC_takeD (i := 14) (v := undef) (some 110) rfl rfl (by kernel_rfl) (by kernel_rfl) (by kernel_rfl) (fun c a w => FINQ c a _ _ w) (KN.out _ _ _ MR.out) (by exact yieldsC_skip (wanted_gU 13 true 109 rfl rfl (HF.at (by decide) 0 rfl))) ?_
      replace HF := HF.put 110 (undef) (by decide) rfl
      generalize hB15_110 : Act.put _ _ _ = A at HF ⊢
      refine anyC_takeD (i := 15) (v := undef) (some 111) rfl rfl (by kernel_rfl) (by kernel_rfl) (by kernel_rfl) (fun c a w => FINQ c a _ _ w) (KN.out _ _ _ MR.out) (by exact yieldsC_skip (wanted_gU 13 true 109 rfl rfl (HF.at (by decide) 1 rfl))) ?_
      replace HF := HF.put 111 (undef) (by decide) rfl
      generalize hB16_111 : Act.put _ _ _ = A at HF ⊢
      refine anyC_takeD (i := 16) (v := undef) (some 112) rfl rfl (by kernel_rfl) (by kernel_rfl) (by kernel_rfl) (fun c a w => FINQ c a _ _ w) (KN.out _ _ _ MR.out) (by exact yieldsC_skip (wanted_gU 13 true 109 rfl rfl (HF.at (by decide) 2 rfl))) ?_
      replace HF := HF.put 112 (undef) (by decide) rfl
      generalize hB17_112 : Act.put _ _ _ = A at HF ⊢
      refine anyC_takeD (i := 17) (v := undef) (some 113) rfl rfl (by kernel_rfl) (by kernel_rfl) (by kernel_rfl) (fun c a w => FINQ c a _ _ w) (KN.out _ _ _ MR.out) (by exact yieldsC_skip (wanted_gU 13 true 109 rfl rfl (HF.at (by decide) 3 rfl))) ?_
      replace HF := HF.put 113 (undef) (by decide) rfl
      generalize hB18_113 : Act.put _ _ _ = A at HF ⊢
      refine anyC_takeD (i := 18) (v := undef) (some 114) rfl rfl (by kernel_rfl) (by kernel_rfl) (by kernel_rfl) (fun c a w => FINQ c a _ _ w) (KN.out _ _ _ MR.out) (by exact yieldsC_skip (wanted_gU 13 true 109 rfl rfl (HF.at (by decide) 4 rfl))) ?_
      replace HF := HF.put 114 (undef) (by decide) rfl
      generalize hB19_114 : Act.put _ _ _ = A at HF ⊢
      refine anyC_takeD (i := 19) (v := undef) (some 115) rfl rfl (by kernel_rfl) (by kernel_rfl) (by kernel_rfl) (fun c a w => FINQ c a _ _ w) (KN.out _ _ _ MR.out) (by exact yieldsC_skip (wanted_gF 6 false 102 rfl rfl (HF.at (by decide) 12 rfl))) ?_
      replace HF := HF.put 115 (undef) (by decide) rfl
      generalize hB20_115 : Act.put _ _ _ = A at HF ⊢
      refine anyC_takeD (i := 20) (v := (.bool true)) (some 116) rfl rfl (by kernel_rfl) (by kernel_rfl) (by kernel_rfl) (fun c a w => FINQ c a _ _ w) (KN.out _ _ _ MR.out) (by exact yieldsC_pickT (wanted_g 3 true 99 rfl rfl (HF.at (by decide) 16 rfl)) rfl (HF.get 13 rfl) rfl) ?_
      replace HF := HF.put 116 ((.bool true)) (by decide) rfl
      generalize hB21_116 : Act.put _ _ _ = A at HF ⊢
      refine anyC_takeD (i := 21) (v := (.bool true)) (some 117) rfl rfl (by kernel_rfl) (by kernel_rfl) (by kernel_rfl) (fun c a w => FINQ c a _ _ w) (KN.out _ _ _ MR.out) (by exact yieldsC_pickT (wanted_none rfl) rfl (HF.get 17 rfl) (HF.get 0 rfl)) ?_
      replace HF := HF.put 117 ((.bool true)) (by decide) rfl
      generalize hB22_117 : Act.put _ _ _ = A at HF ⊢
      refine anyC_takeD (i := 22) (v := (.bool true)) (some 118) rfl rfl (by kernel_rfl) (by kernel_rfl) (by kernel_rfl) (fun c a w => FINQ c a _ _ w) (KN.out _ _ _ MR.out) (by exact yieldsC_moveG (wanted_none rfl) _ rfl (HF.get 0 rfl)) ?_
      replace HF := HF.put 118 ((.bool true)) (by decide) rfl
      generalize hB23_118 : Act.put _ _ _ = A at HF ⊢
      refine anyC_takeD (i := 23) (v := .pointer (some ⟨p, 0, none⟩)) (some 119) rfl rfl (by kernel_rfl) (by kernel_rfl) (by kernel_rfl) (fun c a w => FINQ c a _ _ w) (KN.out _ _ _ MR.out) (by exact yieldsC_moveG (wanted_g 22 true 118 rfl rfl (HF.at (by decide) 0 rfl)) _ rfl (HF.get 23 rfl)) ?_
      replace HF := HF.put 119 (.pointer (some ⟨p, 0, none⟩)) (by decide) rfl
      generalize hB24_119 : Act.put _ _ _ = A at HF ⊢
      refine anyC_takeD (i := 24) (v := .agg c.arr) (some 120) rfl rfl (by kernel_rfl) (by kernel_rfl) (by kernel_rfl) (fun c a w => FINQ c a _ _ w) (KN.out _ _ _ MR.out) (by exact yieldsC_row (C := (fun W => OuK c g1 g2 g3 g4 g5 gi ci bt ins q f j W)) (wanted_g 22 true 118 rfl rfl (HF.at (by decide) 1 rfl)) 28 _ rfl g1 (HF.get 25 rfl) 28 _ _ _ (fun W hW => hW.h1) Tryd.underlying28 rfl (by kernel_rfl)) ?_
      replace HF := HF.put 120 (.agg c.arr) (by decide) rfl
      generalize hB25_120 : Act.put _ _ _ = A at HF ⊢
      refine anyC_takeD (i := 25) (v := .int .i64 (j : Int)) (some 121) rfl rfl (by kernel_rfl) (by kernel_rfl) (by kernel_rfl) (fun c a w => FINQ c a _ _ w) (KN.out _ _ _ MR.out) (by exact yieldsC_int (C := (fun W => OuK c g1 g2 g3 g4 g5 gi ci bt ins q f j W)) (wanted_g 22 true 118 rfl rfl (HF.at (by decide) 2 rfl)) _ rfl g5 (HF.get 30 rfl) _ (fun W hW => hW.h5)) ?_
      replace HF := HF.put 121 (.int .i64 (j : Int)) (by decide) rfl
      generalize hB26_121 : Act.put _ _ _ = A at HF ⊢
      refine anyC_takeD (i := 26) (v := .int .i64 q) (some 122) rfl rfl (by kernel_rfl) (by kernel_rfl) (by kernel_rfl) (fun c a w => FINQ c a _ _ w) (KN.out _ _ _ MR.out) (by exact yieldsC_int (C := (fun W => OuK c g1 g2 g3 g4 g5 gi ci bt ins q f j W)) (wanted_g 22 true 118 rfl rfl (HF.at (by decide) 3 rfl)) _ rfl g2 (HF.get 28 rfl) _ (fun W hW => hW.h2)) ?_
      replace HF := HF.put 122 (.int .i64 q) (by decide) rfl
      generalize hB27_122 : Act.put _ _ _ = A at HF ⊢
      refine anyC_takeD (i := 27) (v := .int .i64 f) (some 123) rfl rfl (by kernel_rfl) (by kernel_rfl) (by kernel_rfl) (fun c a w => FINQ c a _ _ w) (KN.out _ _ _ MR.out) (by exact yieldsC_int (C := (fun W => OuK c g1 g2 g3 g4 g5 gi ci bt ins q f j W)) (wanted_g 22 true 118 rfl rfl (HF.at (by decide) 4 rfl)) _ rfl g3 (HF.get 30 rfl) _ (fun W hW => hW.h3)) ?_
      replace HF := HF.put 123 (.int .i64 f) (by decide) rfl
      generalize hB28_123 : Act.put _ _ _ = A at HF ⊢
      refine anyC_takeD (i := 29) (v := .bool false) (some 125) rfl rfl (by kernel_rfl) (by kernel_rfl) (by kernel_rfl) (fun c a w => FINQ c a _ _ w) (KN.out _ _ _ MR.out) (by exact yieldsC_moveG (wanted_g 22 true 118 rfl rfl (HF.at (by decide) 5 rfl)) _ rfl (HF.get 38 rfl)) ?_
      replace HF := HF.put 125 (.bool false) (by decide) rfl
      generalize hB29_125 : Act.put _ _ _ = A at HF ⊢
      refine anyC_oneK (i := 28) (some 124) (by kernel_rfl) rfl (wanted_g 22 true 118 rfl rfl (HF.at (by decide) 6 rfl)) rfl (fun K hK => ?_)
      refine wp_call5 (v0 := .pointer (some ⟨p, 0, none⟩)) (v1 := .agg c.arr) (v2 := .int .i64 (j : Int)) (v3 := .int .i64 q) (v4 := .int .i64 f) rfl (HF.get 5 rfl) (HF.get 4 rfl) (HF.get 3 rfl) (HF.get 2 rfl) (HF.get 1 rfl) (enters_of Tryd.func23 (by kernel_rfl) rfl) ?_
      refine (pl_Unlink HR.out HH.out hn F3 p kn D3 (j : Int) q f wq MR.out.1.view HK.out MR.out.1.inv).mono ?_
      intro e w4 he
      rcases MR.out.1.step (More.refl _) HK.out (good_plUnlink HH.out _ _ _) he with ⟨a', hE, rfl, hd', ht', hk'⟩ | ⟨x4, D4, F4, hE, rfl, M4', hq4, hk', hf'⟩
      · exact FIND _ _ HF.1.2 (NEED.out a' w4 _ (R8.out.symm.trans (bindP_need hE)) hd' ht' (hk' _ _ (NF.out _ _ _ MR.out.1) BR.out))
      have B4 := Lib.hid (show BoxB g6 w4 b0 from hk' _ _ (NF.out _ _ _ MR.out.1) BR.out)
      have R4 := Lib.hid ((bindP_ok hE).symm.trans R8.out)
      have M4 := Lib.hid (show OuM W0 w4 F g6 p kn n D4 F4 (.slice a1 avs.length c1) avs (.slice a2 bvs.length c2) bvs from ⟨M4', MR.out.2.1.went hk' hf', MR.out.2.2.went hk' hf'⟩)
      clear he hE hk' hf'
      refine hK _ _ (KN.out _ _ _ M4.out) ?_
      clear hK K
      replace HF := HF.put 124 (.bool x4) (by decide) rfl
      generalize hB30_124 : Act.put _ _ _ = A at HF ⊢
      have hx4 : x4 = false := by
        cases x4 with
        | false => rfl
        | true => exact absurd (HT.out _ _ R4.out.symm) (by simp)
      subst hx4
      have R4' := Lib.hid (show bindP (plListP c.pg c.st q f) (fun z => pureP (decide (z = avs))) kn D4 = Rr from R4.out)
      refine anyC_takeD (i := 30) (v := .bool true) (some 126) rfl rfl (by kernel_rfl) (by kernel_rfl) (by kernel_rfl) (fun c a w => FINQ c a _ _ w) (KN.out _ _ _ M4.out) (by exact yieldsC_eqlBB (wanted_g 22 true 118 rfl rfl (HF.at (by decide) 7 rfl)) rfl (HF.get 0 rfl) (HF.get 1 rfl) rfl) ?_
      replace HF := HF.put 126 (.bool true) (by decide) rfl
      generalize hB31_126 : Act.put _ _ _ = A at HF ⊢
      refine anyC_takeD (i := 31) (v := .bool true) (some 127) rfl rfl (by kernel_rfl) (by kernel_rfl) (by kernel_rfl) (fun c a w => FINQ c a _ _ w) (KN.out _ _ _ M4.out) (by exact yieldsC_pickT (wanted_none rfl) rfl (HF.get 8 rfl) (HF.get 0 rfl)) ?_
      replace HF := HF.put 127 (.bool true) (by decide) rfl
      generalize hB32_127 : Act.put _ _ _ = A at HF ⊢
      refine anyC_takeD (i := 32) (v := .bool true) (some 128) rfl rfl (by kernel_rfl) (by kernel_rfl) (by kernel_rfl) (fun c a w => FINQ c a _ _ w) (KN.out _ _ _ M4.out) (by exact yieldsC_moveG (wanted_none rfl) _ rfl (HF.get 0 rfl)) ?_
      replace HF := HF.put 128 (.bool true) (by decide) rfl
      generalize hB33_128 : Act.put _ _ _ = A at HF ⊢
      refine anyC_takeD (i := 33) (v := .pointer (some ⟨p, 0, none⟩)) (some 129) rfl rfl (by kernel_rfl) (by kernel_rfl) (by kernel_rfl) (fun c a w => FINQ c a _ _ w) (KN.out _ _ _ M4.out) (by exact yieldsC_moveG (wanted_g 32 true 128 rfl rfl (HF.at (by decide) 0 rfl)) _ rfl (HF.get 33 rfl)) ?_
      replace HF := HF.put 129 (.pointer (some ⟨p, 0, none⟩)) (by decide) rfl
      generalize hB34_129 : Act.put _ _ _ = A at HF ⊢
      refine anyC_takeD (i := 34) (v := .agg c.arr) (some 130) rfl rfl (by kernel_rfl) (by kernel_rfl) (by kernel_rfl) (fun c a w => FINQ c a _ _ w) (KN.out _ _ _ M4.out) (by exact yieldsC_row (C := (fun W => OuK c g1 g2 g3 g4 g5 gi ci bt ins q f j W)) (wanted_g 32 true 128 rfl rfl (HF.at (by decide) 1 rfl)) 28 _ rfl g1 (HF.get 35 rfl) 28 _ _ _ (fun W hW => hW.h1) Tryd.underlying28 rfl (by kernel_rfl)) ?_
      replace HF := HF.put 130 (.agg c.arr) (by decide) rfl
      generalize hB35_130 : Act.put _ _ _ = A at HF ⊢
      refine anyC_takeD (i := 35) (v := .int .i64 q) (some 131) rfl rfl (by kernel_rfl) (by kernel_rfl) (by kernel_rfl) (fun c a w => FINQ c a _ _ w) (KN.out _ _ _ M4.out) (by exact yieldsC_int (C := (fun W => OuK c g1 g2 g3 g4 g5 gi ci bt ins q f j W)) (wanted_g 32 true 128 rfl rfl (HF.at (by decide) 2 rfl)) _ rfl g2 (HF.get 37 rfl) _ (fun W hW => hW.h2)) ?_
      replace HF := HF.put 131 (.int .i64 q) (by decide) rfl
      generalize hB36_131 : Act.put _ _ _ = A at HF ⊢
      refine anyC_takeD (i := 36) (v := .int .i64 f) (some 132) rfl rfl (by kernel_rfl) (by kernel_rfl) (by kernel_rfl) (fun c a w => FINQ c a _ _ w) (KN.out _ _ _ M4.out) (by exact yieldsC_int (C := (fun W => OuK c g1 g2 g3 g4 g5 gi ci bt ins q f j W)) (wanted_g 32 true 128 rfl rfl (HF.at (by decide) 3 rfl)) _ rfl g3 (HF.get 39 rfl) _ (fun W hW => hW.h3)) ?_
      replace HF := HF.put 132 (.int .i64 f) (by decide) rfl
      generalize hB37_132 : Act.put _ _ _ = A at HF ⊢
      refine anyC_takeD (i := 38) (v := .slice a1 avs.length c1) (some 134) rfl rfl (by kernel_rfl) (by kernel_rfl) (by kernel_rfl) (fun c a w => FINQ c a _ _ w) (KN.out _ _ _ M4.out) (by exact yieldsC_moveG (wanted_g 32 true 128 rfl rfl (HF.at (by decide) 4 rfl)) _ rfl (HF.get 44 rfl)) ?_
      replace HF := HF.put 134 (.slice a1 avs.length c1) (by decide) rfl
      generalize hB38_134 : Act.put _ _ _ = A at HF ⊢
      refine anyC_oneK (i := 37) (some 133) (by kernel_rfl) rfl (wanted_g 32 true 128 rfl rfl (HF.at (by decide) 5 rfl)) rfl (fun K hK => ?_)
      refine wp_call4 (v0 := .pointer (some ⟨p, 0, none⟩)) (v1 := .agg c.arr) (v2 := .int .i64 q) (v3 := .int .i64 f) rfl (HF.get 4 rfl) (HF.get 3 rfl) (HF.get 2 rfl) (HF.get 1 rfl) (enters_of Tryd.func12 (by kernel_rfl) rfl) ?_
      refine (pl_List HR.out HH.out F4 p kn D4 q f w4 M4.out.1.view HK.out M4.out.1.inv).mono ?_
      intro e w9 he
      rcases M4.out.1.stepR (More.refl _) HK.out (good_plList HH.out _ _) he with ⟨a', hE, rfl, hd', ht', hk'⟩ | ⟨x9, D9, F9, v9, hE, rfl, hp9, M9', hq9, hk', hf'⟩
      · exact FIND _ _ HF.1.2 (NEED.out a' w9 _ (R4'.out.symm.trans (bindP_need hE)) hd' ht' (hk' _ _ (NF.out _ _ _ M4.out.1) B4.out))
      have B9 := Lib.hid (show BoxB g6 w9 b0 from hk' _ _ (NF.out _ _ _ M4.out.1) B4.out)
      have R9 := Lib.hid ((bindP_ok hE).symm.trans R4'.out)
      have M9 := Lib.hid (show OuM W0 w9 F g6 p kn n D9 F9 (.slice a1 avs.length c1) avs (.slice a2 bvs.length c2) bvs from ⟨M9', M4.out.2.1.went hk' hf', M4.out.2.2.went hk' hf'⟩)
      have hx9 : avs = x9 := by have h := HT.out _ _ R9.out.symm; exact (by simpa using h : x9 = avs).symm
      have hp9 : OwnR w4.heap.size F9 w9 v9 x9 := hp9
      subst hx9
      have P9 := Lib.hid hp9.1
      have E9 := Lib.hid (show Rr = .ok true D9 from by have h : Rr = pureP (decide (avs = avs)) kn D9 := R9.out.symm; rw [decide_eq_true rfl] at h; exact h)
      clear he hE hk' hf' hp9 R9
      refine hK _ _ (KN.out _ _ _ M9.out) ?_
      clear hK K
      replace HF := HF.put 133 (v9) (by decide) rfl
      generalize hB39_133 : Act.put _ _ _ = A at HF ⊢
      refine anyC_oneK (i := 39) (some 135) (by kernel_rfl) rfl (wanted_g 32 true 128 rfl rfl (HF.at (by decide) 6 rfl)) rfl (fun K hK => ?_)
      refine wp_call2 (v0 := v9) (v1 := .slice a1 avs.length c1) rfl (HF.get 0 rfl) (HF.get 1 rfl) (enters_of Tryd.func16 (by kernel_rfl) rfl) ?_
      refine (rows_same avs v9 (.slice a1 avs.length c1) _ _ w9 hal P9.out M9.out.2.1.1).mono ?_
      rintro e w10 ⟨rfl, h10⟩
      have M10 := Lib.hid (M9.out.more h10)
      have B10 : Hid (BoxB g6 w10 b0) := Lib.hid (h10.block B9.out)
      clear h10
      refine hK _ _ (KN.out _ _ _ M10.out) ?_
      clear hK K
      replace HF := HF.put 135 (.bool true) (by decide) rfl
      generalize hB40_135 : Act.put _ _ _ = A at HF ⊢
      refine anyC_takeD (i := 40) (v := .bool true) (some 136) rfl rfl (by kernel_rfl) (by kernel_rfl) (by kernel_rfl) (fun c a w => FINQ c a _ _ w) (KN.out _ _ _ M10.out) (by exact yieldsC_pickT (wanted_none rfl) rfl (HF.get 7 rfl) (HF.get 0 rfl)) ?_
      replace HF := HF.put 136 (.bool true) (by decide) rfl
      generalize hB41_136 : Act.put _ _ _ = A at HF ⊢
      refine anyC_last (i := 41) (by kernel_rfl) (by kernel_rfl) rfl (wanted_none rfl) (fun K hK => ?_)
      refine wp_store_bool rfl g6 (HF.get 47 rfl) true (HF.get 0 rfl) _ B10.out ?_
      have MT := M10.out.1.box (fun _ => rfl) (NF.out _ _ _ M10.out.1) (.bool true) B10.out
      have BT := boxB_set B10.out true
      refine hK _ _ (KN1.out _ _ _ M10.out _ rfl MT) (FINE _ _ ⟨(.bool false), (.bool false), (.bool true), (.bool true), (.bool false), (.bool true), (.bool true), (undef), (undef), (undef), (undef), (undef), (undef), (undef), (undef), (undef), (undef), (undef), (undef), (undef), ((.bool true)), ((.bool true)), ((.bool true)), (.pointer (some ⟨p, 0, none⟩)), (.agg c.arr), (.int .i64 (j : Int)), (.int .i64 q), (.int .i64 f), (.bool false), (.bool false), (.bool true), (.bool true), (.bool true), (.pointer (some ⟨p, 0, none⟩)), (.agg c.arr), (.int .i64 q), (.int .i64 f), (.slice a1 avs.length c1), (v9), (.bool true), (.bool true), _, _, by rw [← hB41_136, ← hB40_135, ← hB39_133, ← hB38_134, ← hB37_132, ← hB36_131, ← hB35_130, ← hB34_129, ← hB33_128, ← hB32_127, ← hB31_126, ← hB30_124, ← hB29_125, ← hB28_123, ← hB27_122, ← hB26_121, ← hB25_120, ← hB24_119, ← hB23_118, ← hB22_117, ← hB21_116, ← hB20_115, ← hB19_114, ← hB18_113, ← hB17_112, ← hB16_111, ← hB15_110, ← hB14_109, ← hB13_108, ← hB12_107, ← hB11_106, ← hB10_105, ← hB9_104, ← hB8_103, ← hB7_102, ← hB6_101, ← hB5_100, ← hB4_99, ← hB3_98, ← hB2_97, ← hB1_96]; rfl, MT, BT, ⟨_, E9.out, rfl⟩⟩)
    | true =>
      have R8 := Lib.hid (show bindP (plUnlinkP c.pg c.st j q f) (fun u => if u == true then bindP (plListP c.pg c.st q f) (fun z => pureP (decide (z = avs))) else pureP false) kn D3 = Rr from by have h := RI.out; rw [hT] at h; exact h)
      have hx2 : x2 = true := by rw [← hT]; exact HI1.out
      subst hx2
      have h2 := HI2.out
      rw [hT] at h2
      have h2' : bvs.length = avs.length + 1 ∧ bvs.getD 0 0 = (j : Int) := by simpa using h2
      have hbl : 0 < bvs.length := by omega
      obtain ⟨a9, c9, e9, hr9⟩ := P3.out.1.reads
      simp only [Value.slice.injEq] at e9
      obtain ⟨rfl, _, rfl⟩ := e9
      obtain ⟨ga, rfl, _⟩ := hr9 0 hbl
      have KN : Hid (∀ wr D' F', OuM W0 wr F g6 p kn n D' F' (.slice a1 avs.length c1) avs (.slice (some ⟨ga, 0, none⟩) bvs.length c2) bvs → OuK c g1 g2 g3 g4 g5 gi ci bt ins q f j wr ∧ wr.cell? ⟨ga, 0, none⟩ = some (.int .i64 (j : Int))) := Lib.hid fun wr D' F' h => ⟨KL.out _ _ _ h.1, by
        obtain ⟨a9, c9, e9, hr9⟩ := h.2.2.1.reads
        simp only [Value.slice.injEq] at e9
        obtain ⟨rfl, _, rfl⟩ := e9
        obtain ⟨gb, e, _, _, hc⟩ := hr9 0 hbl
        simp only [Option.some.injEq, Addr.mk.injEq, and_true] at e
        subst e
        rw [hc 0 hbl, h2'.2]⟩
      have KN1 : Hid (∀ wr D' F', OuM W0 wr F g6 p kn n D' F' (.slice a1 avs.length c1) avs (.slice (some ⟨ga, 0, none⟩) bvs.length c2) bvs → ∀ w9, w9 = wr.setCell ⟨g6, 0, none⟩ (.bool true) → MidV W0 w9 F (fun b => b = g6) p kn n D' F' → OuK c g1 g2 g3 g4 g5 gi ci bt ins q f j w9 ∧ w9.cell? ⟨ga, 0, none⟩ = some (.int .i64 (j : Int))) := Lib.hid fun wr D' F' h w9 e m => KN.out w9 D' F' ⟨m, by rw [e]; exact h.2.1.set l6, by rw [e]; exact h.2.2.set l6⟩
      have X1 := Lib.hid (show IntKind.i64.wrap ((avs.length : Int) + 1) = (avs.length : Int) + 1 from wrap_in (by omega) (by omega))
      have X2 := Lib.hid (show ((bvs.length : Int) == ((avs.length : Int) + 1)) = true by rw [h2'.1]; simp)
      clear RI HI1 HI2 hT h2 h2' hr9 KM
      go_wp2_with fail
      refine wp_region_anyC (fun W => OuK c g1 g2 g3 g4 g5 gi ci bt ins q f j W ∧ W.cell? ⟨ga, 0, none⟩ = some (.int .i64 (j : Int))) (by kernel_rfl) ?_
      have MR := Lib.hid (MS.out.more ((More.refl wa).drewN 1))
      have BR : Hid (BoxB g6 (wa.drewN 1) b0) := Lib.hid (((More.refl wa).drewN 1).block BS.out)
      change anyC _ _ _ _ _ _ _ _ (wa.drewN 1)
      generalize wa.drewN 1 = wq at MR BR ⊢
      generalize hA : Act.mk _ _ = A
      have HF : AG 137 A [(0, .pointer (some ⟨p, 0, none⟩)), (1, .pointer (some ⟨g1, 0, none⟩)), (2, .pointer (some ⟨g2, 0, none⟩)), (3, .pointer (some ⟨g3, 0, none⟩)), (4, .pointer (some ⟨g4, 0, none⟩)), (5, .pointer (some ⟨g5, 0, none⟩)), (6, .pointer (some ⟨g6, 0, none⟩)), (8, .slice a1 avs.length c1), (13, .bool true), (14, .slice (some ⟨ga, 0, none⟩) bvs.length c2), (15, .bool true)] := by
        rw [← hA]
        refine ⟨⟨Nat.le_of_ble_eq_true rfl, rfl⟩, ?_⟩
        intro z hz; simp only [List.mem_cons, List.not_mem_nil, or_false] at hz; rcases hz with rfl | rfl | rfl | rfl | rfl | rfl | rfl | rfl | rfl | rfl | rfl <;> rfl
      refine anyC_start (fun a W => ∃ (u96 u97 u98 u99 u100 u101 u102 u103 u104 u105 u106 u107 u108 u109 u110 u111 u112 u113 u114 u115 u116 u117 u118 u119 u120 u121 u122 u123 u125 u124 u126 u127 u128 u129 u130 u131 u132 u134 u133 u135 u136 : Value) (D9 : List KV) (F9 : Nat → Prop), a = (Act.put (Act.put (Act.put (Act.put (Act.put (Act.put (Act.put (Act.put (Act.put (Act.put (Act.put (Act.put (Act.put (Act.put (Act.put (Act.put (Act.put (Act.put (Act.put (Act.put (Act.put (Act.put (Act.put (Act.put (Act.put (Act.put (Act.put (Act.put (Act.put (Act.put (Act.put (Act.put (Act.put (Act.put (Act.put (Act.put (Act.put (Act.put (Act.put (Act.put (Act.put (Act.put A (some 96) u96) (some 97) u97) (some 98) u98) (some 99) u99) (some 100) u100) (some 101) u101) (some 102) u102) (some 103) u103) (some 104) u104) (some 105) u105) (some 106) u106) (some 107) u107) (some 108) u108) (some 109) u109) (some 110) u110) (some 111) u111) (some 112) u112) (some 113) u113) (some 114) u114) (some 115) u115) (some 116) u116) (some 117) u117) (some 118) u118) (some 119) u119) (some 120) u120) (some 121) u121) (some 122) u122) (some 123) u123) (some 125) u125) (some 124) u124) (some 126) u126) (some 127) u127) (some 128) u128) (some 129) u129) (some 130) u130) (some 131) u131) (some 132) u132) (some 134) u134) (some 133) u133) (some 135) u135) (some 136) u136) none undef) ∧ MidV W0 W F (fun b => b = g6) p kn n D9 F9 ∧ BoxB g6 W true ∧ ∃ D0, Rr = .ok true D0 ∧ D0 = D9) (fun W => WentY W0 F (fun b => b = g6) (fun w' => OuY c g1 g2 g3 g4 g5 g6 gi ci bt ins q f j w') (fun w' => BoxB g6 w' true) p kn (ranOf Rr) (.panicked (endOf p)) W) (endOf p) (fun a W hd h => ⟨hd, h⟩) (fun _ _ _ _ _ h => h) ?_ ?_
      · skip
        rintro a wb ⟨u96, u97, u98, u99, u100, u101, u102, u103, u104, u105, u106, u107, u108, u109, u110, u111, u112, u113, u114, u115, u116, u117, u118, u119, u120, u121, u122, u123, u125, u124, u126, u127, u128, u129, u130, u131, u132, u134, u133, u135, u136, D9, F9, rfl, MT, BT, EQ9⟩
        rw [← hA]
        have FIN := Lib.hid (FINE9.out wb D9 F9 EQ9 MT BT)
        clear HF hA MR BR MS BS MT BT R8
        go_simp
        go_wp2_with fail
        go_end0
        exact FIN.out
      intro QQ FINE FIND FINQ
      clear hA
      refine anyC_takeD (i := 0) (v := .bool true) (some 96) rfl rfl (by kernel_rfl) (by kernel_rfl) (by kernel_rfl) (fun c a w => FINQ c a _ _ w) (KN.out _ _ _ MR.out) (by exact yieldsC_moveG (wanted_none rfl) _ rfl (HF.get 8 rfl)) ?_
      replace HF := HF.put 96 (.bool true) (by decide) rfl
      generalize hB1_96 : Act.put _ _ _ = A at HF ⊢
      refine anyC_takeD (i := 1) (v := .bool true) (some 97) rfl rfl (by kernel_rfl) (by kernel_rfl) (by kernel_rfl) (fun c a w => FINQ c a _ _ w) (KN.out _ _ _ MR.out) (by exact yieldsC_moveG (wanted_none rfl) _ rfl (HF.get 11 rfl)) ?_
      replace HF := HF.put 97 (.bool true) (by decide) rfl
      generalize hB2_97 : Act.put _ _ _ = A at HF ⊢
      refine anyC_takeD (i := 2) (v := .bool true) (some 98) rfl rfl (by kernel_rfl) (by kernel_rfl) (by kernel_rfl) (fun c a w => FINQ c a _ _ w) (KN.out _ _ _ MR.out) (by exact yieldsC_eqlBB (wanted_none rfl) rfl (HF.get 1 rfl) (HF.get 0 rfl) rfl) ?_
      replace HF := HF.put 98 (.bool true) (by decide) rfl
      generalize hB3_98 : Act.put _ _ _ = A at HF ⊢
      refine anyC_takeD (i := 3) (v := .bool true) (some 99) rfl rfl (by kernel_rfl) (by kernel_rfl) (by kernel_rfl) (fun c a w => FINQ c a _ _ w) (KN.out _ _ _ MR.out) (by exact yieldsC_moveG (wanted_none rfl) _ rfl (HF.get 0 rfl)) ?_
      replace HF := HF.put 99 (.bool true) (by decide) rfl
      generalize hB4_99 : Act.put _ _ _ = A at HF ⊢
      refine anyC_takeD (i := 4) (v := .bool true) (some 100) rfl rfl (by kernel_rfl) (by kernel_rfl) (by kernel_rfl) (fun c a w => FINQ c a _ _ w) (KN.out _ _ _ MR.out) (by exact yieldsC_moveG (wanted_g 3 true 99 rfl rfl (HF.at (by decide) 0 rfl)) _ rfl (HF.get 14 rfl)) ?_
      replace HF := HF.put 100 (.bool true) (by decide) rfl
      generalize hB5_100 : Act.put _ _ _ = A at HF ⊢
      refine anyC_takeD (i := 5) (v := .bool false) (some 101) rfl rfl (by kernel_rfl) (by kernel_rfl) (by kernel_rfl) (fun c a w => FINQ c a _ _ w) (KN.out _ _ _ MR.out) (by exact yieldsC_not (wanted_g 3 true 99 rfl rfl (HF.at (by decide) 1 rfl)) rfl (HF.get 0 rfl)) ?_
      replace HF := HF.put 101 (.bool false) (by decide) rfl
      generalize hB6_101 : Act.put _ _ _ = A at HF ⊢
      refine anyC_takeD (i := 6) (v := .bool false) (some 102) rfl rfl (by kernel_rfl) (by kernel_rfl) (by kernel_rfl) (fun c a w => FINQ c a _ _ w) (KN.out _ _ _ MR.out) (by exact yieldsC_moveG (wanted_g 3 true 99 rfl rfl (HF.at (by decide) 2 rfl)) _ rfl (HF.get 0 rfl)) ?_
      replace HF := HF.put 102 (.bool false) (by decide) rfl
      generalize hB7_102 : Act.put _ _ _ = A at HF ⊢
      refine anyC_takeD (i := 7) (v := .slice (some ⟨ga, 0, none⟩) bvs.length c2) (some 103) rfl rfl (by kernel_rfl) (by kernel_rfl) (by kernel_rfl) (fun c a w => FINQ c a _ _ w) (KN.out _ _ _ MR.out) (by exact yieldsC_moveG (wanted_g 6 false 102 rfl rfl (HF.at (by decide) 0 rfl)) _ rfl (HF.get 16 rfl)) ?_
      replace HF := HF.put 103 (.slice (some ⟨ga, 0, none⟩) bvs.length c2) (by decide) rfl
      generalize hB8_103 : Act.put _ _ _ = A at HF ⊢
      refine anyC_takeD (i := 8) (v := .int .i64 (bvs.length : Int)) (some 104) rfl rfl (by kernel_rfl) (by kernel_rfl) (by kernel_rfl) (fun c a w => FINQ c a _ _ w) (KN.out _ _ _ MR.out) (by exact (Or.inl ⟨(wanted_g 6 false 102 rfl rfl (HF.at (by decide) 1 rfl)), fun W hW => by have h5 := (HF.getD 0 rfl); go_simp⟩)) ?_
      replace HF := HF.put 104 (.int .i64 (bvs.length : Int)) (by decide) rfl
      generalize hB9_104 : Act.put _ _ _ = A at HF ⊢
      refine anyC_takeD (i := 9) (v := .slice a1 avs.length c1) (some 105) rfl rfl (by kernel_rfl) (by kernel_rfl) (by kernel_rfl) (fun c a w => FINQ c a _ _ w) (KN.out _ _ _ MR.out) (by exact yieldsC_moveG (wanted_g 6 false 102 rfl rfl (HF.at (by decide) 2 rfl)) _ rfl (HF.get 16 rfl)) ?_
      replace HF := HF.put 105 (.slice a1 avs.length c1) (by decide) rfl
      generalize hB10_105 : Act.put _ _ _ = A at HF ⊢
      refine anyC_takeD (i := 10) (v := .int .i64 (avs.length : Int)) (some 106) rfl rfl (by kernel_rfl) (by kernel_rfl) (by kernel_rfl) (fun c a w => FINQ c a _ _ w) (KN.out _ _ _ MR.out) (by exact (Or.inl ⟨(wanted_g 6 false 102 rfl rfl (HF.at (by decide) 3 rfl)), fun W hW => by have h5 := (HF.getD 0 rfl); go_simp⟩)) ?_
      replace HF := HF.put 106 (.int .i64 (avs.length : Int)) (by decide) rfl
      generalize hB11_106 : Act.put _ _ _ = A at HF ⊢
      refine anyC_takeD (i := 11) (v := .int .i64 ((avs.length : Int) + 1)) (some 107) rfl rfl (by kernel_rfl) (by kernel_rfl) (by kernel_rfl) (fun c a w => FINQ c a _ _ w) (KN.out _ _ _ MR.out) (by exact yieldsC_addI (wanted_g 6 false 102 rfl rfl (HF.at (by decide) 4 rfl)) rfl (HF.get 0 rfl) rfl _ X1.out) ?_
      replace HF := HF.put 107 (.int .i64 ((avs.length : Int) + 1)) (by decide) rfl
      generalize hB12_107 : Act.put _ _ _ = A at HF ⊢
      refine anyC_takeD (i := 12) (v := .bool true) (some 108) rfl rfl (by kernel_rfl) (by kernel_rfl) (by kernel_rfl) (fun c a w => FINQ c a _ _ w) (KN.out _ _ _ MR.out) (by exact yieldsC_eqI (wanted_g 6 false 102 rfl rfl (HF.at (by decide) 5 rfl)) rfl (HF.get 3 rfl) (HF.get 0 rfl) true X2.out) ?_
      replace HF := HF.put 108 (.bool true) (by decide) rfl
      generalize hB13_108 : Act.put _ _ _ = A at HF ⊢
      refine anyC_takeD (i := 13) (v := .bool true) (some 109) rfl rfl (by kernel_rfl) (by kernel_rfl) (by kernel_rfl) (fun c a w => FINQ c a _ _ w) (KN.out _ _ _ MR.out) (by exact yieldsC_moveG (wanted_g 6 false 102 rfl rfl (HF.at (by decide) 6 rfl)) _ rfl (HF.get 0 rfl)) ?_
      replace HF := HF.put 109 (.bool true) (by decide) rfl
      generalize hB14_109 : Act.put _ _ _ = A at HF ⊢
      refine anyC_takeD (i := 14) (v := .slice (some ⟨ga, 0, none⟩) bvs.length c2) (some 110) rfl rfl (by kernel_rfl) (by kernel_rfl) (by kernel_rfl) (fun c a w => FINQ c a _ _ w) (KN.out _ _ _ MR.out) (by exact yieldsC_moveG (wanted_g 13 true 109 rfl rfl (HF.at (by decide) 0 rfl)) _ rfl (HF.get 23 rfl)) ?_
      replace HF := HF.put 110 (.slice (some ⟨ga, 0, none⟩) bvs.length c2) (by decide) rfl
      generalize hB15_110 : Act.put _ _ _ = A at HF ⊢
      refine anyC_takeD (i := 15) (v := .pointer (some ⟨ga, 0, none⟩)) (some 111) rfl rfl (by kernel_rfl) (by kernel_rfl) (by kernel_rfl) (fun c a w => FINQ c a _ _ w) (KN.out _ _ _ MR.out) (by exact yieldsC_indexI (wanted_g 13 true 109 rfl rfl (HF.at (by decide) 1 rfl)) rfl (HF.get 0 rfl) rfl hbl) ?_
      replace HF := HF.put 111 (.pointer (some ⟨ga, 0, none⟩)) (by decide) rfl
      generalize hB16_111 : Act.put _ _ _ = A at HF ⊢
      refine anyC_takeD (i := 16) (v := .int .i64 (j : Int)) (some 112) rfl rfl (by kernel_rfl) (by kernel_rfl) (by kernel_rfl) (fun c a w => FINQ c a _ _ w) (KN.out _ _ _ MR.out) (by exact yieldsC_cell (C := (fun W => OuK c g1 g2 g3 g4 g5 gi ci bt ins q f j W ∧ W.cell? ⟨ga, 0, none⟩ = some (.int .i64 (j : Int)))) (wanted_g 13 true 109 rfl rfl (HF.at (by decide) 2 rfl)) 3 _ rfl ga 0 (HF.get 0 rfl) (.int .i64 (j : Int)) _ Tryd.underlying3 rfl (fun W hW => hW.2)) ?_
      replace HF := HF.put 112 (.int .i64 (j : Int)) (by decide) rfl
      generalize hB17_112 : Act.put _ _ _ = A at HF ⊢
      refine anyC_takeD (i := 17) (v := .int .i64 (j : Int)) (some 113) rfl rfl (by kernel_rfl) (by kernel_rfl) (by kernel_rfl) (fun c a w => FINQ c a _ _ w) (KN.out _ _ _ MR.out) (by exact yieldsC_int (C := (fun W => OuK c g1 g2 g3 g4 g5 gi ci bt ins q f j W ∧ W.cell? ⟨ga, 0, none⟩ = some (.int .i64 (j : Int)))) (wanted_g 13 true 109 rfl rfl (HF.at (by decide) 3 rfl)) _ rfl g5 (HF.get 22 rfl) _ (fun W hW => hW.1.h5)) ?_
      replace HF := HF.put 113 (.int .i64 (j : Int)) (by decide) rfl
      generalize hB18_113 : Act.put _ _ _ = A at HF ⊢
      refine anyC_takeD (i := 18) (v := .bool true) (some 114) rfl rfl (by kernel_rfl) (by kernel_rfl) (by kernel_rfl) (fun c a w => FINQ c a _ _ w) (KN.out _ _ _ MR.out) (by exact yieldsC_eqI (wanted_g 13 true 109 rfl rfl (HF.at (by decide) 4 rfl)) rfl (HF.get 1 rfl) (HF.get 0 rfl) true (by simp)) ?_
      replace HF := HF.put 114 (.bool true) (by decide) rfl
      generalize hB19_114 : Act.put _ _ _ = A at HF ⊢
      refine anyC_takeD (i := 19) (v := .bool true) (some 115) rfl rfl (by kernel_rfl) (by kernel_rfl) (by kernel_rfl) (fun c a w => FINQ c a _ _ w) (KN.out _ _ _ MR.out) (by exact yieldsC_pickT (wanted_g 6 false 102 rfl rfl (HF.at (by decide) 12 rfl)) rfl (HF.get 5 rfl) (HF.get 0 rfl)) ?_
      replace HF := HF.put 115 (.bool true) (by decide) rfl
      generalize hB20_115 : Act.put _ _ _ = A at HF ⊢
      refine anyC_takeD (i := 20) (v := .bool true) (some 116) rfl rfl (by kernel_rfl) (by kernel_rfl) (by kernel_rfl) (fun c a w => FINQ c a _ _ w) (KN.out _ _ _ MR.out) (by exact yieldsC_pickF (wanted_g 3 true 99 rfl rfl (HF.at (by decide) 16 rfl)) rfl (HF.get 13 rfl) (HF.get 0 rfl)) ?_
      replace HF := HF.put 116 (.bool true) (by decide) rfl
      generalize hB21_116 : Act.put _ _ _ = A at HF ⊢
      refine anyC_takeD (i := 21) (v := .bool true) (some 117) rfl rfl (by kernel_rfl) (by kernel_rfl) (by kernel_rfl) (fun c a w => FINQ c a _ _ w) (KN.out _ _ _ MR.out) (by exact yieldsC_pickT (wanted_none rfl) rfl (HF.get 17 rfl) (HF.get 0 rfl)) ?_
      replace HF := HF.put 117 (.bool true) (by decide) rfl
      generalize hB22_117 : Act.put _ _ _ = A at HF ⊢
      refine anyC_takeD (i := 22) (v := .bool true) (some 118) rfl rfl (by kernel_rfl) (by kernel_rfl) (by kernel_rfl) (fun c a w => FINQ c a _ _ w) (KN.out _ _ _ MR.out) (by exact yieldsC_moveG (wanted_none rfl) _ rfl (HF.get 0 rfl)) ?_
      replace HF := HF.put 118 (.bool true) (by decide) rfl
      generalize hB23_118 : Act.put _ _ _ = A at HF ⊢
      refine anyC_takeD (i := 23) (v := .pointer (some ⟨p, 0, none⟩)) (some 119) rfl rfl (by kernel_rfl) (by kernel_rfl) (by kernel_rfl) (fun c a w => FINQ c a _ _ w) (KN.out _ _ _ MR.out) (by exact yieldsC_moveG (wanted_g 22 true 118 rfl rfl (HF.at (by decide) 0 rfl)) _ rfl (HF.get 23 rfl)) ?_
      replace HF := HF.put 119 (.pointer (some ⟨p, 0, none⟩)) (by decide) rfl
      generalize hB24_119 : Act.put _ _ _ = A at HF ⊢
      refine anyC_takeD (i := 24) (v := .agg c.arr) (some 120) rfl rfl (by kernel_rfl) (by kernel_rfl) (by kernel_rfl) (fun c a w => FINQ c a _ _ w) (KN.out _ _ _ MR.out) (by exact yieldsC_row (C := (fun W => OuK c g1 g2 g3 g4 g5 gi ci bt ins q f j W ∧ W.cell? ⟨ga, 0, none⟩ = some (.int .i64 (j : Int)))) (wanted_g 22 true 118 rfl rfl (HF.at (by decide) 1 rfl)) 28 _ rfl g1 (HF.get 25 rfl) 28 _ _ _ (fun W hW => hW.1.h1) Tryd.underlying28 rfl (by kernel_rfl)) ?_
      replace HF := HF.put 120 (.agg c.arr) (by decide) rfl
      generalize hB25_120 : Act.put _ _ _ = A at HF ⊢
      refine anyC_takeD (i := 25) (v := .int .i64 (j : Int)) (some 121) rfl rfl (by kernel_rfl) (by kernel_rfl) (by kernel_rfl) (fun c a w => FINQ c a _ _ w) (KN.out _ _ _ MR.out) (by exact yieldsC_int (C := (fun W => OuK c g1 g2 g3 g4 g5 gi ci bt ins q f j W ∧ W.cell? ⟨ga, 0, none⟩ = some (.int .i64 (j : Int)))) (wanted_g 22 true 118 rfl rfl (HF.at (by decide) 2 rfl)) _ rfl g5 (HF.get 30 rfl) _ (fun W hW => hW.1.h5)) ?_
      replace HF := HF.put 121 (.int .i64 (j : Int)) (by decide) rfl
      generalize hB26_121 : Act.put _ _ _ = A at HF ⊢
      refine anyC_takeD (i := 26) (v := .int .i64 q) (some 122) rfl rfl (by kernel_rfl) (by kernel_rfl) (by kernel_rfl) (fun c a w => FINQ c a _ _ w) (KN.out _ _ _ MR.out) (by exact yieldsC_int (C := (fun W => OuK c g1 g2 g3 g4 g5 gi ci bt ins q f j W ∧ W.cell? ⟨ga, 0, none⟩ = some (.int .i64 (j : Int)))) (wanted_g 22 true 118 rfl rfl (HF.at (by decide) 3 rfl)) _ rfl g2 (HF.get 28 rfl) _ (fun W hW => hW.1.h2)) ?_
      replace HF := HF.put 122 (.int .i64 q) (by decide) rfl
      generalize hB27_122 : Act.put _ _ _ = A at HF ⊢
      refine anyC_takeD (i := 27) (v := .int .i64 f) (some 123) rfl rfl (by kernel_rfl) (by kernel_rfl) (by kernel_rfl) (fun c a w => FINQ c a _ _ w) (KN.out _ _ _ MR.out) (by exact yieldsC_int (C := (fun W => OuK c g1 g2 g3 g4 g5 gi ci bt ins q f j W ∧ W.cell? ⟨ga, 0, none⟩ = some (.int .i64 (j : Int)))) (wanted_g 22 true 118 rfl rfl (HF.at (by decide) 4 rfl)) _ rfl g3 (HF.get 30 rfl) _ (fun W hW => hW.1.h3)) ?_
      replace HF := HF.put 123 (.int .i64 f) (by decide) rfl
      generalize hB28_123 : Act.put _ _ _ = A at HF ⊢
      refine anyC_takeD (i := 29) (v := .bool true) (some 125) rfl rfl (by kernel_rfl) (by kernel_rfl) (by kernel_rfl) (fun c a w => FINQ c a _ _ w) (KN.out _ _ _ MR.out) (by exact yieldsC_moveG (wanted_g 22 true 118 rfl rfl (HF.at (by decide) 5 rfl)) _ rfl (HF.get 38 rfl)) ?_
      replace HF := HF.put 125 (.bool true) (by decide) rfl
      generalize hB29_125 : Act.put _ _ _ = A at HF ⊢
      refine anyC_oneK (i := 28) (some 124) (by kernel_rfl) rfl (wanted_g 22 true 118 rfl rfl (HF.at (by decide) 6 rfl)) rfl (fun K hK => ?_)
      refine wp_call5 (v0 := .pointer (some ⟨p, 0, none⟩)) (v1 := .agg c.arr) (v2 := .int .i64 (j : Int)) (v3 := .int .i64 q) (v4 := .int .i64 f) rfl (HF.get 5 rfl) (HF.get 4 rfl) (HF.get 3 rfl) (HF.get 2 rfl) (HF.get 1 rfl) (enters_of Tryd.func23 (by kernel_rfl) rfl) ?_
      refine (pl_Unlink HR.out HH.out hn F3 p kn D3 (j : Int) q f wq MR.out.1.view HK.out MR.out.1.inv).mono ?_
      intro e w4 he
      rcases MR.out.1.step (More.refl _) HK.out (good_plUnlink HH.out _ _ _) he with ⟨a', hE, rfl, hd', ht', hk'⟩ | ⟨x4, D4, F4, hE, rfl, M4', hq4, hk', hf'⟩
      · exact FIND _ _ HF.1.2 (NEED.out a' w4 _ (R8.out.symm.trans (bindP_need hE)) hd' ht' (hk' _ _ (NF.out _ _ _ MR.out.1) BR.out))
      have B4 := Lib.hid (show BoxB g6 w4 b0 from hk' _ _ (NF.out _ _ _ MR.out.1) BR.out)
      have R4 := Lib.hid ((bindP_ok hE).symm.trans R8.out)
      have M4 := Lib.hid (show OuM W0 w4 F g6 p kn n D4 F4 (.slice a1 avs.length c1) avs (.slice (some ⟨ga, 0, none⟩) bvs.length c2) bvs from ⟨M4', MR.out.2.1.went hk' hf', MR.out.2.2.went hk' hf'⟩)
      clear he hE hk' hf'
      refine hK _ _ (KN.out _ _ _ M4.out) ?_
      clear hK K
      replace HF := HF.put 124 (.bool x4) (by decide) rfl
      generalize hB30_124 : Act.put _ _ _ = A at HF ⊢
      have hx4 : x4 = true := by
        cases x4 with
        | true => rfl
        | false => exact absurd (HT.out _ _ R4.out.symm) (by simp)
      subst hx4
      have R4' := Lib.hid (show bindP (plListP c.pg c.st q f) (fun z => pureP (decide (z = avs))) kn D4 = Rr from R4.out)
      refine anyC_takeD (i := 30) (v := .bool true) (some 126) rfl rfl (by kernel_rfl) (by kernel_rfl) (by kernel_rfl) (fun c a w => FINQ c a _ _ w) (KN.out _ _ _ M4.out) (by exact yieldsC_eqlBB (wanted_g 22 true 118 rfl rfl (HF.at (by decide) 7 rfl)) rfl (HF.get 0 rfl) (HF.get 1 rfl) rfl) ?_
      replace HF := HF.put 126 (.bool true) (by decide) rfl
      generalize hB31_126 : Act.put _ _ _ = A at HF ⊢
      refine anyC_takeD (i := 31) (v := .bool true) (some 127) rfl rfl (by kernel_rfl) (by kernel_rfl) (by kernel_rfl) (fun c a w => FINQ c a _ _ w) (KN.out _ _ _ M4.out) (by exact yieldsC_pickT (wanted_none rfl) rfl (HF.get 8 rfl) (HF.get 0 rfl)) ?_
      replace HF := HF.put 127 (.bool true) (by decide) rfl
      generalize hB32_127 : Act.put _ _ _ = A at HF ⊢
      refine anyC_takeD (i := 32) (v := .bool true) (some 128) rfl rfl (by kernel_rfl) (by kernel_rfl) (by kernel_rfl) (fun c a w => FINQ c a _ _ w) (KN.out _ _ _ M4.out) (by exact yieldsC_moveG (wanted_none rfl) _ rfl (HF.get 0 rfl)) ?_
      replace HF := HF.put 128 (.bool true) (by decide) rfl
      generalize hB33_128 : Act.put _ _ _ = A at HF ⊢
      refine anyC_takeD (i := 33) (v := .pointer (some ⟨p, 0, none⟩)) (some 129) rfl rfl (by kernel_rfl) (by kernel_rfl) (by kernel_rfl) (fun c a w => FINQ c a _ _ w) (KN.out _ _ _ M4.out) (by exact yieldsC_moveG (wanted_g 32 true 128 rfl rfl (HF.at (by decide) 0 rfl)) _ rfl (HF.get 33 rfl)) ?_
      replace HF := HF.put 129 (.pointer (some ⟨p, 0, none⟩)) (by decide) rfl
      generalize hB34_129 : Act.put _ _ _ = A at HF ⊢
      refine anyC_takeD (i := 34) (v := .agg c.arr) (some 130) rfl rfl (by kernel_rfl) (by kernel_rfl) (by kernel_rfl) (fun c a w => FINQ c a _ _ w) (KN.out _ _ _ M4.out) (by exact yieldsC_row (C := (fun W => OuK c g1 g2 g3 g4 g5 gi ci bt ins q f j W ∧ W.cell? ⟨ga, 0, none⟩ = some (.int .i64 (j : Int)))) (wanted_g 32 true 128 rfl rfl (HF.at (by decide) 1 rfl)) 28 _ rfl g1 (HF.get 35 rfl) 28 _ _ _ (fun W hW => hW.1.h1) Tryd.underlying28 rfl (by kernel_rfl)) ?_
      replace HF := HF.put 130 (.agg c.arr) (by decide) rfl
      generalize hB35_130 : Act.put _ _ _ = A at HF ⊢
      refine anyC_takeD (i := 35) (v := .int .i64 q) (some 131) rfl rfl (by kernel_rfl) (by kernel_rfl) (by kernel_rfl) (fun c a w => FINQ c a _ _ w) (KN.out _ _ _ M4.out) (by exact yieldsC_int (C := (fun W => OuK c g1 g2 g3 g4 g5 gi ci bt ins q f j W ∧ W.cell? ⟨ga, 0, none⟩ = some (.int .i64 (j : Int)))) (wanted_g 32 true 128 rfl rfl (HF.at (by decide) 2 rfl)) _ rfl g2 (HF.get 37 rfl) _ (fun W hW => hW.1.h2)) ?_
      replace HF := HF.put 131 (.int .i64 q) (by decide) rfl
      generalize hB36_131 : Act.put _ _ _ = A at HF ⊢
      refine anyC_takeD (i := 36) (v := .int .i64 f) (some 132) rfl rfl (by kernel_rfl) (by kernel_rfl) (by kernel_rfl) (fun c a w => FINQ c a _ _ w) (KN.out _ _ _ M4.out) (by exact yieldsC_int (C := (fun W => OuK c g1 g2 g3 g4 g5 gi ci bt ins q f j W ∧ W.cell? ⟨ga, 0, none⟩ = some (.int .i64 (j : Int)))) (wanted_g 32 true 128 rfl rfl (HF.at (by decide) 3 rfl)) _ rfl g3 (HF.get 39 rfl) _ (fun W hW => hW.1.h3)) ?_
      replace HF := HF.put 132 (.int .i64 f) (by decide) rfl
      generalize hB37_132 : Act.put _ _ _ = A at HF ⊢
      refine anyC_takeD (i := 38) (v := .slice a1 avs.length c1) (some 134) rfl rfl (by kernel_rfl) (by kernel_rfl) (by kernel_rfl) (fun c a w => FINQ c a _ _ w) (KN.out _ _ _ M4.out) (by exact yieldsC_moveG (wanted_g 32 true 128 rfl rfl (HF.at (by decide) 4 rfl)) _ rfl (HF.get 44 rfl)) ?_
      replace HF := HF.put 134 (.slice a1 avs.length c1) (by decide) rfl
      generalize hB38_134 : Act.put _ _ _ = A at HF ⊢
      refine anyC_oneK (i := 37) (some 133) (by kernel_rfl) rfl (wanted_g 32 true 128 rfl rfl (HF.at (by decide) 5 rfl)) rfl (fun K hK => ?_)
      refine wp_call4 (v0 := .pointer (some ⟨p, 0, none⟩)) (v1 := .agg c.arr) (v2 := .int .i64 q) (v3 := .int .i64 f) rfl (HF.get 4 rfl) (HF.get 3 rfl) (HF.get 2 rfl) (HF.get 1 rfl) (enters_of Tryd.func12 (by kernel_rfl) rfl) ?_
      refine (pl_List HR.out HH.out F4 p kn D4 q f w4 M4.out.1.view HK.out M4.out.1.inv).mono ?_
      intro e w9 he
      rcases M4.out.1.stepR (More.refl _) HK.out (good_plList HH.out _ _) he with ⟨a', hE, rfl, hd', ht', hk'⟩ | ⟨x9, D9, F9, v9, hE, rfl, hp9, M9', hq9, hk', hf'⟩
      · exact FIND _ _ HF.1.2 (NEED.out a' w9 _ (R4'.out.symm.trans (bindP_need hE)) hd' ht' (hk' _ _ (NF.out _ _ _ M4.out.1) B4.out))
      have B9 := Lib.hid (show BoxB g6 w9 b0 from hk' _ _ (NF.out _ _ _ M4.out.1) B4.out)
      have R9 := Lib.hid ((bindP_ok hE).symm.trans R4'.out)
      have M9 := Lib.hid (show OuM W0 w9 F g6 p kn n D9 F9 (.slice a1 avs.length c1) avs (.slice (some ⟨ga, 0, none⟩) bvs.length c2) bvs from ⟨M9', M4.out.2.1.went hk' hf', M4.out.2.2.went hk' hf'⟩)
      have hx9 : avs = x9 := by have h := HT.out _ _ R9.out.symm; exact (by simpa using h : x9 = avs).symm
      have hp9 : OwnR w4.heap.size F9 w9 v9 x9 := hp9
      subst hx9
      have P9 := Lib.hid hp9.1
      have E9 := Lib.hid (show Rr = .ok true D9 from by have h : Rr = pureP (decide (avs = avs)) kn D9 := R9.out.symm; rw [decide_eq_true rfl] at h; exact h)
      clear he hE hk' hf' hp9 R9
      refine hK _ _ (KN.out _ _ _ M9.out) ?_
      clear hK K
      replace HF := HF.put 133 (v9) (by decide) rfl
      generalize hB39_133 : Act.put _ _ _ = A at HF ⊢
      refine anyC_oneK (i := 39) (some 135) (by kernel_rfl) rfl (wanted_g 32 true 128 rfl rfl (HF.at (by decide) 6 rfl)) rfl (fun K hK => ?_)
      refine wp_call2 (v0 := v9) (v1 := .slice a1 avs.length c1) rfl (HF.get 0 rfl) (HF.get 1 rfl) (enters_of Tryd.func16 (by kernel_rfl) rfl) ?_
      refine (rows_same avs v9 (.slice a1 avs.length c1) _ _ w9 hal P9.out M9.out.2.1.1).mono ?_
      rintro e w10 ⟨rfl, h10⟩
      have M10 := Lib.hid (M9.out.more h10)
      have B10 : Hid (BoxB g6 w10 b0) := Lib.hid (h10.block B9.out)
      clear h10
      refine hK _ _ (KN.out _ _ _ M10.out) ?_
      clear hK K
      replace HF := HF.put 135 (.bool true) (by decide) rfl
      generalize hB40_135 : Act.put _ _ _ = A at HF ⊢
      refine anyC_takeD (i := 40) (v := .bool true) (some 136) rfl rfl (by kernel_rfl) (by kernel_rfl) (by kernel_rfl) (fun c a w => FINQ c a _ _ w) (KN.out _ _ _ M10.out) (by exact yieldsC_pickT (wanted_none rfl) rfl (HF.get 7 rfl) (HF.get 0 rfl)) ?_
      replace HF := HF.put 136 (.bool true) (by decide) rfl
      generalize hB41_136 : Act.put _ _ _ = A at HF ⊢
      refine anyC_last (i := 41) (by kernel_rfl) (by kernel_rfl) rfl (wanted_none rfl) (fun K hK => ?_)
      refine wp_store_bool rfl g6 (HF.get 47 rfl) true (HF.get 0 rfl) _ B10.out ?_
      have MT := M10.out.1.box (fun _ => rfl) (NF.out _ _ _ M10.out.1) (.bool true) B10.out
      have BT := boxB_set B10.out true
      refine hK _ _ (KN1.out _ _ _ M10.out _ rfl MT) (FINE _ _ ⟨(.bool true), (.bool true), (.bool true), (.bool true), (.bool true), (.bool false), (.bool false), (.slice (some ⟨ga, 0, none⟩) bvs.length c2), (.int .i64 (bvs.length : Int)), (.slice a1 avs.length c1), (.int .i64 (avs.length : Int)), (.int .i64 ((avs.length : Int) + 1)), (.bool true), (.bool true), (.slice (some ⟨ga, 0, none⟩) bvs.length c2), (.pointer (some ⟨ga, 0, none⟩)), (.int .i64 (j : Int)), (.int .i64 (j : Int)), (.bool true), (.bool true), (.bool true), (.bool true), (.bool true), (.pointer (some ⟨p, 0, none⟩)), (.agg c.arr), (.int .i64 (j : Int)), (.int .i64 q), (.int .i64 f), (.bool true), (.bool true), (.bool true), (.bool true), (.bool true), (.pointer (some ⟨p, 0, none⟩)), (.agg c.arr), (.int .i64 q), (.int .i64 f), (.slice a1 avs.length c1), (v9), (.bool true), (.bool true), _, _, by rw [← hB41_136, ← hB40_135, ← hB39_133, ← hB38_134, ← hB37_132, ← hB36_131, ← hB35_130, ← hB34_129, ← hB33_128, ← hB32_127, ← hB31_126, ← hB30_124, ← hB29_125, ← hB28_123, ← hB27_122, ← hB26_121, ← hB25_120, ← hB24_119, ← hB23_118, ← hB22_117, ← hB21_116, ← hB20_115, ← hB19_114, ← hB18_113, ← hB17_112, ← hB16_111, ← hB15_110, ← hB14_109, ← hB13_108, ← hB12_107, ← hB11_106, ← hB10_105, ← hB9_104, ← hB8_103, ← hB7_102, ← hB6_101, ← hB5_100, ← hB4_99, ← hB3_98, ← hB2_97, ← hB1_96]; rfl, MT, BT, ⟨_, E9.out, rfl⟩⟩)
  intro QQ FINE FIND FINQ
  clear hA
  refine anyC_takeD (i := 0) (v := .int .i64 q) (some 83) rfl rfl (by kernel_rfl) (by kernel_rfl) (by kernel_rfl) (fun c a w => FINQ c a _ _ w) (KM.out _ _ _ MR.out) (by exact yieldsC_int (C := (OuK c g1 g2 g3 g4 g5 gi ci bt ins q f j)) (wanted_none rfl) _ rfl g2 (HF.get 2 rfl) _ (fun W hW => hW.h2)) ?_
  replace HF := HF.put 83 (.int .i64 q) (by decide) rfl
  generalize hB1_83 : Act.put _ _ _ = A at HF ⊢
  refine anyC_oneK (i := 1) (some 84) (by kernel_rfl) rfl (wanted_none rfl) rfl (fun K hK => ?_)
  refine wp_call1 (v0 := .int .i64 q) rfl (HF.get 0 rfl) (enters_of Tryd.func21 (by kernel_rfl) rfl) ?_
  refine (cl_slotsW q wq (KM.out _ _ _ MR.out).sz.sizes).mono ?_
  rintro e w6 ⟨rfl, rfl⟩
  have M6 := MR
  refine hK _ _ (KM.out _ _ _ M6.out) ?_
  clear hK K
  replace HF := HF.put 84 (.int .i64 (slotsC q)) (by decide) rfl
  generalize hB2_84 : Act.put _ _ _ = A at HF ⊢
  cases hB0 : decide (0 < slotsC q) with
  | true =>
    refine anyC_takeD (i := 2) (v := .bool true) (some 85) rfl rfl (by kernel_rfl) (by kernel_rfl) (by kernel_rfl) (fun c a w => FINQ c a _ _ w) (KM.out _ _ _ M6.out) (by exact yieldsC_gtrI (wanted_none rfl) rfl (HF.get 0 rfl) rfl true hB0) ?_
    replace HF := HF.put 85 (.bool true) (by decide) rfl
    generalize hB3_85 : Act.put _ _ _ = A at HF ⊢
    refine anyC_takeD (i := 3) (v := .bool true) (some 86) rfl rfl (by kernel_rfl) (by kernel_rfl) (by kernel_rfl) (fun c a w => FINQ c a _ _ w) (KM.out _ _ _ M6.out) (by exact yieldsC_moveG (wanted_none rfl) _ rfl (HF.get 0 rfl)) ?_
    replace HF := HF.put 86 (.bool true) (by decide) rfl
    generalize hB4_86 : Act.put _ _ _ = A at HF ⊢
    refine anyC_takeD (i := 4) (v := .int .i64 f) (some 87) rfl rfl (by kernel_rfl) (by kernel_rfl) (by kernel_rfl) (fun c a w => FINQ c a _ _ w) (KM.out _ _ _ M6.out) (by exact yieldsC_int (C := (OuK c g1 g2 g3 g4 g5 gi ci bt ins q f j)) (wanted_g 3 true 86 rfl rfl (HF.at (by decide) 0 rfl)) _ rfl g3 (HF.get 7 rfl) _ (fun W hW => hW.h3)) ?_
    replace HF := HF.put 87 (.int .i64 f) (by decide) rfl
    generalize hB5_87 : Act.put _ _ _ = A at HF ⊢
    cases hB1 : decide (1 ≤ f) with
    | true =>
      refine anyC_takeD (i := 5) (v := .bool true) (some 88) rfl rfl (by kernel_rfl) (by kernel_rfl) (by kernel_rfl) (fun c a w => FINQ c a _ _ w) (KM.out _ _ _ M6.out) (by exact yieldsC_geqI (wanted_g 3 true 86 rfl rfl (HF.at (by decide) 1 rfl)) rfl (HF.get 0 rfl) rfl true hB1) ?_
      replace HF := HF.put 88 (.bool true) (by decide) rfl
      generalize hB6_88 : Act.put _ _ _ = A at HF ⊢
      refine anyC_takeD (i := 6) (v := .bool true) (some 89) rfl rfl (by kernel_rfl) (by kernel_rfl) (by kernel_rfl) (fun c a w => FINQ c a _ _ w) (KM.out _ _ _ M6.out) (by exact yieldsC_pickT (wanted_none rfl) rfl (HF.get 2 rfl) (HF.get 0 rfl)) ?_
      replace HF := HF.put 89 (.bool true) (by decide) rfl
      generalize hB7_89 : Act.put _ _ _ = A at HF ⊢
      refine anyC_takeD (i := 7) (v := .bool true) (some 90) rfl rfl (by kernel_rfl) (by kernel_rfl) (by kernel_rfl) (fun c a w => FINQ c a _ _ w) (KM.out _ _ _ M6.out) (by exact yieldsC_moveG (wanted_none rfl) _ rfl (HF.get 0 rfl)) ?_
      replace HF := HF.put 90 (.bool true) (by decide) rfl
      generalize hB8_90 : Act.put _ _ _ = A at HF ⊢
      refine anyC_takeD (i := 8) (v := .int .i64 f) (some 91) rfl rfl (by kernel_rfl) (by kernel_rfl) (by kernel_rfl) (fun c a w => FINQ c a _ _ w) (KM.out _ _ _ M6.out) (by exact yieldsC_int (C := (OuK c g1 g2 g3 g4 g5 gi ci bt ins q f j)) (wanted_g 7 true 90 rfl rfl (HF.at (by decide) 0 rfl)) _ rfl g3 (HF.get 11 rfl) _ (fun W hW => hW.h3)) ?_
      replace HF := HF.put 91 (.int .i64 f) (by decide) rfl
      generalize hB9_91 : Act.put _ _ _ = A at HF ⊢
      refine anyC_takeD (i := 9) (v := .int .i64 q) (some 92) rfl rfl (by kernel_rfl) (by kernel_rfl) (by kernel_rfl) (fun c a w => FINQ c a _ _ w) (KM.out _ _ _ M6.out) (by exact yieldsC_int (C := (OuK c g1 g2 g3 g4 g5 gi ci bt ins q f j)) (wanted_g 7 true 90 rfl rfl (HF.at (by decide) 1 rfl)) _ rfl g2 (HF.get 11 rfl) _ (fun W hW => hW.h2)) ?_
      replace HF := HF.put 92 (.int .i64 q) (by decide) rfl
      generalize hB10_92 : Act.put _ _ _ = A at HF ⊢
      refine anyC_oneK (i := 10) (some 93) (by kernel_rfl) rfl (wanted_g 7 true 90 rfl rfl (HF.at (by decide) 2 rfl)) rfl (fun K hK => ?_)
      refine wp_call1 (v0 := .int .i64 q) rfl (HF.get 0 rfl) (enters_of Tryd.func21 (by kernel_rfl) rfl) ?_
      refine (cl_slotsW q wq (KM.out _ _ _ M6.out).sz.sizes).mono ?_
      rintro e w7 ⟨rfl, rfl⟩
      have M7 := M6
      refine hK _ _ (KM.out _ _ _ M7.out) ?_
      clear hK K
      replace HF := HF.put 93 (.int .i64 (slotsC q)) (by decide) rfl
      generalize hB11_93 : Act.put _ _ _ = A at HF ⊢
      refine anyC_takeD (i := 11) (v := .bool (decide (f ≤ slotsC q))) (some 94) rfl rfl (by kernel_rfl) (by kernel_rfl) (by kernel_rfl) (fun c a w => FINQ c a _ _ w) (KM.out _ _ _ M7.out) (by exact yieldsC_leqI (wanted_g 7 true 90 rfl rfl (HF.at (by decide) 3 rfl)) rfl (HF.get 2 rfl) (HF.get 0 rfl) _ rfl) ?_
      replace HF := HF.put 94 (.bool (decide (f ≤ slotsC q))) (by decide) rfl
      generalize hB12_94 : Act.put _ _ _ = A at HF ⊢
      refine anyC_takeD (i := 12) (v := .bool (decide (f ≤ slotsC q))) (some 95) rfl rfl (by kernel_rfl) (by kernel_rfl) (by kernel_rfl) (fun c a w => FINQ c a _ _ w) (KM.out _ _ _ M7.out) (by exact yieldsC_pickT (wanted_none rfl) rfl (HF.get 4 rfl) (HF.get 0 rfl)) ?_
      replace HF := HF.put 95 (.bool (decide (f ≤ slotsC q))) (by decide) rfl
      generalize hB13_95 : Act.put _ _ _ = A at HF ⊢
      refine anyC_takeD (i := 13) (v := .bool (decide (f ≤ slotsC q))) (some 15) rfl rfl (by kernel_rfl) (by kernel_rfl) (by kernel_rfl) (fun c a w => FINQ c a _ _ w) (KM.out _ _ _ M7.out) (by exact yieldsC_assign (wanted_none rfl) _ rfl (HF.get 0 rfl)) ?_
      replace HF := HF.put 15 (.bool (decide (f ≤ slotsC q))) (by decide) rfl
      generalize hB14_15 : Act.put _ _ _ = A at HF ⊢
      have HT15 : Hid (thrB q f = decide (f ≤ slotsC q)) := Lib.hid (by unfold thrB; rw [hB0, hB1]; rfl)
      exact anyC_done (by kernel_rfl) (FINE _ _ ⟨(.int .i64 q), (.int .i64 (slotsC q)), (.bool true), (.bool true), (.int .i64 f), (.bool true), (.bool true), (.bool true), (.int .i64 f), (.int .i64 q), (.int .i64 (slotsC q)), (.bool (decide (f ≤ slotsC q))), (.bool (decide (f ≤ slotsC q))), by rw [HT15.out]; rw [← hB14_15, ← hB13_95, ← hB12_94, ← hB11_93, ← hB10_92, ← hB9_91, ← hB8_90, ← hB7_89, ← hB6_88, ← hB5_87, ← hB4_86, ← hB3_85, ← hB2_84, ← hB1_83], M7.out, BR.out⟩)
    | false =>
      refine anyC_takeD (i := 5) (v := .bool false) (some 88) rfl rfl (by kernel_rfl) (by kernel_rfl) (by kernel_rfl) (fun c a w => FINQ c a _ _ w) (KM.out _ _ _ M6.out) (by exact yieldsC_geqI (wanted_g 3 true 86 rfl rfl (HF.at (by decide) 1 rfl)) rfl (HF.get 0 rfl) rfl false hB1) ?_
      replace HF := HF.put 88 (.bool false) (by decide) rfl
      generalize hB6_88 : Act.put _ _ _ = A at HF ⊢
      refine anyC_takeD (i := 6) (v := .bool false) (some 89) rfl rfl (by kernel_rfl) (by kernel_rfl) (by kernel_rfl) (fun c a w => FINQ c a _ _ w) (KM.out _ _ _ M6.out) (by exact yieldsC_pickT (wanted_none rfl) rfl (HF.get 2 rfl) (HF.get 0 rfl)) ?_
      replace HF := HF.put 89 (.bool false) (by decide) rfl
      generalize hB7_89 : Act.put _ _ _ = A at HF ⊢
      refine anyC_takeD (i := 7) (v := .bool false) (some 90) rfl rfl (by kernel_rfl) (by kernel_rfl) (by kernel_rfl) (fun c a w => FINQ c a _ _ w) (KM.out _ _ _ M6.out) (by exact yieldsC_moveG (wanted_none rfl) _ rfl (HF.get 0 rfl)) ?_
      replace HF := HF.put 90 (.bool false) (by decide) rfl
      generalize hB8_90 : Act.put _ _ _ = A at HF ⊢
      refine anyC_takeD (i := 8) (v := undef) (some 91) rfl rfl (by kernel_rfl) (by kernel_rfl) (by kernel_rfl) (fun c a w => FINQ c a _ _ w) (KM.out _ _ _ M6.out) (by exact yieldsC_skip (wanted_gF 7 true 90 rfl rfl (HF.at (by decide) 0 rfl))) ?_
      replace HF := HF.put 91 (undef) (by decide) rfl
      generalize hB9_91 : Act.put _ _ _ = A at HF ⊢
      refine anyC_takeD (i := 9) (v := undef) (some 92) rfl rfl (by kernel_rfl) (by kernel_rfl) (by kernel_rfl) (fun c a w => FINQ c a _ _ w) (KM.out _ _ _ M6.out) (by exact yieldsC_skip (wanted_gF 7 true 90 rfl rfl (HF.at (by decide) 1 rfl))) ?_
      replace HF := HF.put 92 (undef) (by decide) rfl
      generalize hB10_92 : Act.put _ _ _ = A at HF ⊢
      refine anyC_takeD (i := 10) (v := undef) (some 93) rfl rfl (by kernel_rfl) (by kernel_rfl) (by kernel_rfl) (fun c a w => FINQ c a _ _ w) (KM.out _ _ _ M6.out) (by exact yieldsC_skip (wanted_gF 7 true 90 rfl rfl (HF.at (by decide) 2 rfl))) ?_
      replace HF := HF.put 93 (undef) (by decide) rfl
      generalize hB11_93 : Act.put _ _ _ = A at HF ⊢
      refine anyC_takeD (i := 11) (v := undef) (some 94) rfl rfl (by kernel_rfl) (by kernel_rfl) (by kernel_rfl) (fun c a w => FINQ c a _ _ w) (KM.out _ _ _ M6.out) (by exact yieldsC_skip (wanted_gF 7 true 90 rfl rfl (HF.at (by decide) 3 rfl))) ?_
      replace HF := HF.put 94 (undef) (by decide) rfl
      generalize hB12_94 : Act.put _ _ _ = A at HF ⊢
      refine anyC_takeD (i := 12) (v := (.bool false)) (some 95) rfl rfl (by kernel_rfl) (by kernel_rfl) (by kernel_rfl) (fun c a w => FINQ c a _ _ w) (KM.out _ _ _ M6.out) (by exact yieldsC_pickF (wanted_none rfl) rfl (HF.get 4 rfl) rfl) ?_
      replace HF := HF.put 95 ((.bool false)) (by decide) rfl
      generalize hB13_95 : Act.put _ _ _ = A at HF ⊢
      refine anyC_takeD (i := 13) (v := .bool false) (some 15) rfl rfl (by kernel_rfl) (by kernel_rfl) (by kernel_rfl) (fun c a w => FINQ c a _ _ w) (KM.out _ _ _ M6.out) (by exact yieldsC_assign (wanted_none rfl) _ rfl (HF.get 0 rfl)) ?_
      replace HF := HF.put 15 (.bool false) (by decide) rfl
      generalize hB14_15 : Act.put _ _ _ = A at HF ⊢
      have HT15 : Hid (thrB q f = false) := Lib.hid (by unfold thrB; rw [hB0, hB1]; rfl)
      exact anyC_done (by kernel_rfl) (FINE _ _ ⟨(.int .i64 q), (.int .i64 (slotsC q)), (.bool true), (.bool true), (.int .i64 f), (.bool false), (.bool false), (.bool false), (undef), (undef), (undef), (undef), ((.bool false)), by rw [HT15.out]; rw [← hB14_15, ← hB13_95, ← hB12_94, ← hB11_93, ← hB10_92, ← hB9_91, ← hB8_90, ← hB7_89, ← hB6_88, ← hB5_87, ← hB4_86, ← hB3_85, ← hB2_84, ← hB1_83], M6.out, BR.out⟩)
  | false =>
    refine anyC_takeD (i := 2) (v := .bool false) (some 85) rfl rfl (by kernel_rfl) (by kernel_rfl) (by kernel_rfl) (fun c a w => FINQ c a _ _ w) (KM.out _ _ _ M6.out) (by exact yieldsC_gtrI (wanted_none rfl) rfl (HF.get 0 rfl) rfl false hB0) ?_
    replace HF := HF.put 85 (.bool false) (by decide) rfl
    generalize hB3_85 : Act.put _ _ _ = A at HF ⊢
    refine anyC_takeD (i := 3) (v := .bool false) (some 86) rfl rfl (by kernel_rfl) (by kernel_rfl) (by kernel_rfl) (fun c a w => FINQ c a _ _ w) (KM.out _ _ _ M6.out) (by exact yieldsC_moveG (wanted_none rfl) _ rfl (HF.get 0 rfl)) ?_
    replace HF := HF.put 86 (.bool false) (by decide) rfl
    generalize hB4_86 : Act.put _ _ _ = A at HF ⊢
    refine anyC_takeD (i := 4) (v := undef) (some 87) rfl rfl (by kernel_rfl) (by kernel_rfl) (by kernel_rfl) (fun c a w => FINQ c a _ _ w) (KM.out _ _ _ M6.out) (by exact yieldsC_skip (wanted_gF 3 true 86 rfl rfl (HF.at (by decide) 0 rfl))) ?_
    replace HF := HF.put 87 (undef) (by decide) rfl
    generalize hB5_87 : Act.put _ _ _ = A at HF ⊢
    refine anyC_takeD (i := 5) (v := undef) (some 88) rfl rfl (by kernel_rfl) (by kernel_rfl) (by kernel_rfl) (fun c a w => FINQ c a _ _ w) (KM.out _ _ _ M6.out) (by exact yieldsC_skip (wanted_gF 3 true 86 rfl rfl (HF.at (by decide) 1 rfl))) ?_
    replace HF := HF.put 88 (undef) (by decide) rfl
    generalize hB6_88 : Act.put _ _ _ = A at HF ⊢
    refine anyC_takeD (i := 6) (v := (.bool false)) (some 89) rfl rfl (by kernel_rfl) (by kernel_rfl) (by kernel_rfl) (fun c a w => FINQ c a _ _ w) (KM.out _ _ _ M6.out) (by exact yieldsC_pickF (wanted_none rfl) rfl (HF.get 2 rfl) rfl) ?_
    replace HF := HF.put 89 ((.bool false)) (by decide) rfl
    generalize hB7_89 : Act.put _ _ _ = A at HF ⊢
    refine anyC_takeD (i := 7) (v := (.bool false)) (some 90) rfl rfl (by kernel_rfl) (by kernel_rfl) (by kernel_rfl) (fun c a w => FINQ c a _ _ w) (KM.out _ _ _ M6.out) (by exact yieldsC_moveG (wanted_none rfl) _ rfl (HF.get 0 rfl)) ?_
    replace HF := HF.put 90 ((.bool false)) (by decide) rfl
    generalize hB8_90 : Act.put _ _ _ = A at HF ⊢
    refine anyC_takeD (i := 8) (v := undef) (some 91) rfl rfl (by kernel_rfl) (by kernel_rfl) (by kernel_rfl) (fun c a w => FINQ c a _ _ w) (KM.out _ _ _ M6.out) (by exact yieldsC_skip (wanted_gF 7 true 90 rfl rfl (HF.at (by decide) 0 rfl))) ?_
    replace HF := HF.put 91 (undef) (by decide) rfl
    generalize hB9_91 : Act.put _ _ _ = A at HF ⊢
    refine anyC_takeD (i := 9) (v := undef) (some 92) rfl rfl (by kernel_rfl) (by kernel_rfl) (by kernel_rfl) (fun c a w => FINQ c a _ _ w) (KM.out _ _ _ M6.out) (by exact yieldsC_skip (wanted_gF 7 true 90 rfl rfl (HF.at (by decide) 1 rfl))) ?_
    replace HF := HF.put 92 (undef) (by decide) rfl
    generalize hB10_92 : Act.put _ _ _ = A at HF ⊢
    refine anyC_takeD (i := 10) (v := undef) (some 93) rfl rfl (by kernel_rfl) (by kernel_rfl) (by kernel_rfl) (fun c a w => FINQ c a _ _ w) (KM.out _ _ _ M6.out) (by exact yieldsC_skip (wanted_gF 7 true 90 rfl rfl (HF.at (by decide) 2 rfl))) ?_
    replace HF := HF.put 93 (undef) (by decide) rfl
    generalize hB11_93 : Act.put _ _ _ = A at HF ⊢
    refine anyC_takeD (i := 11) (v := undef) (some 94) rfl rfl (by kernel_rfl) (by kernel_rfl) (by kernel_rfl) (fun c a w => FINQ c a _ _ w) (KM.out _ _ _ M6.out) (by exact yieldsC_skip (wanted_gF 7 true 90 rfl rfl (HF.at (by decide) 3 rfl))) ?_
    replace HF := HF.put 94 (undef) (by decide) rfl
    generalize hB12_94 : Act.put _ _ _ = A at HF ⊢
    refine anyC_takeD (i := 12) (v := (.bool false)) (some 95) rfl rfl (by kernel_rfl) (by kernel_rfl) (by kernel_rfl) (fun c a w => FINQ c a _ _ w) (KM.out _ _ _ M6.out) (by exact yieldsC_pickF (wanted_none rfl) rfl (HF.get 4 rfl) rfl) ?_
    replace HF := HF.put 95 ((.bool false)) (by decide) rfl
    generalize hB13_95 : Act.put _ _ _ = A at HF ⊢
    refine anyC_takeD (i := 13) (v := .bool false) (some 15) rfl rfl (by kernel_rfl) (by kernel_rfl) (by kernel_rfl) (fun c a w => FINQ c a _ _ w) (KM.out _ _ _ M6.out) (by exact yieldsC_assign (wanted_none rfl) _ rfl (HF.get 0 rfl)) ?_
    replace HF := HF.put 15 (.bool false) (by decide) rfl
    generalize hB14_15 : Act.put _ _ _ = A at HF ⊢
    have HT15 : Hid (thrB q f = false) := Lib.hid (by unfold thrB; rw [hB0]; rfl)
    exact anyC_done (by kernel_rfl) (FINE _ _ ⟨(.int .i64 q), (.int .i64 (slotsC q)), (.bool false), (.bool false), (undef), (undef), ((.bool false)), ((.bool false)), (undef), (undef), (undef), (undef), ((.bool false)), by rw [HT15.out]; rw [← hB14_15, ← hB13_95, ← hB12_94, ← hB11_93, ← hB10_92, ← hB9_91, ← hB8_90, ← hB7_89, ← hB6_88, ← hB5_87, ← hB4_86, ← hB3_85, ← hB2_84, ← hB1_83], M6.out, BR.out⟩)
end Go.Proofs.YtogfikemodaepaaDoor

namespace Go.Proofs.YtogfikemodaepaaDoor
open Go.RowKit Go.Sort Go.Maps Go.Shelf
set_option linter.unusedVariables false
set_option linter.unusedSimpArgs false

/-- A layout's box and a box of a row of places, as they are made and filled. -/
theorem two_boxes (w2 : World) (d : Cfg) (gi m ci : Nat) : ∃ w3 w4 w5, (w2.alloc (.cells zero24 28)).alloc (.cells #[.slice none 0 0] 34) = w3 ∧ w3.setRow w2.heap.size d.arr = w4 ∧ w4.setCell ⟨w2.heap.size + 1, 0, none⟩ (.slice (some ⟨gi, 0, none⟩) m ci) = w5 ∧
    w3.heap[w2.heap.size]? = some (.cells zero24 28 (0, 0)) ∧ w4.heap[w2.heap.size + 1]? = some (.cells #[.slice none 0 0] 34 (0, 0)) ∧
    w5.heap[w2.heap.size]? = some (.cells d.arr 28 (0, 0)) ∧ w5.heap[w2.heap.size + 1]? = some (.cells #[.slice (some ⟨gi, 0, none⟩) m ci] 34 (0, 0)) ∧ More w2 w5 ∧ w5.heap.size = w2.heap.size + 2 := by
  refine ⟨_, _, _, rfl, rfl, rfl, ?_⟩
  have h1 := heap_new w2 (.cells zero24 28)
  have h2 := ((More.refl _).alloc (.cells #[.slice none 0 0] 34)).block h1
  have h3 := heap_new (w2.alloc (.cells zero24 28)) (.cells #[.slice none 0 0] 34)
  have s1 : (w2.alloc (.cells zero24 28)).heap.size = w2.heap.size + 1 := by simp
  rw [s1] at h3
  have h4 := (setRow_other _ w2.heap.size (w2.heap.size + 1) d.arr (by omega)).trans h3
  have h5 := setRow_heap _ _ _ d.arr _ _ h2
  have h6 := setCell_one h4 (.slice (some ⟨gi, 0, none⟩) m ci)
  have h7 := set_oth (v := .slice (some ⟨gi, 0, none⟩) m ci) (g := w2.heap.size + 1) h5 (by omega)
  refine ⟨h2, h4, h7, h6, ?_, by simp [World.setCell]⟩
  have q1 : More w2 (((w2.alloc (.cells zero24 28)).alloc (.cells #[.slice none 0 0] 34)).setRow w2.heap.size d.arr) := (((More.refl w2).alloc _).alloc _).setRow _ _ (Nat.le_refl _)
  exact Turned.setCell q1 _ _ (fun q => by simp at q; omega)

theorem ou_do {c : Cfg} (R : c.Ok) (zs : List Int) (H : HdIn c.pg c.st zs.length) (hlen : zs.length ≤ 1000) (hz : OkW zs) {G : Int → List Int} (L : Ln c.pg c.st G zs) (ins : List Int) (I : InL c.pg c.st G ins) (q f : Int) (j : Nat) (hj : j < ins.length) (w : World) (g1 g2 g3 g4 g5 g6 gi ci bt : Nat) (a : Option Addr) (cap : Nat) (hY : OuY c g1 g2 g3 g4 g5 g6 gi ci bt ins q f j w) (nE : ∀ k, OuB g1 g2 g3 g4 g5 gi bt k → k ≠ g6) (hw : IsWords w a zs) :
    Calls Tryd.prog 9 #[.slice a zs.length cap, .func (.func 22) #[] #[.pointer (some ⟨g1, 0, none⟩), .pointer (some ⟨g2, 0, none⟩), .pointer (some ⟨g3, 0, none⟩), .pointer (some ⟨g4, 0, none⟩), .pointer (some ⟨g5, 0, none⟩), .pointer (some ⟨g6, 0, none⟩)]] w (fun e w' => ∃ v1 v2 ws, e = .returned (.tuple #[v1, v2, .int .i64 0]) ∧ Rw w.heap.size w' v1 ws ∧ (ins.getD j 0 = 0 → ws = zs) ∧ Turned (fun b => b = g6) w w' ∧ BoxB g6 w' true) := by
  have l6 : g6 < w.heap.size := by obtain ⟨x, h⟩ := hY.h6; exact lt_of_heap h
  have hp : isPage c.pg (j : Int) = true := isPage_iff.2 (by have := I.len; have := H.pg1; omega)
  have kF : ∀ {F : Nat → Prop}, (∀ k, F k → w.heap.size ≤ k) → ∀ k, OuB g1 g2 g3 g4 g5 gi bt k → ¬ F k := fun hF k hk q => by have := hF _ q; have := hY.k.lt hk; omega
  have keepS : ∀ w' w'', OuY c g1 g2 g3 g4 g5 g6 gi ci bt ins q f j w' → Turned (fun k => w.heap.size ≤ k) w' w'' → OuY c g1 g2 g3 g4 g5 g6 gi ci bt ins q f j w'' := fun w' w'' y t => ⟨y.k.keep t (fun k hk => by have := hY.k.lt hk; omega), by
    obtain ⟨r, h6⟩ := y.h6
    exact ⟨r, (t.block g6 (lt_of_heap h6) (by omega)).trans h6⟩⟩
  have keepX : ∀ (b : Nat) (w' w'' : World), w.heap.size ≤ b → BoxB g6 w' true → Turned (fun k => w.heap.size ≤ k ∧ k < b) w' w'' → BoxB g6 w'' true := fun b w' w'' hb x t => (t.block g6 (lt_of_heap x) (by omega)).trans x
  by_cases hne : ins.getD j 0 = 0
  · obtain ⟨D, hD, hO⟩ := outOff_true H hz L hp (I.zero hp hne) q f
    obtain ⟨K', _, hK'⟩ := doP_run (sound_outOff c.pg c.st j q f) (good_outOff H j q f) hz hD (zs.length + 1) [] (okKn_nil _) (by simp)
    have M := doX_ok a cap zs (fun K => ranOf (outOffP c.pg c.st j q f (look K) [])) (some (applyD zs D, K')) zs.length w hw hlen hz (fine_of (good_outOff H j q f) hz (by omega)) (by omega) hK' 22 #[.pointer (some ⟨g1, 0, none⟩), .pointer (some ⟨g2, 0, none⟩), .pointer (some ⟨g3, 0, none⟩), .pointer (some ⟨g4, 0, none⟩), .pointer (some ⟨g5, 0, none⟩), .pointer (some ⟨g6, 0, none⟩)] (fun b => b = g6)
      (fun w' => OuY c g1 g2 g3 g4 g5 g6 gi ci bt ins q f j w') (fun b w' => BoxB g6 w' true)
      (fun k q => by subst q; exact l6) keepS keepX hY (enters_of Tryd.func22 (by kernel_rfl) rfl)
      (fun K hK W F p t y hv hF => ou_off R H (by omega) F p g1 g2 g3 g4 g5 g6 gi ci bt (look K) ins q f j hj hne W hv (okK_of hK hz) y (kF hF) (fun q => by have := hF _ q; omega) nE (fun x D' e => (sound_same (sound_outOff c.pg c.st j q f) hK hD e).1))
    refine M.mono ?_
    rintro e w' ⟨v1, v2, b, rfl, r1, _, t, y, hb, x⟩
    exact ⟨v1, v2, _, rfl, r1, fun _ => hO.eq, t, x⟩
  · obtain ⟨D, hD, hO⟩ := outIn_true H hz L hp q f
    obtain ⟨K', _, hK'⟩ := doP_run (sound_outIn c.pg c.st j q f) (good_outIn H j q f) hz hD (zs.length + 1) [] (okKn_nil _) (by simp)
    have M := doX_ok a cap zs (fun K => ranOf (outInP c.pg c.st j q f (look K) [])) (some (applyD zs D, K')) zs.length w hw hlen hz (fine_of (good_outIn H j q f) hz (by omega)) (by omega) hK' 22 #[.pointer (some ⟨g1, 0, none⟩), .pointer (some ⟨g2, 0, none⟩), .pointer (some ⟨g3, 0, none⟩), .pointer (some ⟨g4, 0, none⟩), .pointer (some ⟨g5, 0, none⟩), .pointer (some ⟨g6, 0, none⟩)] (fun b => b = g6)
      (fun w' => OuY c g1 g2 g3 g4 g5 g6 gi ci bt ins q f j w') (fun b w' => BoxB g6 w' true)
      (fun k q => by subst q; exact l6) keepS keepX hY (enters_of Tryd.func22 (by kernel_rfl) rfl)
      (fun K hK W F p t y hv hF => ou_in R H (by omega) F p g1 g2 g3 g4 g5 g6 gi ci bt (look K) ins q f j hj hne W hv (okK_of hK hz) y (kF hF) (fun q => by have := hF _ q; omega) nE (fun x D' e => (sound_same (sound_outIn c.pg c.st j q f) hK hD e).1))
    refine M.mono ?_
    rintro e w' ⟨v1, v2, b, rfl, r1, _, t, y, hb, x⟩
    exact ⟨v1, v2, _, rfl, r1, fun e => absurd e hne, t, x⟩

set_option maxRecDepth 100000 in
set_option maxHeartbeats 4000000 in
theorem ou_walk (y0 y1 y2 y3 y4 y5 y6 y7 y8 y9 y10 : Int) (a : Option Addr) (capl : Nat) (l : List Ins4) (P q f : Int) (w : World) (hS : Sizes w) (f0 : (Lit.int .i64 y0).wf = true) (f1 : (Lit.int .i64 y1).wf = true) (f2 : (Lit.int .i64 y2).wf = true) (f3 : (Lit.int .i64 y3).wf = true) (f4 : (Lit.int .i64 y4).wf = true) (f5 : (Lit.int .i64 y5).wf = true) (f6 : (Lit.int .i64 y6).wf = true) (f7 : (Lit.int .i64 y7).wf = true) (f8 : (Lit.int .i64 y8).wf = true) (f9 : (Lit.int .i64 y9).wf = true) (f10 : (Lit.int .i64 y10).wf = true) (hl : IsIns4 w a l) (ho : OkP4 l) (hmx : l.length ≤ 9223372036854775807) (e0 : (Lit.int .i64 P).wf = true) (e1 : (Lit.int .i64 q).wf = true) (e2 : (Lit.int .i64 f).wf = true) :
    Calls Tryd.prog 5 #[.agg #[.int .i64 y0, .int .i64 y1, .int .i64 y2, .int .i64 y3, .int .i64 y4, .int .i64 y5, .int .i64 y6, .int .i64 y7, .int .i64 y8, .int .i64 y9, .int .i64 y10], .slice a l.length capl, .int .i64 P, .int .i64 q, .int .i64 f] w (Gives w (.bool true)) := by
  obtain ⟨bt, hsz⟩ : ∃ bt, SzAt bt w := hS
  obtain ⟨w4, e4, ha, hb, hc, hd, m4, s4⟩ := entry4 w (.cells #[.int .i64 y0, .int .i64 y1, .int .i64 y2, .int .i64 y3, .int .i64 y4, .int .i64 y5, .int .i64 y6, .int .i64 y7, .int .i64 y8, .int .i64 y9, .int .i64 y10] 23) (.cells #[.int .i64 P] 3) (.cells #[.int .i64 q] 3) (.cells #[.int .i64 f] 3)
  clear e0 e1 e2 ho
  have hbt := hsz.lt
  have hb0 := hsz.lt0
  by_cases h1 : 60 < l.length
  · have d0 : decide ((60 : Int) < (l.length : Int)) = true := by simp; omega
    have M1 := Lib.hid m4
    clear ha hb hc hd m4 f0 f1 f2 f3 f4 f5 f6 f7 f8 f9 f10 hl s4 hsz hbt hb0
    go_enter Tryd.func5, Tryd.ntmps5
    go_wp2_with fail
    refine (lives10_ok _).mono ?_
    rintro e w8 ⟨rfl, h8⟩
    have M8 := Lib.hid (M1.out.trans h8)
    clear h8
    go_wp2_with fail
    go_ret
    exact ⟨rfl, M8.out⟩
  have d0 : decide ((60 : Int) < (l.length : Int)) = false := by simp; omega
  obtain ⟨d, n, G, zs, ins, S, hn, hlz, hz, hL, hI, AF⟩ := pa_ok y0 y1 y2 y3 y4 y5 y6 y7 y8 y9 y10 f0 f1 f2 f3 f4 f5 f6 f7 f8 f9 f10 l (by omega)
  have wds := S.words
  have H := S.hdin hn
  have hnl : n ≤ 1000 := by omega
  have hil : ins.length ≤ 1000 := by have h := hI.len; have := H.pg1; have := H.pg2; have := H.st1; have := H.top62; have : 0 ≤ chunksV d.pg := by unfold chunksV; omega
                                     have : 0 ≤ tableV d.st := by unfold tableV; omega
                                     omega
  have SS := Lib.hid S
  have HL := Lib.hid hL
  have HI := Lib.hid hI
  have HH := Lib.hid H
  have M1 := Lib.hid m4
  have HSZ := Lib.hid (hsz.more m4)
  have HA := Lib.hid ha
  have HP := Lib.hid hb
  have HQ := Lib.hid hc
  have HF3 := Lib.hid hd
  have AO := Lib.hid (AF.out a capl w4 (hl.more m4))
  have HLZ := Lib.hid hlz
  have HZ := Lib.hid hz
  clear m4 ha hb hc hd f0 f1 f2 f3 f4 f5 f6 f7 f8 f9 f10 hl AF hz hlz H h1 S hn hL hI wds hsz
  go_enter Tryd.func5, Tryd.ntmps5
  go_wp2_with (refine wpList_load_row rfl 23 _ rfl w.heap.size rfl 23 _ _ _ HA.out Tryd.underlying23 rfl (by kernel_rfl) ?_)
  clear e4
  refine AO.out.mono ?_
  rintro e w2 ⟨gz, cz, gi, ci, rfl, hws, his, hgz, hgi, m2⟩
  obtain ⟨wa, wb, w5, ea, eb, ec, D1, E4, D5, E5, m5, s5⟩ := two_boxes w2 d gi ins.length ci
  have hgz2 : gz < w2.heap.size := hws.lt
  have hgi2 : gi < w2.heap.size := his.lt
  have hs2 : w.heap.size + 4 ≤ w2.heap.size := by have := m2.size; omega
  have D1 := Lib.hid D1
  obtain ⟨ce, fe, ke⟩ := box_cells E4
  have mm := m2.trans m5
  have M4 := Lib.hid (M1.out.trans mm)
  have L4 := Lib.hid D5
  have Z4 := Lib.hid (hws.more m5)
  have I4 := Lib.hid (his.more m5)
  have P4 := Lib.hid (mm.block HP.out)
  have Q4 := Lib.hid (mm.block HQ.out)
  have F4 := Lib.hid (mm.block HF3.out)
  have S4 := Lib.hid (HSZ.out.more mm)
  have N4 := Lib.hid E5
  have cp := (box_cells P4.out).1
  have cn := (box_cells N4.out).1
  clear hws his D5 E5 E4 m2 m5 mm s4 AO HP HQ HF3 HSZ hgz HA
  by_cases p0 : P < 0
  · have d5 : decide (P < 0) = true := by simpa using p0
    go_wp2_with (refine wpList_store_row rfl 28 _ _ rfl w2.heap.size _ rfl rfl 28 zero24 D1.out (by kernel_rfl) rfl (arr_one d) ?_)
    refine (lives10_ok _).mono ?_
    rintro e w18 ⟨rfl, h18⟩
    have M18 := Lib.hid (M4.out.trans h18)
    clear h18
    go_wp2_with fail
    go_ret
    exact ⟨rfl, M18.out⟩
  by_cases p1 : (ins.length : Int) ≤ P
  · have d5 : decide (P < 0) = false := by simp; omega
    have d6 : decide ((ins.length : Int) ≤ P) = true := by simpa using p1
    clear p0 p1
    go_wp2_with (refine wpList_store_row rfl 28 _ _ rfl w2.heap.size _ rfl rfl 28 zero24 D1.out (by kernel_rfl) rfl (arr_one d) ?_)
    refine (lives10_ok _).mono ?_
    rintro e w18 ⟨rfl, h18⟩
    have M18 := Lib.hid (M4.out.trans h18)
    clear h18
    go_wp2_with fail
    go_ret
    exact ⟨rfl, M18.out⟩
  obtain ⟨j, rfl⟩ : ∃ j : Nat, P = (j : Int) := ⟨P.toNat, by omega⟩
  have hj : j < ins.length := by omega
  have d5 : decide ((j : Int) < 0) = false := by simp
  have d6 : decide ((ins.length : Int) ≤ (j : Int)) = false := by simp; omega
  clear p0 p1
  obtain ⟨w6, e6, hb6, m6, s6⟩ := entry1 w5 (.cells #[.bool false] 4)
  obtain ⟨cr, fr, kr⟩ := box_cells hb6
  obtain ⟨w7, e7⟩ : ∃ w7, w6.setCell ⟨w5.heap.size, 0, none⟩ (.bool false) = w7 := ⟨_, rfl⟩
  have m7 : More w5 w7 := by rw [← e7]; exact Turned.setCell m6 _ _ (fun q => by simp at q)
  have b7 : BoxB w5.heap.size w7 false := by rw [← e7]; exact boxB_set hb6 false
  have nE : ∀ k, OuB w2.heap.size (w.heap.size + 2) (w.heap.size + 3) (w2.heap.size + 1) (w.heap.size + 1) gi bt k → k ≠ w5.heap.size := by
    rintro k (rfl | rfl | rfl | rfl | rfl | rfl | rfl | rfl) <;> omega
  have K7 : OuK d w2.heap.size (w.heap.size + 2) (w.heap.size + 3) (w2.heap.size + 1) (w.heap.size + 1) gi ci bt ins q f j w7 := ⟨m7.block L4.out, m7.block Q4.out, m7.block F4.out, m7.block N4.out, m7.block P4.out, I4.out.more m7, S4.out.more m7⟩
  have DO := ou_do SS.out.ok zs (by rw [HLZ.out]; exact HH.out) (by rw [HLZ.out]; exact hnl) HZ.out HL.out ins HI.out q f j hj w7 w2.heap.size (w.heap.size + 2) (w.heap.size + 3) (w2.heap.size + 1) (w.heap.size + 1) w5.heap.size gi ci bt (some ⟨gz, 0, none⟩) cz ⟨K7, _, b7⟩ nE (Z4.out.more m7).words
  rw [HLZ.out] at DO
  have DO := Lib.hid DO
  have M7 := Lib.hid (M4.out.trans m7)
  have K7 := Lib.hid K7
  have Z7 := Lib.hid (Z4.out.more m7)
  have NE := Lib.hid nE
  have hgz5 : gz ≠ w5.heap.size := by omega
  have hw5 : w.heap.size ≤ w5.heap.size := by omega
  clear b7 m7 m6 hb6 nE L4 Q4 F4 N4 P4 I4 S4 Z4 M4 M1 hgi s5 s6
  go_wp2_with (refine wpList_store_row rfl 28 _ _ rfl w2.heap.size _ rfl rfl 28 zero24 D1.out (by kernel_rfl) rfl (arr_one d) ?_)
  refine DO.out.mono ?_
  rintro e w8 ⟨v1, v2, ws, rfl, r1, hws, t8, bx⟩
  obtain ⟨ax, cx, rfl, _⟩ := r1.reads
  have K8 := K7.out.keep t8 NE.out
  have Z8 := Z7.out.keep t8 hgz5
  have M8 : Hid (More w w8) := Lib.hid (Turned.mono (turned_own (F := fun _ => False) M7.out t8 (fun b e => .inr (by omega))) (fun _ _ q => q))
  have cr8 := (box_cells bx).1
  have cn8 := (box_cells K8.h4).1
  have cp8 := (box_cells K8.h5).1
  have ci8 := K8.row.cell hj
  obtain ⟨zv, hzv⟩ : ∃ zv, ins.getD j 0 = zv := ⟨_, rfl⟩
  rw [hzv] at ci8 hws
  by_cases hz0 : zv = 0
  · subst hz0
    have hzs := hws rfl
    subst hzs
    have RS := Lib.hid (rows_same ws _ _ _ 0 w8 (by have := HLZ.out; omega) r1 (Z8.rw' (Nat.zero_le _)))
    rw [HLZ.out] at RS
    rw [HLZ.out]
    clear hws hzv K8 Z8 r1 bx t8 DO K7 Z7 M7 ce fe ke cp cn cr fr kr e6 e7 ea eb ec
    go_wp2_with fail
    refine RS.out.mono ?_
    rintro e w9 ⟨rfl, m9⟩
    have M9 := Lib.hid (M8.out.trans m9)
    clear m9
    go_wp2_with fail
    refine (lives10_ok _).mono ?_
    rintro e w18 ⟨rfl, h18⟩
    have M18 := Lib.hid (M9.out.trans h18)
    clear h18
    go_wp2_with fail
    go_ret
    exact ⟨rfl, M18.out⟩
  · have dz : (zv != 0) = true := by simpa using hz0
    clear hws hzv hz0 K8 Z8 r1 bx t8 DO K7 Z7 M7 ce fe ke cp cn cr fr kr e6 e7 ea eb ec
    go_wp2_with fail
    refine (lives10_ok _).mono ?_
    rintro e w18 ⟨rfl, h18⟩
    have M18 := Lib.hid (M8.out.trans h18)
    clear h18
    go_wp2_with fail
    go_ret
    exact ⟨rfl, M18.out⟩
end Go.Proofs.YtogfikemodaepaaDoor

