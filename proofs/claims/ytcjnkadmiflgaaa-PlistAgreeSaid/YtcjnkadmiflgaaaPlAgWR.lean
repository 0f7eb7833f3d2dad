/-
  Layer 10's statement that Next and Prev agree: the closure.
-/
import Derived.Test.YtcjnkadmiflgaaaPlRun
namespace Go.Proofs.Ytcjnkadmiflgaaa
open Go.RowKit Go.Sort Go.Maps Go.Shelf
set_option linter.unusedVariables false
set_option linter.unusedSimpArgs false

structure AgK (c : Cfg) (g1 g2 g3 : Nat) (q f : Int) (w : World) : Prop where
  h1 : w.heap[g1]? = some (.cells c.arr 28 (0, 0))
  h2 : w.heap[g2]? = some (.cells #[.int .i64 q] 3 (0, 0))
  h3 : w.heap[g3]? = some (.cells #[.int .i64 f] 3 (0, 0))
structure AgY (c : Cfg) (g1 g2 g3 g4 : Nat) (q f : Int) (w : World) : Prop where
  k : AgK c g1 g2 g3 q f w
  h4 : ∃ v, BoxV g4 w v
theorem AgK.keep {c : Cfg} {g1 g2 g3 : Nat} {q f : Int} {w w' : World} {S : Nat → Prop} (h : AgK c g1 g2 g3 q f w) (t : Turned S w w') (n1 : ¬ S g1) (n2 : ¬ S g2) (n3 : ¬ S g3) : AgK c g1 g2 g3 q f w' :=
  ⟨(t.block g1 (lt_of_heap h.h1) n1).trans h.h1, (t.block g2 (lt_of_heap h.h2) n2).trans h.h2, (t.block g3 (lt_of_heap h.h3) n3).trans h.h3⟩
theorem AgY.keep {c : Cfg} {g1 g2 g3 g4 : Nat} {q f : Int} {w w' : World} {S : Nat → Prop} (h : AgY c g1 g2 g3 g4 q f w) (t : Turned S w w') (n1 : ¬ S g1) (n2 : ¬ S g2) (n3 : ¬ S g3) (n4 : ¬ S g4) : AgY c g1 g2 g3 g4 q f w' := by
  obtain ⟨k, v, h4⟩ := h
  exact ⟨k.keep t n1 n2 n3, v, (t.block g4 (lt_of_heap h4) n4).trans h4⟩

set_option maxRecDepth 100000 in
set_option maxHeartbeats 2000000 in
theorem ag_clo {c : Cfg} (R : c.Ok) {n : Nat} (H : HdIn c.pg c.st n) (hn : n ≤ 10000) (F : Nat → Prop) (p g1 g2 g3 g4 : Nat) (kn : Int → Option Int) (q f : Int) (W : World) (hv : ViewAt W F p kn []) (hk : OkK kn) (hY : AgY c g1 g2 g3 g4 q f W) (n1 : ¬ F g1) (n2 : ¬ F g2) (n3 : ¬ F g3) (n4 : ¬ F g4) (hd : g1 ≠ g4 ∧ g2 ≠ g4 ∧ g3 ≠ g4) (a0 : List Int)
    (ht : ∀ x D, plListP c.pg c.st q f kn [] = .ok x D → x = a0) :
    Calls Try.prog 27 #[.pointer (some ⟨p, 0, none⟩), .pointer (some ⟨g1, 0, none⟩), .pointer (some ⟨g2, 0, none⟩), .pointer (some ⟨g3, 0, none⟩), .pointer (some ⟨g4, 0, none⟩)] W (WentY W F (fun b => b = g4) (fun w' => AgY c g1 g2 g3 g4 q f w') (fun w' => BoxS W.heap.size g4 w' a0) p kn (ranOf (plListP c.pg c.st q f kn []))) := by
  obtain ⟨Rr, hR⟩ : ∃ Rr, plListP c.pg c.st q f kn [] = Rr := ⟨_, rfl⟩
  rw [hR] at ht ⊢
  obtain ⟨hK, z4, h4⟩ := hY
  have l4 := lt_of_heap h4
  have H1 := Lib.hid hK.h1
  have c2 := (box_cells hK.h2).1
  have c3 := (box_cells hK.h3).1
  have HK := Lib.hid hk
  have HR := Lib.hid R
  have HH := Lib.hid H
  have HRr := Lib.hid hR
  have M0 : Hid (MidV W W F (fun b => b = g4) p kn n [] F) := Lib.hid (MidV.begin hv (invD_nil n))
  have B0 := Lib.hid h4
  have nf4 : ∀ D wr {F'}, MidV W wr F (fun b => b = g4) p kn n D F' → ¬ F' g4 := fun D wr F' h => h.off l4 n4
  have KT : Hid (∀ wr, Turned (fun b => F b ∨ b = g4) W wr → AgK c g1 g2 g3 q f wr) := Lib.hid fun wr t => hK.keep t (by rintro (q | q); exact n1 q; exact hd.1 q) (by rintro (q | q); exact n2 q; exact hd.2.1 q) (by rintro (q | q); exact n3 q; exact hd.2.2 q)
  have KL : Hid (∀ wr D' F', MidV W wr F (fun b => b = g4) p kn n D' F' → AgK c g1 g2 g3 q f wr) := Lib.hid fun wr D' F' h => KT.out _ h.turn
  have NEED : Hid (∀ a w2, Rr = .need a → DeadAt w2 p a → Turned (fun b => F b ∨ b = g4) W w2 → (∃ x, BoxV g4 w2 x) → WentY W F (fun b => b = g4) (fun w' => AgY c g1 g2 g3 g4 q f w') (fun w' => BoxS W.heap.size g4 w' a0) p kn (ranOf Rr) (.panicked (endOf p)) w2) := Lib.hid fun a w2 e hd' ht' q2 =>
    wy_need (ranOf_need e) hd' ht' ⟨KT.out _ ht', q2⟩
  have HT := Lib.hid ht
  clear hK h4 hv hk R H hR ht n1 n2 n3 KT
  go_enter Try.func27, Try.ntmps27
  go_wp2_with (first | (refine wpList_load_row rfl 28 _ rfl _ rfl 28 _ _ _ H1.out Try.underlying28 rfl (by kernel_rfl) ?_) | (refine wpList_load_rowG rfl 28 _ rfl _ rfl 28 _ _ _ H1.out Try.underlying28 rfl (by kernel_rfl) ?_))
  refine (pl_List HR.out HH.out F p kn [] q f W M0.out.view HK.out M0.out.inv).mono ?_
  intro e w1 he
  rcases M0.out.stepR (More.refl _) HK.out (good_plList HH.out _ _) he with ⟨a', hE, rfl, hd', ht', hk'⟩ | ⟨x1, D1, F1, v1, hE, rfl, hp1, M1, hq1, hk', hf'⟩
  · exact ⟨rfl, NEED.out a' w1 (HRr.out.symm.trans hE) hd' ht' ⟨_, hk' _ _ (nf4 _ _ M0.out) B0.out⟩⟩
  have B1 := Lib.hid (hk' _ _ (nf4 _ _ M0.out) B0.out)
  have hp1 : OwnR W.heap.size F1 w1 v1 x1 := hp1
  have R1 := Lib.hid (hE.symm.trans HRr.out)
  have M1 := Lib.hid M1
  clear he hE hk' hf' c2 c3
  obtain ⟨a3, cp3, rfl, _⟩ := hp1.1.reads
  obtain ⟨c2, f2, k2⟩ := box_cells B1.out
  have hx := HT.out x1 D1 R1.out.symm
  obtain ⟨w4, e4⟩ : ∃ w4, w1.setCell ⟨g4, 0, none⟩ (.slice a3 x1.length cp3) = w4 := ⟨_, rfl⟩
  have M4 : Hid (MidV W w4 F (fun b => b = g4) p kn n D1 F1) := Lib.hid (by rw [← e4]; exact M1.out.box (fun _ => rfl) (nf4 _ _ M1.out) _ B1.out)
  have B4 : Hid (BoxV g4 w4 (.slice a3 x1.length cp3)) := Lib.hid (by rw [← e4]; exact setCell_one B1.out _)
  have O4 : Hid (OwnR W.heap.size F1 w4 (.slice a3 x1.length cp3) x1) := Lib.hid (by rw [← e4]; exact hp1.set l4)
  have FN : Hid (WentY W F (fun b => b = g4) (fun w' => AgY c g1 g2 g3 g4 q f w') (fun w' => BoxS W.heap.size g4 w' a0) p kn (ranOf Rr) (.returned (.tuple #[])) w4) := Lib.hid (wy_done M4.out (ranOf_ok R1.out.symm) ⟨KL.out _ _ _ M4.out, _, B4.out⟩ (by
    rw [← hx]; exact ⟨_, B4.out, O4.out.1⟩))
  clear hx hp1
  go_wp2_with fail
  go_end0
  exact FN.out

theorem ag_do {c : Cfg} (R : c.Ok) (zs : List Int) (H : HdIn c.pg c.st zs.length) (hlen : zs.length ≤ 1000) (hz : OkW zs) (q f : Int) (w : World) (g1 g2 g3 g4 : Nat) (a : Option Addr) (cap : Nat) (hY : AgY c g1 g2 g3 g4 q f w) (hd : g1 ≠ g4 ∧ g2 ≠ g4 ∧ g3 ≠ g4) (hw : IsWords w a zs) :
    Calls Try.prog 8 #[.slice a zs.length cap, .func (.func 27) #[] #[.pointer (some ⟨g1, 0, none⟩), .pointer (some ⟨g2, 0, none⟩), .pointer (some ⟨g3, 0, none⟩), .pointer (some ⟨g4, 0, none⟩)]] w (fun e w' => ∃ v1 v2, e = .returned (.tuple #[v1, v2, .int .i64 0]) ∧ Turned (fun b => b = g4) w w' ∧ BoxS w.heap.size g4 w' (plListV c.pg c.st q f zs)) := by
  have l1 := lt_of_heap hY.k.h1
  have l2 := lt_of_heap hY.k.h2
  have l3 := lt_of_heap hY.k.h3
  have l4 : g4 < w.heap.size := by obtain ⟨x, h⟩ := hY.h4; exact lt_of_heap h
  obtain ⟨D, hD, _, _⟩ := flat_plList H q f zs [] rfl hz (invD_nil _)
  have hD : plListP c.pg c.st q f (allK zs) [] = .ok (plListV c.pg c.st q f zs) D := hD
  obtain ⟨K', _, hK'⟩ := doP_run (sound_plList c.pg c.st q f) (good_plList H q f) hz hD (zs.length + 1) [] (okKn_nil _) (by simp)
  have M := doX_ok a cap zs (fun K => ranOf (plListP c.pg c.st q f (look K) [])) (some (applyD zs D, K')) zs.length w hw hlen hz (fine_of (good_plList H q f) hz (by omega)) (by omega) hK' 27 #[.pointer (some ⟨g1, 0, none⟩), .pointer (some ⟨g2, 0, none⟩), .pointer (some ⟨g3, 0, none⟩), .pointer (some ⟨g4, 0, none⟩)] (fun b => b = g4)
    (fun w' => AgY c g1 g2 g3 g4 q f w') (fun b w' => BoxS b g4 w' (plListV c.pg c.st q f zs))
    (fun k q => by subst q; exact l4)
    (fun w' w'' y t => y.keep t (by omega) (by omega) (by omega) (by omega))
    (fun b w' w'' hb y t => y.keep t (by omega) (fun k hk => by omega)) hY (enters_of Try.func27 (by kernel_rfl) rfl)
    (fun K hK W F p t y hv hF => ag_clo R H (by omega) F p g1 g2 g3 g4 (look K) q f W hv (okK_of hK hz) y (fun q => by have := hF _ q; omega) (fun q => by have := hF _ q; omega) (fun q => by have := hF _ q; omega) (fun q => by have := hF _ q; omega) hd _
      (fun x D' e => (sound_same (sound_plList c.pg c.st q f) hK hD e).1))
  refine M.mono ?_
  rintro e w' ⟨v1, v2, b, rfl, r1, _, t, y, hb, x⟩
  obtain ⟨v, x1, x2⟩ := x
  exact ⟨v1, v2, rfl, t, v, x1, x2.mono hb⟩
end Go.Proofs.Ytcjnkadmiflgaaa

namespace Go.Proofs.Ytcjnkadmiflgaaa
open Go.RowKit Go.Sort Go.Maps Go.Shelf
set_option linter.unusedVariables false
set_option linter.unusedSimpArgs false

structure AgR (d : Cfg) (g1 g4 gz cz gx cx : Nat) (zs xs : List Int) (w : World) : Prop where
  h1 : w.heap[g1]? = some (.cells d.arr 28 (0, 0))
  h4 : w.heap[g4]? = some (.cells #[.slice (some ⟨gx, 0, none⟩) xs.length cx] 29 (0, 0))
  hz : Ws w gz cz zs
  hx : Ws w gx cx xs
theorem AgR.more {d : Cfg} {g1 g4 gz cz gx cx : Nat} {zs xs : List Int} {w w' : World} (h : AgR d g1 g4 gz cz gx cx zs xs w) (t : More w w') : AgR d g1 g4 gz cz gx cx zs xs w' := ⟨t.block h.h1, t.block h.h4, h.hz.more t, h.hx.more t⟩
section
variable {ops : Array Oper} {C : World → Prop} {o' : Oper} {a : Act} {x y : Operand}
theorem yieldsC_indexI {s len cap j : Nat} (hw : Region.wanted o' (yielded ops a.tmps) = true) (ho : o'.op = .indexAddr 29 x y) (hx : a.eval x = .slice (some ⟨s, 0, none⟩) len cap) (hy : a.eval y = .int .i64 (j : Int)) (hj : j < len) : YieldsC Try.prog ops C o' (.pointer (some ⟨s, j, none⟩)) a := by
  have d1 : decide (j < len) = true := by simp [hj]
  refine .inl ⟨hw, fun W hW => ?_⟩
  unfold execOp
  generalize a.eval = ρ at hx hy ⊢
  simp only [ho, hx, hy]
  go_simp
theorem yieldsC_lssI {u z : Int} (hw : Region.wanted o' (yielded ops a.tmps) = true) (ho : o'.op = .binOp .lss 3 x y 3) (hx : a.eval x = .int .i64 u) (hy : a.eval y = .int .i64 z) (b : Bool) (hb : decide (u < z) = b) : YieldsC Try.prog ops C o' (.bool b) a :=
  .inl ⟨hw, fun w _ => by unfold execOp; generalize a.eval = ρ at hx hy ⊢; simp only [ho, hx, hy]; subst hb; go_simp⟩
theorem yieldsC_gtrI {u z : Int} (hw : Region.wanted o' (yielded ops a.tmps) = true) (ho : o'.op = .binOp .gtr 3 x y 3) (hx : a.eval x = .int .i64 u) (hy : a.eval y = .int .i64 z) (b : Bool) (hb : decide (z < u) = b) : YieldsC Try.prog ops C o' (.bool b) a :=
  .inl ⟨hw, fun w _ => by unfold execOp; generalize a.eval = ρ at hx hy ⊢; simp only [ho, hx, hy]; subst hb; go_simp⟩
theorem yieldsC_geqI {u z : Int} (hw : Region.wanted o' (yielded ops a.tmps) = true) (ho : o'.op = .binOp .geq 3 x y 3) (hx : a.eval x = .int .i64 u) (hy : a.eval y = .int .i64 z) (b : Bool) (hb : decide (z ≤ u) = b) : YieldsC Try.prog ops C o' (.bool b) a :=
  .inl ⟨hw, fun w _ => by unfold execOp; generalize a.eval = ρ at hx hy ⊢; simp only [ho, hx, hy]; subst hb; go_simp⟩
theorem yieldsC_neqI {u z : Int} (hw : Region.wanted o' (yielded ops a.tmps) = true) (ho : o'.op = .binOp .neq 3 x y 3) (hx : a.eval x = .int .i64 u) (hy : a.eval y = .int .i64 z) (b : Bool) (hb : (u != z) = b) : YieldsC Try.prog ops C o' (.bool b) a :=
  .inl ⟨hw, fun w _ => by unfold execOp; generalize a.eval = ρ at hx hy ⊢; simp only [ho, hx, hy]; subst hb; go_simp⟩
theorem yieldsC_subI {u z : Int} (hw : Region.wanted o' (yielded ops a.tmps) = true) (ho : o'.op = .binOp .sub 3 x y 3) (hx : a.eval x = .int .i64 u) (hy : a.eval y = .int .i64 z) (t : Int) (hq : IntKind.i64.wrap (u - z) = t) : YieldsC Try.prog ops C o' (.int .i64 t) a :=
  .inl ⟨hw, fun w _ => by unfold execOp; generalize a.eval = ρ at hx hy ⊢; simp only [ho, hx, hy]; subst hq; go_simp⟩
theorem yieldsC_neqB {b : Bool} (hw : Region.wanted o' (yielded ops a.tmps) = true) (ho : o'.op = .binOp .neq 4 x y 4) (hx : a.eval x = .bool b) (hy : a.eval y = .bool b) : YieldsC Try.prog ops C o' (.bool false) a :=
  .inl ⟨hw, fun w _ => by unfold execOp; generalize a.eval = ρ at hx hy ⊢; simp only [ho, hx, hy]; cases b <;> go_simp⟩
end
/-- What Next and Prev hold of the page at j. -/
theorem ag_at {pg st : Int} {n : Nat} (H : HdIn pg st n) {G : Int → List Int} {ws : List Int} (L : Ln pg st G ws) (c f : Int) (j : Nat) (hj : j < (plListV pg st c f ws).length) :
    isPage pg ((plListV pg st c f ws).getD j 0) = true ∧ (∀ i, i < (plListV pg st c f ws).length → 0 ≤ (plListV pg st c f ws).getD i 0 ∧ (plListV pg st c f ws).getD i 0 < pg) ∧
    wAt ws (vA pg st ((plListV pg st c f ws).getD j 0)) = (if j = 0 then 0 else (plListV pg st c f ws).getD (j - 1) 0 + 1) ∧
    wAt ws (nA pg st ((plListV pg st c f ws).getD j 0)) = (if j + 1 = (plListV pg st c f ws).length then 0 else (plListV pg st c f ws).getD (j + 1) 0 + 1) := by
  rw [list_is H L c f] at hj ⊢
  by_cases e : headV pg st c f = 0
  · rw [if_pos e] at hj; simp at hj
  rw [if_neg e] at hj ⊢
  have ha := (head_hd e).1
  generalize headV pg st c f = a at ha hj ⊢
  have hm : (G a).getD j 0 ∈ G a := by rw [List.getD_eq_getElem?_getD, List.getElem?_eq_getElem hj]; exact List.getElem_mem hj
  have hs : G a = (G a).take j ++ (G a).getD j 0 :: (G a).drop (j + 1) := by
    rw [List.getD_eq_getElem?_getD, List.getElem?_eq_getElem hj]
    simp
  have hnd : (G a).getD j 0 ∉ (G a).take j := by
    have hh := L.nodup a ha
    rw [hs] at hh
    intro q
    exact (List.nodup_append.1 hh).2.2 _ q _ (by simp) rfl
  refine ⟨L.page a ha _ hm, fun i hi => ?_, ?_, ?_⟩
  · have := isPage_iff.1 (L.page a ha ((G a).getD i 0) (by rw [List.getD_eq_getElem?_getD, List.getElem?_eq_getElem hi]; exact List.getElem_mem hi))
    exact this
  · rw [L.prev a _ ha hm]
    have h1 := pvL0_at ((G a).take j) ((G a).drop (j + 1)) _ hnd
    rw [← hs] at h1
    rw [h1]
    by_cases h0 : j = 0
    · subst h0; rfl
    · rw [if_neg h0]
      unfold lastO
      have hl : ((G a).take j).length = j := by simp; omega
      rw [hl, List.getD_eq_getElem?_getD, List.getD_eq_getElem?_getD, List.getElem?_take_of_lt (by omega), List.getElem?_eq_getElem (show j - 1 < (G a).length by omega)]
      rfl
  · rw [L.next a _ ha hm]
    have h1 := nxL_at ((G a).take j) ((G a).drop (j + 1)) _ hnd
    rw [← hs] at h1
    rw [h1]
    by_cases h0 : j + 1 = (G a).length
    · rw [if_pos h0, List.drop_eq_nil_of_le (by omega)]; rfl
    · rw [if_neg h0, List.drop_eq_getElem_cons (show j + 1 < (G a).length by omega)]
      rw [List.getD_eq_getElem?_getD, List.getElem?_eq_getElem (show j + 1 < (G a).length by omega)]
      rfl
end Go.Proofs.Ytcjnkadmiflgaaa

