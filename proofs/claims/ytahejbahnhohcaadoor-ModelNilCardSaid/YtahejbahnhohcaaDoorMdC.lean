/-
  The landed model: parts of its words, a word, the place of a block, and Block.
-/
import Derived.Test.YtahejbahnhohcaaDoorMdB
namespace Go.Proofs.YtahejbahnhohcaaDoor
open Go.RowKit Go.Sort
set_option linter.unusedVariables false
set_option linter.unusedSimpArgs false

theorem y_user {c : Cfg} (R : c.Ok) (w : World) : Calls Tryd.prog 15 #[.agg c.arr] w (Gives w (.int .i64 c.us)) := xuser R w
theorem y_words {c : Cfg} (R : c.Ok) (w : World) : Calls Tryd.prog 16 #[.agg c.arr] w (Gives w (.int .i64 c.words)) := xwords R w
theorem y_config {c : Cfg} (R : c.Ok) (w : World) : Calls Tryd.prog 43 #[.agg c.arr] w (Gives w (.agg c.cells)) := xconfig R w
theorem y_place {c : Cfg} (R : c.Ok) (a : Int) (h : c.us ≤ a ∧ a < c.words) : ∃ y1 y2, ∀ w, Calls Tryd.prog 29 #[.agg c.arr, .int .i64 a] w (Gives w (.tuple #[.int .i64 y1, .int .i64 y2, .bool true])) := ⟨_, _, fun w => xplace_in R w a h.1 h.2⟩
theorem y_noplace {c : Cfg} (R : c.Ok) (a : Int) (h : ¬ (c.us ≤ a ∧ a < c.words)) (w : World) : Calls Tryd.prog 29 #[.agg c.arr, .int .i64 a] w (Gives w (.tuple #[.int .i64 0, .int .i64 0, .bool false])) :=
  xplace_out R w a (by have h1 : c.us = userV c.cp c.pg c.st c.ca c.bi := rfl; have h2 : c.words = wordsV c.cp c.pg c.st c.ca c.bi := rfl; omega)

/-- The block of a model. -/
def MdB (w : World) (p : Nat) (c : Cfg) (q g n cap : Nat) : Prop := w.heap[p]? = some (.cells (mdArr c q g n cap) 68 (0, 0))
theorem MdB.more {w w' : World} {p : Nat} {c : Cfg} {q g n cap : Nat} (h : MdB w p c q g n cap) (m : More w w') : MdB w' p c q g n cap := m.block h
theorem MdB.live {w : World} {p : Nat} {c : Cfg} {q g n cap : Nat} (h : MdB w p c q g n cap) : w.cell? ⟨p, 24, none⟩ = some (.pointer (some ⟨q, 0, none⟩)) := cell_more h (More.refl _) (md_live ..)
theorem MdB.words {w : World} {p : Nat} {c : Cfg} {q g n cap : Nat} (h : MdB w p c q g n cap) : w.cell? ⟨p, 25, none⟩ = some (.slice (some ⟨g, 0, none⟩) n cap) := cell_more h (More.refl _) (md_words ..)

set_option maxRecDepth 100000 in
set_option maxHeartbeats 1000000 in
theorem md_part {c : Cfg} (R : c.Ok) {p q g N cap : Nat} (i n : Nat) (w : World) (hb : MdB w p c q g N cap) (hN : (N : Int) = 32 * c.pg) (hc : N ≤ cap) (hm : cap ≤ maxLen) (hn : 0 < n) (hi : i + n ≤ N) :
    Calls Tryd.prog 30 #[.pointer (some ⟨p, 0, none⟩), .int .i64 (c.us + i), .int .i64 n] w (Gives w (.slice (some ⟨g, i, none⟩) n n)) := by
  have HB := Lib.hid hb
  have HU := Lib.hid (fun W => y_user R W)
  have hus := us_b R
  have hs : IntKind.i64.wrap (c.us + (i : Int) - c.us) = (i : Int) := by rw [wrap_in (by omega) (by omega)]; omega
  have ha : IntKind.i64.wrap ((i : Int) + (n : Int)) = (i : Int) + (n : Int) := wrap_in (by omega) (by omega)
  have b1 : (i : Int) ≤ (i : Int) + (n : Int) := by omega
  have b2 : (i : Int) + (n : Int) ≤ (cap : Int) := by omega
  have b3 : (0 : Int) ≤ (i : Int) + (n : Int) := by omega
  have b4 : ((i : Int) + (n : Int)).toNat = i + n := by omega
  have b5 : ¬ (i + n = i) := by omega
  have b6 : i + n - i = n := by omega
  clear hb hus hN
  generalize c.us = us at hs HU ⊢
  go_enter Tryd.func30, Tryd.ntmps30
  go_wp2_with (refine wpList_load_sub rfl 49 _ rfl p 0 rfl 68 _ c.arr _ _ HB.out (md_lay _ _ _ _ _) Tryd.underlying49 rfl (by kernel_rfl) ?_)
  refine (HU.out _).mono ?_
  rintro e w1 ⟨rfl, h1⟩
  have H1 := Lib.hid h1
  have hw := (HB.out.more h1).words
  clear h1
  go_wp2_with fail
  go_ret
  exact ⟨rfl, H1.out⟩

set_option maxRecDepth 100000 in
set_option maxHeartbeats 1000000 in
theorem md_part0 {c : Cfg} (R : c.Ok) {p q g N cap : Nat} (i : Nat) (w : World) (hb : MdB w p c q g N cap) (hN : (N : Int) = 32 * c.pg) (hc : N ≤ cap) (hm : cap ≤ maxLen) (hi : i ≤ N) :
    Calls Tryd.prog 30 #[.pointer (some ⟨p, 0, none⟩), .int .i64 (c.us + i), .int .i64 0] w (Gives w (.slice (some ⟨g, 0, none⟩) 0 0)) := by
  have HB := Lib.hid hb
  have HU := Lib.hid (fun W => y_user R W)
  have hus := us_b R
  have hs : IntKind.i64.wrap (c.us + (i : Int) - c.us) = (i : Int) := by rw [wrap_in (by omega) (by omega)]; omega
  have ha : IntKind.i64.wrap (i : Int) = (i : Int) := wrap_in (by omega) (by omega)
  have b2 : (i : Int) ≤ (cap : Int) := by omega
  clear hb hus hN
  generalize c.us = us at hs HU ⊢
  go_enter Tryd.func30, Tryd.ntmps30
  go_wp2_with (refine wpList_load_sub rfl 49 _ rfl p 0 rfl 68 _ c.arr _ _ HB.out (md_lay _ _ _ _ _) Tryd.underlying49 rfl (by kernel_rfl) ?_)
  refine (HU.out _).mono ?_
  rintro e w1 ⟨rfl, h1⟩
  have H1 := Lib.hid h1
  have hw := (HB.out.more h1).words
  clear h1
  go_wp2_with fail
  go_ret
  exact ⟨rfl, H1.out⟩

/-- A user word. -/
def wordM (c : Cfg) (ws : List Int) (a : Int) : Int := if c.us ≤ a ∧ a < c.words then ws.getD (a - c.us).toNat 0 else 0
set_option maxRecDepth 100000 in
set_option maxHeartbeats 1000000 in
theorem md_word {F : Nat → Prop} {p : Nat} {c : Cfg} {D : List BKV} {ws : List Int} (a : Int) (w : World) (h : MdAt w F p c D ws) :
    Calls Tryd.prog 11 #[.pointer (some ⟨p, 0, none⟩), .int .i64 a] w (Gives w (.int .i64 (wordM c ws a))) := by
  obtain ⟨q, g, cap, F1, hp, hb, hr, _⟩ := h.ex
  have HB : Hid (MdB w p c q g ws.length cap) := Lib.hid hp
  have hus := us_b h.ok
  have hl := h.len
  by_cases hin : c.us ≤ a ∧ a < c.words
  · obtain ⟨y1, y2, hP0⟩ := y_place h.ok a hin
    have hP := Lib.hid (hP0 w)
    clear hP0
    obtain ⟨i, hi⟩ : ∃ i : Nat, a = c.us + i := ⟨(a - c.us).toNat, by omega⟩
    have hiN : i < ws.length := by omega
    obtain ⟨x, hx⟩ : ∃ x, ws[i]? = some x := ⟨_, List.getElem?_eq_getElem hiN⟩
    have hv : wordM c ws a = x := by
      unfold wordM
      rw [if_pos hin, show (a - c.us).toNat = i by omega, List.getD_eq_getElem?_getD, hx]; rfl
    rw [hv]
    obtain ⟨g', hg', _, hcell, _⟩ := hr.reads (by simp; omega)
    cases hg'
    have HX : Hid (w.cell? ⟨g, i, none⟩ = some (.int .i64 x)) := Lib.hid (hcell i _ (by rw [List.getElem?_map, hx]; rfl))
    have hcap : ws.length ≤ cap ∧ cap ≤ maxLen := by
      rcases hr with ⟨h, _⟩ | ⟨_, _, _, _, h1, h2, _⟩
      · cases h
      · exact ⟨by simpa using h1, h2⟩
    have HP := Lib.hid (fun W (hW : More w W) => md_part h.ok i 1 W (HB.out.more hW) hl hcap.1 hcap.2 (by omega) (by omega))
    have HA := Lib.hid hi
    rw [hi] at hP ⊢
    clear h hp hb hr hin hv hx hcell hcap hi hiN hl hus
    generalize c.us + (i : Int) = b at hP HP ⊢
    go_enter Tryd.func11, Tryd.ntmps11
    go_wp2_with (refine wpList_load_sub rfl 49 _ rfl p 0 rfl 68 _ c.arr _ _ HB.out (md_lay _ _ _ _ _) Tryd.underlying49 rfl (by kernel_rfl) ?_)
    refine hP.out.mono ?_
    rintro e w1 ⟨rfl, h1⟩
    have M1 := Lib.hid h1
    go_wp2_with fail
    refine (HP.out w1 h1).mono ?_
    rintro e w2 ⟨rfl, h2⟩
    have hx2 := h2.cell (h1.cell HX.out)
    have M2 := Lib.hid (h1.trans h2)
    clear h1 h2 M1
    go_wp2_with fail
    go_ret
    exact ⟨rfl, M2.out⟩
  · have hP := Lib.hid (y_noplace h.ok a hin w)
    have hv : wordM c ws a = 0 := by unfold wordM; rw [if_neg hin]
    rw [hv]
    clear h hp hb hr hin hv hl hus
    go_enter Tryd.func11, Tryd.ntmps11
    go_wp2_with (refine wpList_load_sub rfl 49 _ rfl p 0 rfl 68 _ c.arr _ _ HB.out (md_lay _ _ _ _ _) Tryd.underlying49 rfl (by kernel_rfl) ?_)
    refine hP.out.mono ?_
    rintro e w1 ⟨rfl, h1⟩
    have M1 := Lib.hid h1
    clear h1
    go_wp2_with fail
    go_ret
    exact ⟨rfl, M1.out⟩
end Go.Proofs.YtahejbahnhohcaaDoor
