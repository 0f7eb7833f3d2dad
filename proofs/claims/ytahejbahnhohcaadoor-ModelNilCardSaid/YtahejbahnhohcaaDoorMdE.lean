/-
  The landed model: where a block is found.
-/
import Derived.Test.YtahejbahnhohcaaDoorMdC
import Derived.Scope
namespace Go.Proofs.YtahejbahnhohcaaDoor
open Go.RowKit Go.Sort
set_option linter.unusedVariables false
set_option linter.unusedSimpArgs false

/-- What the search knows. -/
structure FsI (w wr : World) (F1 : Nat → Prop) (q p : Nat) (c : Cfg) (g n cap : Nat) (D : List BKV) (a : Int) (lo hi : Nat) : Prop where
  mp : BMapAt wr F1 q D
  md : MdB wr p c q g n cap
  more : More w wr
  le : lo ≤ hi
  len : hi ≤ D.length
  lo' : lo ≤ firstM D a
  hi' : firstM D a ≤ hi
theorem FsI.step {w wr w' : World} {F1 : Nat → Prop} {q p : Nat} {c : Cfg} {g n cap : Nat} {D : List BKV} {a : Int} {lo hi lo2 hi2 : Nat} (h : FsI w wr F1 q p c g n cap D a lo hi) (m : More wr w') (h1 : lo2 ≤ hi2) (h2 : hi2 ≤ D.length) (h3 : lo2 ≤ firstM D a) (h4 : firstM D a ≤ hi2) : FsI w w' F1 q p c g n cap D a lo2 hi2 :=
  ⟨h.mp.more m, h.md.more m, h.more.trans m, h1, h2, h3, h4⟩

set_option maxRecDepth 100000 in
set_option maxHeartbeats 4000000 in
theorem md_first {F : Nat → Prop} {p : Nat} {c : Cfg} {D : List BKV} {ws : List Int} (a : Int) (w : World) (h : MdAt w F p c D ws) :
    Calls Tryd.prog 23 #[.pointer (some ⟨p, 0, none⟩), .int .i64 a] w (Gives w (.int .i64 (firstM D a))) := by
  obtain ⟨q, g, cap, F1, hp, hb, hr, _⟩ := h.ex
  have HB : Hid (MdB w p c q g ws.length cap) := Lib.hid hp
  have hq0 := HB.out.live
  have HM := Lib.hid hb
  have BK := Lib.hid h.bk
  have hsm := h.small
  have CL := Lib.hid (b_len_ok F1 q D w hb)
  have HS := Lib.hid (us_b h.ok)
  have ZL := Lib.hid (firstM_le D a)
  clear hp hb hr h
  go_enter Tryd.func23, Tryd.ntmps23
  go_wp2_with fail
  refine wp_scope_straight ?_
  go_wp2_with fail
  refine CL.out.mono ?_
  rintro e w1 ⟨rfl, h1⟩
  obtain rfl : w = w1 := h1.symm
  go_wp2_with fail
  refine wp_label ?_
  go_wp2_with fail
  go_loopw [5, 6] (fun lo hi wr => ∃ l m : Nat, lo = .int .i64 (l : Nat) ∧ hi = .int .i64 (m : Nat) ∧ FsI w wr F1 q p c g ws.length cap D a l m) (fun lo hi _ => (intOf hi).toNat - (intOf lo).toNat)
  case atStart => exact ⟨0, D.length, rfl, rfl, HM.out, HB.out, More.refl _, Nat.zero_le _, Nat.le_refl _, Nat.zero_le _, ZL.out⟩
  case round =>
    obtain ⟨l, m, rfl, rfl, hI⟩ := hrel
    have I := Lib.hid hI
    have hq1 := hI.md.live
    have hml := hI.len
    clear hI
    by_cases hlt : l < m
    · have h1 : IntKind.i64.wrap ((l : Int) + (m : Int)) = ((l + m : Nat) : Int) := by rw [wrap_in (by omega) (by omega)]; omega
      obtain ⟨i, hi⟩ : ∃ i, i = (l + m) / 2 := ⟨_, rfl⟩
      have hdiv : ((l : Int) + (m : Int)) / 2 = (i : Int) := by omega
      have hil : l ≤ i ∧ i < m := by omega
      obtain ⟨x, hx⟩ : ∃ x, D[i]? = some x := ⟨_, List.getElem?_eq_getElem (by omega)⟩
      have AT := Lib.hid (b_at_ok F1 q D i x wr I.out.mp hx)
      have XF := Lib.hid (first_iff BK.out a hx)
      have XM := Lib.hid (BK.out.mem x (List.mem_of_getElem? hx))
      have hi1 : IntKind.i64.wrap ((i : Int) + 1) = ((i + 1 : Nat) : Int) := by rw [wrap_in (by omega) (by omega)]; omega
      have hxe : IntKind.i64.wrap (x.1 + x.2.2) = x.1 + x.2.2 := by have := XM.out; have := HS.out; exact wrap_in (by omega) (by omega)
      clear hi
      obtain ⟨xa, xk, xn⟩ := x
      simp only at hxe
      have NX : Hid (xa ≤ a → i ≤ firstM D a) := Lib.hid fun hxa => by
        rcases Nat.eq_zero_or_pos i with e0 | hp0
        · omega
        · obtain ⟨y, hy⟩ : ∃ y, D[i - 1]? = some y := ⟨_, List.getElem?_eq_getElem (by omega)⟩
          have h3 := (List.pairwise_iff_getElem.1 BK.out.part) (i - 1) i (by omega) (by omega) (by omega)
          have h4 := first_iff BK.out a hy
          rw [List.getElem?_eq_getElem (by omega)] at hx hy
          rw [Option.some.inj hx, Option.some.inj hy] at h3
          simp only at h3
          omega
      clear hx
      have XE : Hid (xa + xn ≤ a ↔ i < firstM D a) := Lib.hid XF.out
      by_cases c1 : xa + xn ≤ a
      · have d1 : decide (xa + xn ≤ a) = true := by simpa using c1
        have T1 := Lib.hid (XE.out.1 c1)
        clear c1
        go_wp2_with fail
        refine AT.out.mono ?_
        rintro e w2 ⟨rfl, h2⟩
        obtain ⟨w3, e3, h3, m3, s3⟩ := entry1 w2 (.cells #[.int .i64 0, .int .i64 0] 65)
        have HZ := Lib.hid h3
        have M3 := Lib.hid (h2.trans m3)
        have g3 : wr.heap.size ≤ w2.heap.size := h2.size
        clear h2 h3 m3 s3
        simp only
        go_wp2_with (refine wpList_store_row rfl 65 _ _ rfl _ _ rfl rfl 65 _ HZ.out (by kernel_rfl) rfl (by simp [Value.oneCell']) ?_; have H4 := setRow_heap w3 _ _ #[.int .i64 xk, .int .i64 xn] _ _ HZ.out; have M4 : Hid (More wr (w3.setRow w2.heap.size #[.int .i64 xk, .int .i64 xn])) := Lib.hid (M3.out.setRow _ _ g3); clear HZ M3 g3 e3; generalize w3.setRow w2.heap.size #[.int .i64 xk, .int .i64 xn] = w4 at H4 M4 ⊢; have x1 := cell_more H4 (More.refl _) (j := 1) (v := .int .i64 xn) rfl; clear H4)
        go_roundw
        case rel => exact ⟨i + 1, m, by go_num, rfl, I.out.step M4.out (by omega) hml (by have := T1.out; omega) I.out.hi'⟩
        case measure => simp [intOf]; omega
      · have d1 : decide (xa + xn ≤ a) = false := by simpa using c1
        by_cases c2 : a < xa
        · have d2 : decide (a < xa) = true := by simpa using c2
          have T2 : Hid (firstM D a ≤ i) := Lib.hid (by have := XE.out; omega)
          clear c1 c2
          go_wp2_with fail
          refine AT.out.mono ?_
          rintro e w2 ⟨rfl, h2⟩
          obtain ⟨w3, e3, h3, m3, s3⟩ := entry1 w2 (.cells #[.int .i64 0, .int .i64 0] 65)
          have HZ := Lib.hid h3
          have M3 := Lib.hid (h2.trans m3)
          have g3 : wr.heap.size ≤ w2.heap.size := h2.size
          clear h2 h3 m3 s3
          simp only
          go_wp2_with (refine wpList_store_row rfl 65 _ _ rfl _ _ rfl rfl 65 _ HZ.out (by kernel_rfl) rfl (by simp [Value.oneCell']) ?_; have H4 := setRow_heap w3 _ _ #[.int .i64 xk, .int .i64 xn] _ _ HZ.out; have M4 : Hid (More wr (w3.setRow w2.heap.size #[.int .i64 xk, .int .i64 xn])) := Lib.hid (M3.out.setRow _ _ g3); clear HZ M3 g3 e3; generalize w3.setRow w2.heap.size #[.int .i64 xk, .int .i64 xn] = w4 at H4 M4 ⊢; have x1 := cell_more H4 (More.refl _) (j := 1) (v := .int .i64 xn) rfl; clear H4)
          go_roundw
          case rel => exact ⟨l, i, rfl, rfl, I.out.step M4.out (by omega) (by omega) I.out.lo' T2.out⟩
          case measure => simp [intOf]; omega
        · have d2 : decide (a < xa) = false := by simpa using c2
          have T3 : Hid (i = firstM D a) := Lib.hid (by have := XE.out; have := NX.out; omega)
          clear c1 c2
          go_wp2_with fail
          refine AT.out.mono ?_
          rintro e w2 ⟨rfl, h2⟩
          obtain ⟨w3, e3, h3, m3, s3⟩ := entry1 w2 (.cells #[.int .i64 0, .int .i64 0] 65)
          have HZ := Lib.hid h3
          have M3 := Lib.hid (h2.trans m3)
          have g3 : wr.heap.size ≤ w2.heap.size := h2.size
          clear h2 h3 m3 s3
          simp only
          go_wp2_with (refine wpList_store_row rfl 65 _ _ rfl _ _ rfl rfl 65 _ HZ.out (by kernel_rfl) rfl (by simp [Value.oneCell']) ?_; have H4 := setRow_heap w3 _ _ #[.int .i64 xk, .int .i64 xn] _ _ HZ.out; have M4 : Hid (More wr (w3.setRow w2.heap.size #[.int .i64 xk, .int .i64 xn])) := Lib.hid (M3.out.setRow _ _ g3); clear HZ M3 g3 e3; generalize w3.setRow w2.heap.size #[.int .i64 xk, .int .i64 xn] = w4 at H4 M4 ⊢; have x1 := cell_more H4 (More.refl _) (j := 1) (v := .int .i64 xn) rfl; clear H4)
          have MR := Lib.hid (I.out.more.trans M4.out)
          unfold Exit.noGoto
          go_ret
          exact ⟨by rw [← T3.out]; rfl, MR.out⟩
    · have FIN : Hid (l = firstM D a) := Lib.hid (by have := I.out.lo'; have := I.out.hi'; omega)
      have MR := Lib.hid I.out.more
      go_wp2_with fail
      unfold Exit.noGoto
      go_ret
      exact ⟨by rw [← FIN.out]; rfl, MR.out⟩
end Go.Proofs.YtahejbahnhohcaaDoor
