/-
  Layer 12's statement that a stack's calls change no words but its own.
-/
import Derived.Test.YtflihdcliknggaaStkApartW
namespace Go.Proofs.Ytflihdcliknggaa
open Go.RowKit Go.Sort Go.Maps Go.Shelf
set_option linter.unusedVariables false
set_option linter.unusedSimpArgs false

theorem okW_put {zs : List Int} (h : OkW zs) {x : Int} (hx : W64 x) (j : Nat) : OkW (zs.set j x) := fun y hy => by
  rcases List.mem_or_eq_of_mem_set hy with q | rfl
  · exact h y q
  · exact hx
theorem okW_at {l : List Int} (h : OkW l) {j : Nat} (hj : j < l.length) : W64 (l.getD j 0) := by
  have : l.getD j 0 = l[j] := by simp [List.getD, hj]
  rw [this]; exact h _ (List.getElem_mem hj)
theorem row_put {w wr : World} {g : Nat} (m : More w wr) (hg : w.heap.size ≤ g) (j : Nat) (v : Value) : More w (wr.setCell ⟨g, j, none⟩ v) := Turned.setCell m _ _ (fun q => by simp at q; omega)
theorem set_apart {w : World} {g b j : Nat} {v : Value} {o : Obj} (h : w.heap[b]? = some o) (hne : b ≠ g) : (w.setCell ⟨g, j, none⟩ v).heap[b]? = some o := (Below.heap_setCell _ _ _ _ hne).trans h
/-- One word more is as it was. -/
theorem eq_of_put {ns zs : List Int} {b : Int} {i : Nat} (hl : ns.length = 16) (hz : zs.length = 16) (hb : 1 ≤ b ∧ b + 4 < 16) (hi : (i : Int) ≤ b + 4) (h0 : b ≤ i) (h : ∀ j : Int, 0 ≤ j → (j < i ∨ b + 4 < j) → wAt ns j = wAt zs j) : ∀ j : Int, 0 ≤ j → (j < ((i + 1 : Nat) : Int) ∨ b + 4 < j) → wAt (ns.set i (zs.getD i 0)) j = wAt zs j := fun j h1 h2 => by
  have := wAt_set (ws := ns) (a := (i : Int)) (x := zs.getD i 0) (i := j) (by omega) h1 (by omega)
  rw [Int.toNat_natCast] at this
  rw [this]
  by_cases e : j = (i : Int)
  · subst e; rw [if_pos rfl]; rfl
  · rw [if_neg e]; exact h j h1 (by omega)

set_option maxRecDepth 100000 in
set_option maxHeartbeats 4000000 in
theorem apart_walk (a : Option Addr) (cap : Nat) (l : List Int) (k bb x : Int) (w : World) (hl : IsWords w a l) (ho : OkW l) (hm : l.length ≤ 9223372036854775807) (e0 : (Lit.int .i64 k).wf = true) (e1 : (Lit.int .i64 bb).wf = true) (e2 : (Lit.int .i64 x).wf = true) :
    Calls Try.prog 5 #[.slice a l.length cap, .agg #[.int .i64 k, .int .i64 bb, .int .i64 x]] w (Gives w (.bool true)) := by
  obtain ⟨w1, f1, b1, m1, s1⟩ := entry1 w (.cells #[.int .i64 k, .int .i64 bb, .int .i64 x] 40)
  obtain ⟨w2, hmk, bz, m2, s2⟩ : ∃ w2, (Instr.makeSlice 23 (.int .i64 16) (.int .i64 16)).run Try.prog w1 = .ok (.slice (some ⟨w1.heap.size, 0, none⟩) 16 16) w2 ∧ w2.heap[w1.heap.size]? = some (.cells (rowOf (zeros 16)) 3 (0, 0)) ∧ More w1 w2 ∧ w2.heap.size = w1.heap.size + 1 :=
    ⟨_, run_make_zs 16 (by omega) w1, row_new w1 _ _, (More.refl _).alloc _, by simp⟩
  rw [s1] at hmk bz s2
  have LV : Hid (∀ w', Calls Try.prog 6 #[] w' (Gives w' (.bool true))) := Lib.hid lives12_ok
  have hx : W64 x := by simp [Lit.wf] at e2; exact e2
  have HX := Lib.hid hx
  have HL := Lib.hid hl
  have HO := Lib.hid ho
  have M2 := Lib.hid (m1.trans m2)
  have B2 := Lib.hid (m2.block b1)
  have Z2 := Lib.hid (ws_zeros w2 16 (by omega) bz)
  clear hl ho b1 bz m1 m2 e0 e1 e2 hx
  go_enter Try.func5, Try.ntmps5
  go_wp2_with fail
  go_loopw [6] (fun i wr => ∃ (j : Nat) (zs : List Int), i = .int .i64 (j : Int) ∧ j ≤ 16 ∧ zs.length = 16 ∧ OkW zs ∧ More w wr ∧ Ws wr (w.heap.size + 1) 16 zs ∧ wr.heap[w.heap.size]? = some (.cells #[.int .i64 k, .int .i64 bb, .int .i64 x] 40 (0, 0)) ∧ w.heap.size + 2 ≤ wr.heap.size) (fun i _ => 16 - (intOf i).toNat)
  case atStart => exact ⟨0, zeros 16, rfl, by omega, zeros_len 16, okW_zeros 16, M2.out, Z2.out, B2.out, by omega⟩
  case round =>
    obtain ⟨j, zs, rfl, hj, hz, hok, hmr, hws, hb, hs⟩ := hrel
    have M3 := Lib.hid hmr
    have Z3 := Lib.hid hws
    have B3 := Lib.hid hb
    have OK := Lib.hid hok
    clear hmr hws hb hok M2 Z2 B2
    by_cases hgo : j < l.length ∧ j < 16
    · obtain ⟨hj1, hj2⟩ := hgo
      obtain ⟨s, o, rfl, hsl, hc⟩ := (HL.out.more M3.out).resolve_left (by intro q; rw [q] at hj1; simp at hj1)
      have c1 := hc j hj1
      have hy := okW_at HO.out hj1
      have HY := Lib.hid hy
      generalize l.getD j 0 = y at c1 HY hy
      have d0 : decide ((j : Int) < (l.length : Int)) = true := by simp; omega
      have d1 : decide ((j : Int) < 16) = true := by simp; omega
      have d2 : decide (j < l.length) = true := by simp [hj1]
      have d3 : decide (j < 16) = true := by simp [hj2]
      have c2 := Z3.out.cell (i := j) (by omega)
      have c3 := Z3.out.froz j
      have Z4 := Lib.hid (Z3.out.set (i := j) (by omega) y)
      have OK4 := Lib.hid (okW_put OK.out HY.out j)
      have M4 := Lib.hid (row_put M3.out (show w.heap.size ≤ w.heap.size + 1 by omega) j (.int .i64 y))
      have B4 := Lib.hid (set_apart (j := j) (v := .int .i64 y) B3.out (show w.heap.size ≠ w.heap.size + 1 by omega))
      clear hc hy B3 M3 Z3 OK
      go_wp2_with fail
      go_roundw
      case rel => exact ⟨j + 1, _, by go_num, by omega, by simp [hz], OK4.out, M4.out, Z4.out, B4.out, by simpa [World.setCell] using hs⟩
      case measure => simp [intOf]; omega
    · by_cases hj1 : j < l.length
      · have hj2 : ¬ j < 16 := fun q => hgo ⟨hj1, q⟩
        have d0 : decide ((j : Int) < (l.length : Int)) = true := by simp; omega
        have d1 : decide ((j : Int) < 16) = false := by simp; omega
        have d2 : decide (j < l.length) = true := by simp [hj1]
        have d3 : decide (j < 16) = false := by simp; omega
        clear hgo
        obtain ⟨g0, g1, g2⟩ := box3 B3.out
        have HZ := Lib.hid hz
        go_wp2_with fail
        refine (st_base bb _).mono ?_
        rintro e w5 ⟨rfl, m5⟩
        have Z5 := Z3.out.more m5
        have M5 := M3.out.trans m5
        have B5 := m5.block B3.out
        have hs5 : w.heap.size + 2 ≤ w5.heap.size := by have := m5.size; omega
        have SI := Lib.hid (stBase_in bb)
        have SB := Lib.hid (stBase_b bb)
        generalize stBase bb = b at SI SB
        obtain ⟨w6, f6, b6, m6, s6⟩ := entry1 w5 (.cells #[.int .i64 0] 3)
        obtain ⟨w7, f7⟩ : ∃ w7, w6.setCell ⟨w5.heap.size, 0, none⟩ (.int .i64 b) = w7 := ⟨_, rfl⟩
        obtain ⟨y0, y1, y2⟩ := box_cells b6
        have m7 : More w5 w7 := by rw [← f7]; exact Turned.setCell m6 _ _ (fun q => by simp at q)
        have b7 : BoxN w5.heap.size w7 b := by rw [← f7]; exact setCell_one b6 _
        have Z7 := Lib.hid (Z5.more m7)
        have M7 := Lib.hid (M5.trans m7)
        have DO := apart_do k bb x HX.out zs (by rw [hz]; exact SI.out) (by omega) OK.out w.heap.size w5.heap.size (some ⟨w.heap.size + 1, 0, none⟩) 16 w7 ⟨m7.block B5, b7⟩ Z7.out.words
        rw [hz] at DO
        have DO := Lib.hid DO
        have b7 := Lib.hid b7
        have hs7 : w.heap.size + 2 ≤ w7.heap.size := by have := m7.size; omega
        clear b6 m6 m7 m5 Z5 M5 B5 g0 g1 g2 Z3 M3 B3 OK hs
        go_wp2_with fail
        refine DO.out.mono ?_
        rintro e w8 ⟨v1, v2, ws, rfl, hwl, hoff, r1, m8⟩
        obtain ⟨an, cn, rfl, hrd⟩ := r1.reads
        rw [hwl] at hrd ⊢
        obtain ⟨gn, rfl, hgn, _⟩ := hrd 0 (by omega)
        have N8 := Lib.hid (Ws.of_rw r1)
        have Z8 := Lib.hid (Z7.out.more m8)
        have M8 := Lib.hid (M7.out.trans m8)
        have b8 := Lib.hid (m8.block b7.out)
        have HW := Lib.hid hwl
        have HO8 := Lib.hid hoff
        have hgn2 : w.heap.size + 2 ≤ gn := by omega
        have c7 := (box_cells b8.out).1
        have hs8 : w.heap.size + 2 ≤ w8.heap.size := by have := m8.size; omega
        have hg5 : w5.heap.size < w7.heap.size := lt_of_heap b7.out
        clear r1 m8 hwl hoff hrd DO b7 M7 Z7 f6 f7 y0 y1 y2
        have q4 : wrap64 (b + 4) = b + 4 := by have := SB.out; exact w64_in (by omega) (by omega)
        generalize w5.heap.size = g5 at b8 c7 hg5
        go_wp2_with fail
        clear c7
        go_loopw [11] (fun i wr => ∃ (m : Nat) (ns : List Int), i = .int .i64 (m : Int) ∧ b ≤ m ∧ (m : Int) ≤ b + 5 ∧ ns.length = 16 ∧ More w wr ∧ Ws wr gn cn ns ∧ Ws wr (w.heap.size + 1) 16 zs ∧ BoxN g5 wr b ∧ ∀ j : Int, 0 ≤ j → (j < m ∨ b + 4 < j) → wAt ns j = wAt zs j) (fun i _ => 16 - (intOf i).toNat)
        case atStart =>
          have hb := SB.out
          exact ⟨b.toNat, ws, by congr 1; omega, by omega, by omega, by rw [HW.out], M8.out, N8.out, Z8.out, b8.out, fun j h0 h1 => HO8.out j h0 (by omega)⟩
        case round =>
          obtain ⟨m, ns, rfl, hm0, hm1, hnl, hmr, hns, hzs, hbr, hsame⟩ := hrel
          have M9 := Lib.hid hmr
          have N9 := Lib.hid hns
          have Z9 := Lib.hid hzs
          have b9 := Lib.hid hbr
          have S9 := Lib.hid hsame
          have c9 := (box_cells b9.out).1
          have HNL := Lib.hid hnl
          clear hmr hns hzs hbr hsame M8 N8 Z8 b8 hnl
          by_cases hmb : (m : Int) ≤ b + 4
          · have hm16 : m < 16 := by have := SB.out; omega
            have k0 : decide ((m : Int) ≤ b + 4) = true := by simp [hmb]
            have k1 : decide (m < 16) = true := by simp [hm16]
            have x1 := Z9.out.cell (i := m) (by have := HZ.out; omega)
            have x2 := N9.out.cell (i := m) (by have := HNL.out; omega)
            have x3 := N9.out.froz m
            have M10 := Lib.hid (row_put M9.out (show w.heap.size ≤ gn by omega) m (.int .i64 (zs.getD m 0)))
            have N10 := Lib.hid (N9.out.set (i := m) (by have := HNL.out; omega) (zs.getD m 0))
            have T10 : Turned (fun q => q = gn) wr (wr.setCell ⟨gn, m, none⟩ (.int .i64 (zs.getD m 0))) := Turned.setCell (Turned.refl _ wr) _ _ (fun _ => rfl)
            have Z10 := Lib.hid (Z9.out.keep T10 (by omega))
            have b10 := Lib.hid (kept_one T10 b9.out (by omega))
            have S10 := Lib.hid (eq_of_put HNL.out HZ.out (by have := SB.out; omega) hmb hm0 S9.out)
            have hm2 : ((m + 1 : Nat) : Int) ≤ b + 5 := by omega
            have hm3 : b ≤ ((m + 1 : Nat) : Int) := by omega
            generalize zs.getD m 0 = z at x1 x2 M10 N10 T10 Z10 b10 S10
            clear T10 M9 N9 Z9 b9 S9 hmb hm0 hm1
            go_wp2_with fail
            go_roundw
            case rel => exact ⟨m + 1, _, by go_num, hm3, hm2, by simp [HNL.out], M10.out, N10.out, Z10.out, b10.out, S10.out⟩
            case measure => simp [intOf]; omega
          · have k0 : decide ((m : Int) ≤ b + 4) = false := by simp; omega
            have he : ns = zs := words_ext (by rw [HNL.out, HZ.out]) (fun i h0 h1 => S9.out i h0 (by omega))
            subst he
            have RS := Lib.hid (rows_same ns _ _ 0 0 wr (by have := HNL.out; omega) (N9.out.rw' (Nat.zero_le _)) (Z9.out.rw' (Nat.zero_le _)))
            rw [HNL.out] at RS
            clear hmb hm0 hm1
            go_wp2_with fail
            refine RS.out.mono ?_
            rintro e w11 ⟨rfl, h11⟩
            have M11 := Lib.hid (M9.out.trans h11)
            clear h11
            go_wp2_with fail
            refine (LV.out _).mono ?_
            rintro e w12 ⟨rfl, h12⟩
            have M12 := Lib.hid (M11.out.trans h12)
            clear h12
            go_wp2_with fail
            go_ret
            exact ⟨rfl, M12.out⟩
      · have d0 : decide ((j : Int) < (l.length : Int)) = false := by simp; omega
        have d2 : decide (j < l.length) = false := by simp; omega
        clear hgo
        obtain ⟨g0, g1, g2⟩ := box3 B3.out
        have HZ := Lib.hid hz
        go_wp2_with fail
        refine (st_base bb _).mono ?_
        rintro e w5 ⟨rfl, m5⟩
        have Z5 := Z3.out.more m5
        have M5 := M3.out.trans m5
        have B5 := m5.block B3.out
        have hs5 : w.heap.size + 2 ≤ w5.heap.size := by have := m5.size; omega
        have SI := Lib.hid (stBase_in bb)
        have SB := Lib.hid (stBase_b bb)
        generalize stBase bb = b at SI SB
        obtain ⟨w6, f6, b6, m6, s6⟩ := entry1 w5 (.cells #[.int .i64 0] 3)
        obtain ⟨w7, f7⟩ : ∃ w7, w6.setCell ⟨w5.heap.size, 0, none⟩ (.int .i64 b) = w7 := ⟨_, rfl⟩
        obtain ⟨y0, y1, y2⟩ := box_cells b6
        have m7 : More w5 w7 := by rw [← f7]; exact Turned.setCell m6 _ _ (fun q => by simp at q)
        have b7 : BoxN w5.heap.size w7 b := by rw [← f7]; exact setCell_one b6 _
        have Z7 := Lib.hid (Z5.more m7)
        have M7 := Lib.hid (M5.trans m7)
        have DO := apart_do k bb x HX.out zs (by rw [hz]; exact SI.out) (by omega) OK.out w.heap.size w5.heap.size (some ⟨w.heap.size + 1, 0, none⟩) 16 w7 ⟨m7.block B5, b7⟩ Z7.out.words
        rw [hz] at DO
        have DO := Lib.hid DO
        have b7 := Lib.hid b7
        have hs7 : w.heap.size + 2 ≤ w7.heap.size := by have := m7.size; omega
        clear b6 m6 m7 m5 Z5 M5 B5 g0 g1 g2 Z3 M3 B3 OK hs
        go_wp2_with fail
        refine DO.out.mono ?_
        rintro e w8 ⟨v1, v2, ws, rfl, hwl, hoff, r1, m8⟩
        obtain ⟨an, cn, rfl, hrd⟩ := r1.reads
        rw [hwl] at hrd ⊢
        obtain ⟨gn, rfl, hgn, _⟩ := hrd 0 (by omega)
        have N8 := Lib.hid (Ws.of_rw r1)
        have Z8 := Lib.hid (Z7.out.more m8)
        have M8 := Lib.hid (M7.out.trans m8)
        have b8 := Lib.hid (m8.block b7.out)
        have HW := Lib.hid hwl
        have HO8 := Lib.hid hoff
        have hgn2 : w.heap.size + 2 ≤ gn := by omega
        have c7 := (box_cells b8.out).1
        have hs8 : w.heap.size + 2 ≤ w8.heap.size := by have := m8.size; omega
        have hg5 : w5.heap.size < w7.heap.size := lt_of_heap b7.out
        clear r1 m8 hwl hoff hrd DO b7 M7 Z7 f6 f7 y0 y1 y2
        have q4 : wrap64 (b + 4) = b + 4 := by have := SB.out; exact w64_in (by omega) (by omega)
        generalize w5.heap.size = g5 at b8 c7 hg5
        go_wp2_with fail
        clear c7
        go_loopw [11] (fun i wr => ∃ (m : Nat) (ns : List Int), i = .int .i64 (m : Int) ∧ b ≤ m ∧ (m : Int) ≤ b + 5 ∧ ns.length = 16 ∧ More w wr ∧ Ws wr gn cn ns ∧ Ws wr (w.heap.size + 1) 16 zs ∧ BoxN g5 wr b ∧ ∀ j : Int, 0 ≤ j → (j < m ∨ b + 4 < j) → wAt ns j = wAt zs j) (fun i _ => 16 - (intOf i).toNat)
        case atStart =>
          have hb := SB.out
          exact ⟨b.toNat, ws, by congr 1; omega, by omega, by omega, by rw [HW.out], M8.out, N8.out, Z8.out, b8.out, fun j h0 h1 => HO8.out j h0 (by omega)⟩
        case round =>
          obtain ⟨m, ns, rfl, hm0, hm1, hnl, hmr, hns, hzs, hbr, hsame⟩ := hrel
          have M9 := Lib.hid hmr
          have N9 := Lib.hid hns
          have Z9 := Lib.hid hzs
          have b9 := Lib.hid hbr
          have S9 := Lib.hid hsame
          have c9 := (box_cells b9.out).1
          have HNL := Lib.hid hnl
          clear hmr hns hzs hbr hsame M8 N8 Z8 b8 hnl
          by_cases hmb : (m : Int) ≤ b + 4
          · have hm16 : m < 16 := by have := SB.out; omega
            have k0 : decide ((m : Int) ≤ b + 4) = true := by simp [hmb]
            have k1 : decide (m < 16) = true := by simp [hm16]
            have x1 := Z9.out.cell (i := m) (by have := HZ.out; omega)
            have x2 := N9.out.cell (i := m) (by have := HNL.out; omega)
            have x3 := N9.out.froz m
            have M10 := Lib.hid (row_put M9.out (show w.heap.size ≤ gn by omega) m (.int .i64 (zs.getD m 0)))
            have N10 := Lib.hid (N9.out.set (i := m) (by have := HNL.out; omega) (zs.getD m 0))
            have T10 : Turned (fun q => q = gn) wr (wr.setCell ⟨gn, m, none⟩ (.int .i64 (zs.getD m 0))) := Turned.setCell (Turned.refl _ wr) _ _ (fun _ => rfl)
            have Z10 := Lib.hid (Z9.out.keep T10 (by omega))
            have b10 := Lib.hid (kept_one T10 b9.out (by omega))
            have S10 := Lib.hid (eq_of_put HNL.out HZ.out (by have := SB.out; omega) hmb hm0 S9.out)
            have hm2 : ((m + 1 : Nat) : Int) ≤ b + 5 := by omega
            have hm3 : b ≤ ((m + 1 : Nat) : Int) := by omega
            generalize zs.getD m 0 = z at x1 x2 M10 N10 T10 Z10 b10 S10
            clear T10 M9 N9 Z9 b9 S9 hmb hm0 hm1
            go_wp2_with fail
            go_roundw
            case rel => exact ⟨m + 1, _, by go_num, hm3, hm2, by simp [HNL.out], M10.out, N10.out, Z10.out, b10.out, S10.out⟩
            case measure => simp [intOf]; omega
          · have k0 : decide ((m : Int) ≤ b + 4) = false := by simp; omega
            have he : ns = zs := words_ext (by rw [HNL.out, HZ.out]) (fun i h0 h1 => S9.out i h0 (by omega))
            subst he
            have RS := Lib.hid (rows_same ns _ _ 0 0 wr (by have := HNL.out; omega) (N9.out.rw' (Nat.zero_le _)) (Z9.out.rw' (Nat.zero_le _)))
            rw [HNL.out] at RS
            clear hmb hm0 hm1
            go_wp2_with fail
            refine RS.out.mono ?_
            rintro e w11 ⟨rfl, h11⟩
            have M11 := Lib.hid (M9.out.trans h11)
            clear h11
            go_wp2_with fail
            refine (LV.out _).mono ?_
            rintro e w12 ⟨rfl, h12⟩
            have M12 := Lib.hid (M11.out.trans h12)
            clear h12
            go_wp2_with fail
            go_ret
            exact ⟨rfl, M12.out⟩
end Go.Proofs.Ytflihdcliknggaa
