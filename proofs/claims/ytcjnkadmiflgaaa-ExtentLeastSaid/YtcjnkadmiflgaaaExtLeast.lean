/-
  Layer 9's statement of Find.
-/
import Derived.Test.YtcjnkadmiflgaaaExtLeastW
namespace Go.Proofs.Ytcjnkadmiflgaaa
open Go.RowKit Go.Sort Go.Maps Go.Shelf
set_option linter.unusedVariables false
set_option linter.unusedSimpArgs false

theorem least_call {c : Cfg} (R : c.Ok) (zs : List Int) (H : PgIn c.pg c.st zs.length) (hlen : zs.length ≤ 1000) (hz : OkW zs) (w : World) (g1 g2 g3 g4 : Nat) (a : Option Addr) (cap : Nat) (m step : Int) (hm : 1 ≤ m ∧ m ≤ 20) (hs : 1 ≤ step ∧ step ≤ 20) (hY : LsY c g1 g2 g3 g4 m step w) (hne : g1 ≠ g4 ∧ g2 ≠ g4 ∧ g3 ≠ g4) (hw : IsWords w a zs) :
    Calls Try.prog 8 #[.slice a zs.length cap, .func (.func 9) #[] #[.pointer (some ⟨g1, 0, none⟩), .pointer (some ⟨g2, 0, none⟩), .pointer (some ⟨g3, 0, none⟩), .pointer (some ⟨g4, 0, none⟩)]] w (fun e w' => ∃ v1 v2, e = .returned (.tuple #[v1, v2, .int .i64 0]) ∧ Rw w.heap.size w' v1 zs ∧ BoxB g4 w' true ∧ Turned (fun b => b = g4) w w') := by
  have l1 := lt_of_heap hY.k.l
  have l2 := lt_of_heap hY.k.n
  have l3 := lt_of_heap hY.k.s
  have l4 : g4 < w.heap.size := by obtain ⟨b, h⟩ := hY.r; exact lt_of_heap h
  obtain ⟨D, hD, hA⟩ := least_true H hz hm.1 hs.1
  have G : Good zs.length (fun _ => True) (llawP c.pg c.st m step) := good_llaw H m step
  obtain ⟨K', hK, hd⟩ := doP_run (sound_llaw c.pg c.st m step) G hz hD (zs.length + 1) [] (okKn_nil _) (by simp)
  rw [hA.eq] at hd
  have M := doY_ok a cap zs (fun K => ranOf (llawP c.pg c.st m step (look K) [])) (some (zs, K')) zs.length w hw hlen hz (fine_of G hz (by omega)) (by omega) hd 9 #[.pointer (some ⟨g1, 0, none⟩), .pointer (some ⟨g2, 0, none⟩), .pointer (some ⟨g3, 0, none⟩), .pointer (some ⟨g4, 0, none⟩)] (fun b => b = g4)
    (fun w' => LsY c g1 g2 g3 g4 m step w') (fun w' => BoxB g4 w' true)
    (fun k q => by subst q; exact l4)
    (fun w' w'' y t => by obtain ⟨y1, b, y2⟩ := y; exact ⟨y1.keep t (by omega) (by omega) (by omega), b, (t.block g4 (lt_of_heap y2) (by omega)).trans y2⟩)
    (fun w' w'' y t => (t.block g4 (lt_of_heap y) (by omega)).trans y) hY (enters_of Try.func9 (by kernel_rfl) rfl)
    (fun K hK W F p t yy hv hF => least_clo R H (by omega) F p g1 g2 g3 g4 (look K) m step hm hs W hv (okK_of hK hz) yy (fun q => by have := hF _ q; omega) (fun q => by have := hF _ q; omega) (fun q => by have := hF _ q; omega) (fun q => by have := hF _ q; omega) hne
      (fun z D' e => (sound_same (sound_llaw _ _ _ _) hK hD e).1))
  refine M.mono ?_
  rintro e w' ⟨v1, v2, rfl, r1, _, t, _, x⟩
  exact ⟨v1, v2, rfl, r1, x, t⟩

set_option maxRecDepth 100000 in
set_option maxHeartbeats 4000000 in
theorem least_walk (y0 y1 y2 y3 y4 y5 y6 y7 y8 y9 y10 : Int) (a : Option Addr) (capl : Nat) (l : List Ins4) (m step : Int) (w : World) (f0 : (Lit.int .i64 y0).wf = true) (f1 : (Lit.int .i64 y1).wf = true) (f2 : (Lit.int .i64 y2).wf = true) (f3 : (Lit.int .i64 y3).wf = true) (f4 : (Lit.int .i64 y4).wf = true) (f5 : (Lit.int .i64 y5).wf = true) (f6 : (Lit.int .i64 y6).wf = true) (f7 : (Lit.int .i64 y7).wf = true) (f8 : (Lit.int .i64 y8).wf = true) (f9 : (Lit.int .i64 y9).wf = true) (f10 : (Lit.int .i64 y10).wf = true) (hl : IsIns4 w a l) (ho : OkP4 l) (hmx : l.length ≤ 9223372036854775807) :
    Calls Try.prog 3 #[.agg #[.int .i64 y0, .int .i64 y1, .int .i64 y2, .int .i64 y3, .int .i64 y4, .int .i64 y5, .int .i64 y6, .int .i64 y7, .int .i64 y8, .int .i64 y9, .int .i64 y10], .slice a l.length capl, .int .i64 m, .int .i64 step] w (Gives w (.bool true)) := by
  obtain ⟨w3, e3, ha3, hb3, hc3, m3, s3⟩ := entry3 w (.cells #[.int .i64 y0, .int .i64 y1, .int .i64 y2, .int .i64 y3, .int .i64 y4, .int .i64 y5, .int .i64 y6, .int .i64 y7, .int .i64 y8, .int .i64 y9, .int .i64 y10] 23) (.cells #[.int .i64 m] 3) (.cells #[.int .i64 step] 3)
  by_cases hbig : 60 < l.length
  · have d0 : decide ((60 : Int) < (l.length : Int)) = true := by simp; omega
    have h1 := hbig
    have M1 := Lib.hid m3
    have HN := Lib.hid hb3
    have HS := Lib.hid hc3
    have cN := (box_cells hb3).1
    have cS := (box_cells hc3).1
    clear h1 m3 hb3 hc3 ha3 f0 f1 f2 f3 f4 f5 f6 f7 f8 f9 f10 hl ho
    go_enter Try.func3, Try.ntmps3
    go_wp2_with fail
    refine (lives9_ok _).mono ?_
    rintro e w8 ⟨rfl, h8⟩
    have M8 := Lib.hid (M1.out.trans h8)
    clear h8
    go_wp2_with fail
    go_ret
    exact ⟨rfl, M8.out⟩
  have d0 : decide ((60 : Int) < (l.length : Int)) = false := by simp; omega
  by_cases h1 : m < 1
  · have d1 : decide (m < 1) = true := by simp [h1]
    have M1 := Lib.hid m3
    have HN := Lib.hid hb3
    have HS := Lib.hid hc3
    have cN := (box_cells hb3).1
    have cS := (box_cells hc3).1
    clear h1 m3 hb3 hc3 ha3 f0 f1 f2 f3 f4 f5 f6 f7 f8 f9 f10 hl ho
    go_enter Try.func3, Try.ntmps3
    go_wp2_with fail
    refine (lives9_ok _).mono ?_
    rintro e w8 ⟨rfl, h8⟩
    have M8 := Lib.hid (M1.out.trans h8)
    clear h8
    go_wp2_with fail
    go_ret
    exact ⟨rfl, M8.out⟩
  have d1 : decide (m < 1) = false := by simp; omega
  by_cases h2 : 20 < m
  · have d2 : decide (20 < m) = true := by simp [h2]
    have M1 := Lib.hid m3
    have HN := Lib.hid hb3
    have HS := Lib.hid hc3
    have cN := (box_cells hb3).1
    have cS := (box_cells hc3).1
    clear h1 m3 hb3 hc3 ha3 f0 f1 f2 f3 f4 f5 f6 f7 f8 f9 f10 hl ho
    go_enter Try.func3, Try.ntmps3
    go_wp2_with fail
    refine (lives9_ok _).mono ?_
    rintro e w8 ⟨rfl, h8⟩
    have M8 := Lib.hid (M1.out.trans h8)
    clear h8
    go_wp2_with fail
    go_ret
    exact ⟨rfl, M8.out⟩
  have d2 : decide (20 < m) = false := by simp; omega
  by_cases h3 : step < 1
  · have d3 : decide (step < 1) = true := by simp [h3]
    have M1 := Lib.hid m3
    have HN := Lib.hid hb3
    have HS := Lib.hid hc3
    have cN := (box_cells hb3).1
    have cS := (box_cells hc3).1
    clear h1 m3 hb3 hc3 ha3 f0 f1 f2 f3 f4 f5 f6 f7 f8 f9 f10 hl ho
    go_enter Try.func3, Try.ntmps3
    go_wp2_with fail
    refine (lives9_ok _).mono ?_
    rintro e w8 ⟨rfl, h8⟩
    have M8 := Lib.hid (M1.out.trans h8)
    clear h8
    go_wp2_with fail
    go_ret
    exact ⟨rfl, M8.out⟩
  have d3 : decide (step < 1) = false := by simp; omega
  by_cases h4 : 20 < step
  · have d4 : decide (20 < step) = true := by simp [h4]
    have M1 := Lib.hid m3
    have HN := Lib.hid hb3
    have HS := Lib.hid hc3
    have cN := (box_cells hb3).1
    have cS := (box_cells hc3).1
    clear h1 m3 hb3 hc3 ha3 f0 f1 f2 f3 f4 f5 f6 f7 f8 f9 f10 hl ho
    go_enter Try.func3, Try.ntmps3
    go_wp2_with fail
    refine (lives9_ok _).mono ?_
    rintro e w8 ⟨rfl, h8⟩
    have M8 := Lib.hid (M1.out.trans h8)
    clear h8
    go_wp2_with fail
    go_ret
    exact ⟨rfl, M8.out⟩
  have d4 : decide (20 < step) = false := by simp; omega
  obtain ⟨d, n, zs, S, hn, hlz, hz, hwf, AF⟩ := after_ok y0 y1 y2 y3 y4 y5 y6 y7 y8 y9 y10 f0 f1 f2 f3 f4 f5 f6 f7 f8 f9 f10 l ho (by omega)
  have wds := S.words
  have H := S.pgin hn
  have M1 := Lib.hid m3
  have HA := Lib.hid ha3
  have HN := Lib.hid hb3
  have HS := Lib.hid hc3
  have cN := (box_cells hb3).1
  have cS := (box_cells hc3).1
  have AO := Lib.hid (AF.out a capl w3 (hl.more m3))
  have TC := Lib.hid (fun (w : World) (g1 g2 g3 g4 : Nat) (a : Option Addr) (cap : Nat) => least_call S.ok zs (by rw [hlz]; exact H) (by omega) hz w g1 g2 g3 g4 a cap m step (by omega) (by omega))
  have HLZ := Lib.hid hlz
  have hnl : n ≤ 1000 := by omega
  clear m3 ha3 hb3 hc3 f0 f1 f2 f3 f4 f5 f6 f7 f8 f9 f10 hl ho AF hz hwf hlz H h1 h2 h3 h4
  go_enter Try.func3, Try.ntmps3
  go_wp2_with (refine wpList_load_row rfl 23 _ rfl w.heap.size rfl 23 _ _ _ HA.out Try.underlying23 rfl (by kernel_rfl) ?_)
  clear e3
  refine AO.out.mono ?_
  rintro e w2 ⟨gz, cz, rfl, hws, hgz, m2⟩
  have D1 := Lib.hid (row_new w2 zero24 28)
  have D2 := setRow_heap (w2.alloc (.cells zero24 28)) w2.heap.size _ d.arr _ _ D1.out
  have M2 := M1.out.trans m2
  have hw2 : w3.heap.size ≤ w2.heap.size := m2.size
  have hwz : w.heap.size ≤ w2.heap.size := M2.size
  have N2 := m2.block HN.out
  have S2 := m2.block HS.out
  have M3 : More w2 ((w2.alloc (.cells zero24 28)).setRow w2.heap.size d.arr) := ((More.refl w2).alloc _).setRow _ _ (Nat.le_refl _)
  have sz3 : ((w2.alloc (.cells zero24 28)).setRow w2.heap.size d.arr).heap.size = w2.heap.size + 1 := by simp
  obtain ⟨w3', e3⟩ : ∃ w3', (w2.alloc (.cells zero24 28)).setRow w2.heap.size d.arr = w3' := ⟨_, rfl⟩
  rw [e3] at D2 M3 sz3
  obtain ⟨w4, e4, hb4, m4, s4⟩ := entry1 w3' (.cells #[.bool false] 4)
  rw [sz3] at hb4
  obtain ⟨cB, fB, lB⟩ := box_cells hb4
  obtain ⟨w5, e5⟩ : ∃ w5, w4.setCell ⟨w2.heap.size + 1, 0, none⟩ (.bool false) = w5 := ⟨_, rfl⟩
  have b5 := boxB_set hb4 false
  rw [e5] at b5
  have t5 : Turned (fun b => b = w2.heap.size + 1) w4 w5 := by rw [← e5]; exact Turned.setCell (Turned.refl _ w4) _ _ (fun _ => rfl)
  have d5 := (t5.block _ (lt_of_heap (m4.block D2)) (by omega)).trans (m4.block D2)
  have n4 := m4.block (M3.block N2)
  have s4' := m4.block (M3.block S2)
  have n5 := (t5.block _ (lt_of_heap n4) (by omega)).trans n4
  have s5 := (t5.block _ (lt_of_heap s4') (by omega)).trans s4'
  have ws5 := ((hws.more M3).more m4).keep t5 (by have := hws.lt; omega)
  have DO := TC.out w5 w2.heap.size (w.heap.size + 1) (w.heap.size + 2) (w2.heap.size + 1) (some ⟨gz, 0, none⟩) cz ⟨⟨d5, n5, s5⟩, false, b5⟩ ⟨by omega, by omega, by omega⟩ ws5.words
  rw [HLZ.out] at DO
  have DO := Lib.hid DO
  have M5 : Hid (More w w5) := Lib.hid (Turned.mono (turned_own (F := fun _ => False) ((M2.trans M3).trans m4) t5 (fun b e => .inr (by omega))) (fun _ _ q => q))
  have W5 := Lib.hid ws5
  have hgz5 : gz ≠ w2.heap.size + 1 := by have := hws.lt; omega
  clear hws D2 M2 M3 m2 hb4 m4 b5 t5 d5 ws5 TC s4 AO n4 s4' n5 s5 N2 S2 cN cS HN HS
  go_wp2_with (refine wpList_store_row rfl 28 _ _ rfl w2.heap.size _ rfl rfl 28 zero24 D1.out (by kernel_rfl) rfl (arr_one d) ?_)
  refine DO.out.mono ?_
  rintro e w6 ⟨v1, v2, rfl, r6, b6, t6⟩
  have M6 : Hid (More w w6) := Lib.hid (Turned.mono (turned_own (F := fun _ => False) M5.out t6 (fun b e => .inr (by omega))) (fun _ _ q => q))
  have W6 := (W5.out.keep t6 hgz5).rw' (Nat.zero_le _)
  rw [HLZ.out] at W6
  have SM := Lib.hid (rows_same zs _ _ _ 0 w6 (by rw [HLZ.out]; omega) r6 W6)
  have c6 := (box_cells b6).1
  clear b6 t6 r6 W6 DO cB fB lB e3 e4 e5
  go_wp2_with fail
  refine SM.out.mono ?_
  rintro e w8 ⟨rfl, h8⟩
  have M8 := Lib.hid (M6.out.trans h8)
  clear h8 c6
  go_wp2_with fail
  refine (lives9_ok _).mono ?_
  rintro e w7 ⟨rfl, h7⟩
  have M7 := Lib.hid (M8.out.trans h7)
  clear h7
  go_wp2_with fail
  go_ret
  exact ⟨rfl, M7.out⟩
end Go.Proofs.Ytcjnkadmiflgaaa
