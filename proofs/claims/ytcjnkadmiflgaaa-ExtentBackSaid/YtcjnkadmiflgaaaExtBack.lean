/-
  Layer 9's statement of Take and Drop.
-/
import Derived.Test.YtcjnkadmiflgaaaExtBackW
namespace Go.Proofs.Ytcjnkadmiflgaaa
open Go.RowKit Go.Sort Go.Maps Go.Shelf
set_option linter.unusedVariables false
set_option linter.unusedSimpArgs false

theorem back_call {c : Cfg} (R : c.Ok) (zs : List Int) (H : PgIn c.pg c.st zs.length) (hlen : zs.length ≤ 1000) (hz : OkW zs) (hwf : Wf c.pg c.st zs) (q m k : Int) (hqw : W64 q) (hmw : W64 m) (hkw : W64 k) : ∃ xs, Tab c.pg c.st zs xs ∧ Hid (∀ (w : World) (g1 g2 g3 g4 g5 : Nat) (a : Option Addr) (cap : Nat), BkY c g1 g2 g3 g4 g5 q m k w → (g1 ≠ g5 ∧ g2 ≠ g5 ∧ g3 ≠ g5 ∧ g4 ≠ g5) → IsWords w a zs →
    Calls Try.prog 8 #[.slice a zs.length cap, .func (.func 14) #[] #[.pointer (some ⟨g1, 0, none⟩), .pointer (some ⟨g2, 0, none⟩), .pointer (some ⟨g3, 0, none⟩), .pointer (some ⟨g4, 0, none⟩), .pointer (some ⟨g5, 0, none⟩)]] w (fun e w' => ∃ v1 v2, e = .returned (.tuple #[v1, v2, .int .i64 0]) ∧ Rw w.heap.size w' v1 xs ∧ BoxB g5 w' true ∧ Turned (fun b => b = g5) w w')) := by
  obtain ⟨D, hD, hI, hT⟩ := back_true (p := q) (m := m) (k := k) H hz hwf hkw hmw
  refine ⟨applyD zs D, hT, Lib.hid fun w g1 g2 g3 g4 g5 a cap hY hne hw => ?_⟩
  have l1 := lt_of_heap hY.b.l
  have l2 := lt_of_heap hY.b.q
  have l3 := lt_of_heap hY.b.m
  have l4 := lt_of_heap hY.b.k
  have l5 : g5 < w.heap.size := by obtain ⟨b, h⟩ := hY.r; exact lt_of_heap h
  have G : Good zs.length (fun _ => True) (blawP c.pg c.st q m k) := good_blaw H q m k hkw hmw
  obtain ⟨K', hK, hd⟩ := doP_run (sound_blaw c.pg c.st q m k) G hz hD (zs.length + 1) [] (okKn_nil _) (by simp)
  have M := doY_ok a cap zs (fun K => ranOf (blawP c.pg c.st q m k (look K) [])) (some (applyD zs D, K')) zs.length w hw hlen hz (fine_of G hz (by omega)) (by omega) hd 14 #[.pointer (some ⟨g1, 0, none⟩), .pointer (some ⟨g2, 0, none⟩), .pointer (some ⟨g3, 0, none⟩), .pointer (some ⟨g4, 0, none⟩), .pointer (some ⟨g5, 0, none⟩)] (fun b => b = g5)
    (fun w' => BkY c g1 g2 g3 g4 g5 q m k w') (fun w' => BoxB g5 w' true)
    (fun k q => by subst q; exact l5)
    (fun w' w'' y t => by obtain ⟨y1, b, y2⟩ := y; exact ⟨y1.keep t (by omega) (by omega) (by omega) (by omega), b, (t.block g5 (lt_of_heap y2) (by omega)).trans y2⟩)
    (fun w' w'' y t => (t.block g5 (lt_of_heap y) (by omega)).trans y) hY (enters_of Try.func14 (by kernel_rfl) rfl)
    (fun K hK W F p t yy hv hF => back_clo R H (by omega) F p g1 g2 g3 g4 g5 (look K) q m k hqw hmw hkw W hv (okK_of hK hz) yy (fun q => by have := hF _ q; omega) (fun q => by have := hF _ q; omega) (fun q => by have := hF _ q; omega) (fun q => by have := hF _ q; omega) (fun q => by have := hF _ q; omega) hne
      (fun z D' e => (sound_same (sound_blaw _ _ _ _ _) hK hD e).1))
  refine M.mono ?_
  rintro e w' ⟨v1, v2, rfl, r1, _, t, _, x⟩
  exact ⟨v1, v2, rfl, r1, x, t⟩

set_option maxRecDepth 100000 in
set_option maxHeartbeats 4000000 in
theorem back_walk (y0 y1 y2 y3 y4 y5 y6 y7 y8 y9 y10 : Int) (a : Option Addr) (capl : Nat) (l : List Ins4) (q m k : Int) (w : World) (f0 : (Lit.int .i64 y0).wf = true) (f1 : (Lit.int .i64 y1).wf = true) (f2 : (Lit.int .i64 y2).wf = true) (f3 : (Lit.int .i64 y3).wf = true) (f4 : (Lit.int .i64 y4).wf = true) (f5 : (Lit.int .i64 y5).wf = true) (f6 : (Lit.int .i64 y6).wf = true) (f7 : (Lit.int .i64 y7).wf = true) (f8 : (Lit.int .i64 y8).wf = true) (f9 : (Lit.int .i64 y9).wf = true) (f10 : (Lit.int .i64 y10).wf = true) (hl : IsIns4 w a l) (ho : OkP4 l) (hmx : l.length ≤ 9223372036854775807) (e0 : (Lit.int .i64 q).wf = true) (e1 : (Lit.int .i64 m).wf = true) (e2 : (Lit.int .i64 k).wf = true) :
    Calls Try.prog 4 #[.agg #[.int .i64 y0, .int .i64 y1, .int .i64 y2, .int .i64 y3, .int .i64 y4, .int .i64 y5, .int .i64 y6, .int .i64 y7, .int .i64 y8, .int .i64 y9, .int .i64 y10], .slice a l.length capl, .int .i64 q, .int .i64 m, .int .i64 k] w (Gives w (.bool true)) := by
  obtain ⟨w4, e4, ha4, hb4, hc4, hd4, m4, s4⟩ := entry4 w (.cells #[.int .i64 y0, .int .i64 y1, .int .i64 y2, .int .i64 y3, .int .i64 y4, .int .i64 y5, .int .i64 y6, .int .i64 y7, .int .i64 y8, .int .i64 y9, .int .i64 y10] 23) (.cells #[.int .i64 q] 3) (.cells #[.int .i64 m] 3) (.cells #[.int .i64 k] 3)
  have hqw : W64 q := ⟨wf_lo e0, wf_hi e0⟩
  have hmw : W64 m := ⟨wf_lo e1, wf_hi e1⟩
  have hkw : W64 k := ⟨wf_lo e2, wf_hi e2⟩
  clear e0 e1 e2
  by_cases h1 : 60 < l.length
  · have d0 : decide ((60 : Int) < (l.length : Int)) = true := by simp; omega
    have M1 := Lib.hid m4
    have cQ := (box_cells hb4).1
    have cM := (box_cells hc4).1
    clear h1 m4 hb4 hc4 hd4 ha4 f0 f1 f2 f3 f4 f5 f6 f7 f8 f9 f10 hl ho
    go_enter Try.func4, Try.ntmps4
    go_wp2_with fail
    refine (lives9_ok _).mono ?_
    rintro e w8 ⟨rfl, h8⟩
    have M8 := Lib.hid (M1.out.trans h8)
    clear h8
    go_wp2_with fail
    go_ret
    exact ⟨rfl, M8.out⟩
  have d0 : decide ((60 : Int) < (l.length : Int)) = false := by simp; omega
  by_cases h1 : 400 < q
  · have d1 : decide (400 < q) = true := by simp [h1]
    have M1 := Lib.hid m4
    have cQ := (box_cells hb4).1
    have cM := (box_cells hc4).1
    clear h1 m4 hb4 hc4 hd4 ha4 f0 f1 f2 f3 f4 f5 f6 f7 f8 f9 f10 hl ho
    go_enter Try.func4, Try.ntmps4
    go_wp2_with fail
    refine (lives9_ok _).mono ?_
    rintro e w8 ⟨rfl, h8⟩
    have M8 := Lib.hid (M1.out.trans h8)
    clear h8
    go_wp2_with fail
    go_ret
    exact ⟨rfl, M8.out⟩
  have d1 : decide (400 < q) = false := by simp; omega
  by_cases h1 : 400 < m
  · have d2 : decide (400 < m) = true := by simp [h1]
    have M1 := Lib.hid m4
    have cQ := (box_cells hb4).1
    have cM := (box_cells hc4).1
    clear h1 m4 hb4 hc4 hd4 ha4 f0 f1 f2 f3 f4 f5 f6 f7 f8 f9 f10 hl ho
    go_enter Try.func4, Try.ntmps4
    go_wp2_with fail
    refine (lives9_ok _).mono ?_
    rintro e w8 ⟨rfl, h8⟩
    have M8 := Lib.hid (M1.out.trans h8)
    clear h8
    go_wp2_with fail
    go_ret
    exact ⟨rfl, M8.out⟩
  have d2 : decide (400 < m) = false := by simp; omega
  obtain ⟨d, n, zs, S, hn, hlz, hz, hwf, AF⟩ := after_ok y0 y1 y2 y3 y4 y5 y6 y7 y8 y9 y10 f0 f1 f2 f3 f4 f5 f6 f7 f8 f9 f10 l ho (by omega)
  have wds := S.words
  have H := S.pgin hn
  obtain ⟨xs, hT, TC⟩ := back_call S.ok zs (by rw [hlz]; exact H) (by omega) hz hwf q m k hqw hmw hkw
  have SS := Lib.hid S
  have HNN := Lib.hid hn
  have M1 := Lib.hid m4
  have HA := Lib.hid ha4
  have HQ := Lib.hid hb4
  have HM := Lib.hid hc4
  have HKK := Lib.hid hd4
  have cQ := (box_cells hb4).1
  have cM := (box_cells hc4).1
  have AO := Lib.hid (AF.out a capl w4 (hl.more m4))
  have HLZ := Lib.hid hlz
  have HXL := Lib.hid (hT.len.trans hlz)
  have HT := Lib.hid hT
  have hnl : n ≤ 1000 := by omega
  clear m4 ha4 hb4 hc4 hd4 f0 f1 f2 f3 f4 f5 f6 f7 f8 f9 f10 hl ho AF hz hwf hlz H h1 hT S hqw hmw hkw hn
  go_enter Try.func4, Try.ntmps4
  go_wp2_with (refine wpList_load_row rfl 23 _ rfl w.heap.size rfl 23 _ _ _ HA.out Try.underlying23 rfl (by kernel_rfl) ?_)
  clear e4
  refine AO.out.mono ?_
  rintro e w2 ⟨gz, cz, rfl, hws, hgz, m2⟩
  have D1 := Lib.hid (row_new w2 zero24 28)
  have D2 := setRow_heap (w2.alloc (.cells zero24 28)) w2.heap.size _ d.arr _ _ D1.out
  have M2 := M1.out.trans m2
  have hw2 : w4.heap.size ≤ w2.heap.size := m2.size
  have hwz : w.heap.size ≤ w2.heap.size := M2.size
  have Q2 := m2.block HQ.out
  have N2 := m2.block HM.out
  have K2 := m2.block HKK.out
  have M3 : More w2 ((w2.alloc (.cells zero24 28)).setRow w2.heap.size d.arr) := ((More.refl w2).alloc _).setRow _ _ (Nat.le_refl _)
  have sz3 : ((w2.alloc (.cells zero24 28)).setRow w2.heap.size d.arr).heap.size = w2.heap.size + 1 := by simp
  obtain ⟨w3', e3⟩ : ∃ w3', (w2.alloc (.cells zero24 28)).setRow w2.heap.size d.arr = w3' := ⟨_, rfl⟩
  rw [e3] at D2 M3 sz3
  obtain ⟨w5, e5, hb5, m5, s5⟩ := entry1 w3' (.cells #[.bool false] 4)
  rw [sz3] at hb5
  obtain ⟨cB, fB, lB⟩ := box_cells hb5
  obtain ⟨w6, e6⟩ : ∃ w6, w5.setCell ⟨w2.heap.size + 1, 0, none⟩ (.bool false) = w6 := ⟨_, rfl⟩
  have b6 := boxB_set hb5 false
  rw [e6] at b6
  have t6 : Turned (fun b => b = w2.heap.size + 1) w5 w6 := by rw [← e6]; exact Turned.setCell (Turned.refl _ w5) _ _ (fun _ => rfl)
  have up : ∀ b o, w2.heap[b]? = some o → w6.heap[b]? = some o := fun b o hb => by
    have hl := lt_of_heap hb
    exact (t6.block _ (lt_of_heap (m5.block (M3.block hb))) (by omega)).trans (m5.block (M3.block hb))
  have d6 := (t6.block _ (lt_of_heap (m5.block D2)) (by omega)).trans (m5.block D2)
  have ws6 := ((hws.more M3).more m5).keep t6 (by have := hws.lt; omega)
  have DO := TC.out w6 w2.heap.size (w.heap.size + 1) (w.heap.size + 2) (w.heap.size + 3) (w2.heap.size + 1) (some ⟨gz, 0, none⟩) cz ⟨⟨d6, up _ _ Q2, up _ _ N2, up _ _ K2⟩, false, b6⟩ ⟨by omega, by omega, by omega, by omega⟩ ws6.words
  rw [HLZ.out] at DO
  have DO := Lib.hid DO
  have M6 : Hid (More w w6) := Lib.hid (Turned.mono (turned_own (F := fun _ => False) ((M2.trans M3).trans m5) t6 (fun b e => .inr (by omega))) (fun _ _ q => q))
  have W6 := Lib.hid ws6
  have LD6 := Lib.hid d6
  have hgz6 : gz ≠ w2.heap.size + 1 := by have := hws.lt; omega
  have s6 : w6.heap.size = w2.heap.size + 2 := by rw [← e6]; simp; omega
  have hgzl : gz < w2.heap.size := hws.lt
  clear hws D2 M2 M3 m2 hb5 m5 b6 t6 d6 ws6 TC s5 AO up Q2 N2 K2 cQ cM HQ HM HKK
  go_wp2_with (refine wpList_store_row rfl 28 _ _ rfl w2.heap.size _ rfl rfl 28 zero24 D1.out (by kernel_rfl) rfl (arr_one d) ?_)
  refine DO.out.mono ?_
  rintro e w7 ⟨v1, v2, rfl, r7, b7, t7⟩
  have M7 : Hid (More w w7) := Lib.hid (Turned.mono (turned_own (F := fun _ => False) M6.out t7 (fun b e => .inr (by omega))) (fun _ _ q => q))
  have W7 := Lib.hid (W6.out.keep t7 hgz6)
  have L7 := Lib.hid ((t7.block _ (lt_of_heap LD6.out) (by omega)).trans LD6.out)
  have B7 := Lib.hid b7
  have wpos : 160 ≤ n := by have := HNN.out; omega
  obtain ⟨av, cap, rfl, hrd⟩ := r7.reads
  obtain ⟨gw, rfl, hb1, hb2, _⟩ := hrd 0 (by rw [HXL.out]; omega)
  have NW := Lib.hid (Ws.of_rw r7)
  have hwg : w2.heap.size + 2 ≤ gw := by omega
  have hwg2 : w.heap.size ≤ gw := by omega
  have BK := Lib.hid (show Back d.pg d.st zs xs 0 from ⟨HT.out.len, fun i h0 hk => HT.out.off i h0 (fun k hc => hk k hc (isChunk_iff.1 hc).1)⟩)
  have t7s := t7.size
  rw [HXL.out]
  clear t7 r7 b7 hrd DO cB fB lB e3 e5 e6 W6 LD6 M6 hb1 hb2
  have hch : ((chunksV d.pg).toNat : Int) = chunksV d.pg := by have := SS.out.ok.pg1; unfold chunksV; omega
  have HCH := Lib.hid hch
  clear hch
  go_wp2_with fail
  go_loopw [18] (fun i wr2 => ∃ j : Nat, (j : Int) ≤ chunksV d.pg ∧ i = .int .i64 j ∧ (∃ ys, Ws wr2 gw cap ys ∧ Back d.pg d.st zs ys j) ∧ Turned (fun b => b = gw) w7 wr2) (fun i _ => (chunksV d.pg).toNat - (intOf i).toNat)
  case atStart => exact ⟨0, by have := HCH.out; omega, rfl, ⟨xs, NW.out, BK.out⟩, Turned.refl _ _⟩
  case round =>
    clear NW BK
    obtain ⟨j, hj, rfl, ⟨ys, hys, hbk⟩, ht⟩ := hrel
    have HL5 := Lib.hid ((ht.block w2.heap.size (lt_of_heap L7.out) (by omega)).trans L7.out)
    have HB5 := Lib.hid ((ht.block (w2.heap.size + 1) (lt_of_heap B7.out) (by omega)).trans B7.out)
    have HW5 := Lib.hid (W7.out.keep ht (by omega))
    have HM5 : Hid (More w wr) := Lib.hid (Turned.mono (turned_own (F := fun _ => False) M7.out ht (fun b e => .inr (by omega))) (fun _ _ q => q))
    go_wp2_with (refine wpList_load_row rfl 28 _ rfl w2.heap.size rfl 28 _ _ _ HL5.out Try.underlying28 rfl (by kernel_rfl) ?_)
    by_cases hlt : (j : Int) < chunksV d.pg
    · have d0 : decide ((j : Int) < chunksV d.pg) = true := by simp [hlt]
      have hck : isChunk d.pg (j : Int) = true := isChunk_iff.2 ⟨by omega, hlt⟩
      have H6 : TblIn d.pg d.st n := SS.out.tbl HNN.out
      obtain ⟨t0, t1, t2⟩ := tbl_b H6 hck
      obtain ⟨b, hm⟩ : ∃ b : Nat, tblV d.pg d.st j = (b : Int) := ⟨(tblV d.pg d.st j).toNat, by omega⟩
      have HLT := Lib.hid hlt
      have hl64 : j < 64 := by have := SS.out.pg9; unfold chunksV at hlt; omega
      have q1 : IntKind.i64.wrap ((j : Int) + 1) = (j : Int) + 1 := wrap_in (by omega) (by omega)
      have YT : Hid (∀ W, Calls Try.prog 22 #[.agg d.arr, .int .i64 (j : Int)] W (Gives W (.int .i64 (b : Int)))) := Lib.hid (fun W => by have := y_table SS.out.ok W (j : Int); rw [hm] at this; exact this)
      have hbk' := hbk.step H6 HLZ.out hck
      have hmj : b < n := by omega
      rw [hm] at hbk'
      have hzl : b < ys.length := by rw [hbk.len, HLZ.out]; exact hmj
      have hyl : ys.length = n := by rw [hbk.len, HLZ.out]
      have hwm : wAt zs (b : Int) = zs.getD b 0 := rfl
      rw [hwm, show ((b : Int)).toNat = b from rfl] at hbk'
      refine (y_chunks SS.out.ok _).mono ?_
      rintro e w8 ⟨rfl, h8⟩
      have x1 := (HW5.out.more h8).cell (i := b) (by rw [HLZ.out]; exact hmj)
      have hz6 := hys.more h8
      have hz7 := fun W (hW : More w8 W) => (hz6.more hW).set hzl (zs.getD b 0)
      generalize zs.getD b 0 = z at x1 hz7 hbk'
      have HZ6 := Lib.hid hz6
      have HZ7 := Lib.hid hz7
      have HBK := Lib.hid hbk'
      have HL6 := Lib.hid (h8.block HL5.out)
      have T6 := Lib.hid (ht.trans (Turned.mono h8 (fun _ _ q => q.elim)))
      clear hz6 hz7 hbk hbk' hys h8 HL5 HB5 HM5 HW5 HCH hm t0 t1 t2 hwm ht H6 hck hlt
      go_wp2_with fail
      refine wp_region_more_tail 11 (by kernel_rfl) (by kernel_rfl) ?_
      simp only [List.take_succ_cons, List.take_zero, List.drop_succ_cons, List.drop_zero]
      iterate 1
        with_reducible refine wpQuiet_step (fun K hK => ?_)
        go_simp
        first
        | (refine hK _ ?_; clear hK K)
        | (apply Exists.intro
           refine ⟨fun W hW => ?_, hK _ ?_⟩
           first
           | (go_simp; try rfl)
           clear hK K)
      refine wpQuiet_load_row rfl 28 _ rfl _ rfl 28 _ _ _ (fun W hW => hW.block HL6.out) Try.underlying28 rfl (by kernel_rfl) ?_
      iterate 3
        with_reducible refine wpQuiet_step (fun K hK => ?_)
        go_simp
        first
        | (refine hK _ ?_; clear hK K)
        | (apply Exists.intro
           refine ⟨fun W hW => ?_, hK _ ?_⟩
           first
           | (go_at_call 22; exact Calls.more hW (YT.out W))
           | (have x1' := hW.cell x1; go_simp; try rfl)
           clear hK K)
      refine wpQuiet_load_row rfl 28 _ rfl _ rfl 28 _ _ _ (fun W hW => hW.block HL6.out) Try.underlying28 rfl (by kernel_rfl) ?_
      iterate 5
        with_reducible refine wpQuiet_step (fun K hK => ?_)
        go_simp
        first
        | (refine hK _ ?_; clear hK K)
        | (apply Exists.intro
           refine ⟨fun W hW => ?_, hK _ ?_⟩
           first
           | (go_at_call 22; exact Calls.more hW (YT.out W))
           | (have x1' := hW.cell x1; go_simp; try rfl)
           clear hK K)
      refine wpQuiet_nil ?_
      intro w9 m9
      have v1' := (HZ6.out.more m9).cell hzl
      have v2' := (HZ6.out.more m9).froz b
      have HW8 := Lib.hid (HZ7.out w9 m9)
      have T8 : Hid (Turned (fun b => b = gw) w7 (w9.setCell ⟨gw, b, none⟩ (.int .i64 z))) := Lib.hid ((T6.out.trans (Turned.mono m9 (fun _ _ q => q.elim))).setCell _ _ (fun _ => rfl))
      clear m9 HZ6 HZ7 T6 x1 YT HL6
      go_wp2_with fail
      exact ⟨⟨j + 1, by have := HLT.out; omega, by go_num, ⟨_, HW8.out, HBK.out⟩, T8.out⟩, by have := HLT.out; simp [intOf]; omega⟩
    · have d0 : decide ((j : Int) < chunksV d.pg) = false := by simp; omega
      obtain rfl := hbk.fin (by omega)
      refine (y_chunks SS.out.ok _).mono ?_
      rintro e w8 ⟨rfl, h8⟩
      have SM := rows_same ys _ _ 0 0 w8 (by rw [HLZ.out]; omega) ((hys.more h8).rw' (Nat.zero_le _)) ((HW5.out.more h8).rw' (Nat.zero_le _))
      rw [HLZ.out] at SM
      have SM := Lib.hid SM
      have HM6 := Lib.hid (HM5.out.trans h8)
      have c8 := (box_cells (h8.block HB5.out)).1
      clear hys hbk h8 HL5 HM5 HW5 HB5 HCH hlt ht
      go_wp2_with fail
      refine SM.out.mono ?_
      rintro e w9 ⟨rfl, h9⟩
      have HM7 := Lib.hid (HM6.out.trans h9)
      clear h9 c8
      go_wp2_with fail
      refine (lives9_ok _).mono ?_
      rintro e w10 ⟨rfl, h10⟩
      have HM8 := Lib.hid (HM7.out.trans h10)
      clear h10
      go_wp2_with fail
      go_ret
      exact ⟨rfl, HM8.out⟩
end Go.Proofs.Ytcjnkadmiflgaaa
