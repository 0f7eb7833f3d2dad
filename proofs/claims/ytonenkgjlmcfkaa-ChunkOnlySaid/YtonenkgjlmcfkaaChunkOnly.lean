/-
  Layer 8's statement of the words that are not the table's.
-/
import Derived.Test.YtonenkgjlmcfkaaChunkOnlyDo
import Derived.Test.YtonenkgjlmcfkaaChunkRef
namespace Go.Proofs.Ytonenkgjlmcfkaa
open Go.RowKit Go.Sort Go.Maps Go.Shelf
set_option linter.unusedVariables false
set_option linter.unusedSimpArgs false

/-- What Begin does, at whatever configuration it is given. -/
theorem begin_at (y0 y1 y2 y3 y4 y5 y6 y7 y8 y9 y10 : Int) (f0 : (Lit.int .i64 y0).wf = true) (f1 : (Lit.int .i64 y1).wf = true) (f2 : (Lit.int .i64 y2).wf = true) (f3 : (Lit.int .i64 y3).wf = true) (f4 : (Lit.int .i64 y4).wf = true) (f5 : (Lit.int .i64 y5).wf = true) (f6 : (Lit.int .i64 y6).wf = true) (f7 : (Lit.int .i64 y7).wf = true) (f8 : (Lit.int .i64 y8).wf = true) (f9 : (Lit.int .i64 y9).wf = true) (f10 : (Lit.int .i64 y10).wf = true) : ∃ d : Cfg, d.Small ∧ Hid (∀ W, Calls Try.prog 8 #[.agg #[.int .i64 y0, .int .i64 y1, .int .i64 y2, .int .i64 y3, .int .i64 y4, .int .i64 y5, .int .i64 y6, .int .i64 y7, .int .i64 y8, .int .i64 y9, .int .i64 y10]] W (Begun8 W d)) := by
  obtain ⟨wk, cp, pg, st, tr, wt, ck, pr, ca, bi, ba, R0, S0⟩ := some_gives y0 y1 y2 y3 y4 y5 y6 y7 y8 y9 y10 f0 f1 f2 f3 f4 f5 f6 f7 f8 f9 f10
  have R : Cfg.Ok ⟨wk, cp, pg, st, tr, wt, ck, pr, ca, bi, ba⟩ := R0
  exact ⟨_, small_small R, fun W => begin_any R y0 y1 y2 y3 y4 y5 y6 y7 y8 y9 y10 W S0.out⟩

set_option maxRecDepth 100000 in
set_option maxHeartbeats 2000000 in
theorem only_walk (y0 y1 y2 y3 y4 y5 y6 y7 y8 y9 y10 kind k y : Int) (w : World) (f0 : (Lit.int .i64 y0).wf = true) (f1 : (Lit.int .i64 y1).wf = true) (f2 : (Lit.int .i64 y2).wf = true) (f3 : (Lit.int .i64 y3).wf = true) (f4 : (Lit.int .i64 y4).wf = true) (f5 : (Lit.int .i64 y5).wf = true) (f6 : (Lit.int .i64 y6).wf = true) (f7 : (Lit.int .i64 y7).wf = true) (f8 : (Lit.int .i64 y8).wf = true) (f9 : (Lit.int .i64 y9).wf = true) (f10 : (Lit.int .i64 y10).wf = true) (e0 : (Lit.int .i64 kind).wf = true) (e1 : (Lit.int .i64 k).wf = true) (e2 : (Lit.int .i64 y).wf = true) :
    Calls Try.prog 6 #[.agg #[.int .i64 y0, .int .i64 y1, .int .i64 y2, .int .i64 y3, .int .i64 y4, .int .i64 y5, .int .i64 y6, .int .i64 y7, .int .i64 y8, .int .i64 y9, .int .i64 y10], .agg #[.int .i64 kind, .int .i64 k, .int .i64 y]] w (Gives w (.bool true)) := by
  obtain ⟨d, S, BEG⟩ := begin_at y0 y1 y2 y3 y4 y5 y6 y7 y8 y9 y10 f0 f1 f2 f3 f4 f5 f6 f7 f8 f9 f10
  have hx : W64 k := ⟨wf_lo e1, wf_hi e1⟩
  have SS := Lib.hid S
  have HX := Lib.hid hx
  have wds := S.words
  clear f0 f1 f2 f3 f4 f5 f6 f7 f8 f9 f10 e0 e1 e2 S hx
  have mB : More (w.alloc (.cells #[.int .i64 y0, .int .i64 y1, .int .i64 y2, .int .i64 y3, .int .i64 y4, .int .i64 y5, .int .i64 y6, .int .i64 y7, .int .i64 y8, .int .i64 y9, .int .i64 y10] 23)) ((w.alloc (.cells #[.int .i64 y0, .int .i64 y1, .int .i64 y2, .int .i64 y3, .int .i64 y4, .int .i64 y5, .int .i64 y6, .int .i64 y7, .int .i64 y8, .int .i64 y9, .int .i64 y10] 23)).alloc (.cells #[.int .i64 kind, .int .i64 k, .int .i64 y] 41)) := (More.refl _).alloc _
  have HA := Lib.hid (mB.block (row_new w #[.int .i64 y0, .int .i64 y1, .int .i64 y2, .int .i64 y3, .int .i64 y4, .int .i64 y5, .int .i64 y6, .int .i64 y7, .int .i64 y8, .int .i64 y9, .int .i64 y10] 23))
  have hb := row_new (w.alloc (.cells #[.int .i64 y0, .int .i64 y1, .int .i64 y2, .int .i64 y3, .int .i64 y4, .int .i64 y5, .int .i64 y6, .int .i64 y7, .int .i64 y8, .int .i64 y9, .int .i64 y10] 23)) #[.int .i64 kind, .int .i64 k, .int .i64 y] 41
  rw [World.size_alloc] at hb
  have HB := Lib.hid hb
  have HM := Lib.hid (((More.refl w).alloc (.cells #[.int .i64 y0, .int .i64 y1, .int .i64 y2, .int .i64 y3, .int .i64 y4, .int .i64 y5, .int .i64 y6, .int .i64 y7, .int .i64 y8, .int .i64 y9, .int .i64 y10] 23)).trans mB)
  have s2 : ((w.alloc (.cells #[.int .i64 y0, .int .i64 y1, .int .i64 y2, .int .i64 y3, .int .i64 y4, .int .i64 y5, .int .i64 y6, .int .i64 y7, .int .i64 y8, .int .i64 y9, .int .i64 y10] 23)).alloc (.cells #[.int .i64 kind, .int .i64 k, .int .i64 y] 41)).heap.size = w.heap.size + 2 := by simp
  have S2 := Lib.hid s2
  clear hb mB s2
  go_enter Try.func6, Try.ntmps6
  go_wp2_with (refine wpList_load_row rfl 23 _ rfl w.heap.size rfl 23 _ _ _ HA.out Try.underlying23 rfl (by kernel_rfl) ?_)
  have hs2 := S2.out
  generalize World.alloc (World.alloc w _) _ = w2 at HA HB HM hs2 ⊢
  clear S2
  refine (BEG.out _).mono ?_
  rintro e w1 ⟨g, n, hn, rfl, hrw, m1⟩
  obtain ⟨w3, e3, b1, b2, b3, m3, s3⟩ := rows2 w1 zero24 zero11 d.arr d.cells 28 30
  have hz := zeros_len n
  have wz : Ws w1 g n (zeros n) := Ws.of_rw (base := w2.heap.size) (by rw [hz]; exact hrw)
  have hg2 : w2.heap.size ≤ g := by
    rcases hrw.2 with ⟨q, _⟩ | ⟨g', cap', cur, q, q2, _⟩
    · cases q
    · have := congrArg Value.ownBlock q
      simp [Value.ownBlock] at this
      omega
  have hg1 := wz.lt
  have B1 := Lib.hid b1
  have B2 := Lib.hid b2
  have B3 := Lib.hid b3
  have m13 := m1.trans m3
  have AC := Lib.hid (m13.block HB.out)
  have WZ := Lib.hid (wz.more m3)
  have M3 := Lib.hid (HM.out.trans m13)
  have hw1 : w2.heap.size ≤ w1.heap.size := m1.size
  have HN := Lib.hid hn
  have hnb : 160 ≤ n ∧ n ≤ 800 := by omega
  clear b1 b2 b3 hrw hn BEG hz wz HA HB HM m1 m3 m13 wds
  go_wp2_with (first
    | (refine wpList_store_row rfl 28 _ _ rfl w1.heap.size _ rfl rfl 28 zero24 B1.out (by kernel_rfl) rfl (arr_one d) ?_)
    | (refine wpList_store_row rfl 30 _ _ rfl (w1.heap.size + 1) _ rfl rfl 30 zero11 B2.out (by kernel_rfl) rfl (cells_one d) ?_))
  clear e3 B1 B2
  go_loopw [8] (fun i wr => ∃ j : Nat, j ≤ n ∧ i = .int .i64 j ∧ Ws wr g n (setL n j) ∧ Turned (fun b => b = g) w3 wr) (fun i _ => n - (intOf i).toNat)
  case atStart => exact ⟨0, Nat.zero_le _, rfl, by rw [setL_zero]; exact WZ.out, Turned.refl _ _⟩
  case round =>
    clear WZ
    obtain ⟨j, hj, rfl, hws, ht⟩ := hrel
    by_cases hlt : j < n
    · have hjl : j < (setL n j).length := by rw [setL_len]; exact hlt
      have x1 := hws.cell hjl
      have x2 := hws.froz j
      have hv : ((j % 2 + j % 3 : Nat) : Int) = (j : Int) % 2 + (j : Int) % 3 := by simp
      have hw' := hws.set hjl ((j % 2 + j % 3 : Nat) : Int)
      rw [setL_step n j hlt, hv] at hw'
      have HW1 := Lib.hid hw'
      have HT1 : Hid (Turned (fun b => b = g) w3 (wr.setCell ⟨g, j, none⟩ (.int .i64 ((j : Int) % 2 + (j : Int) % 3)))) := ht.setCell _ _ (fun _ => rfl)
      clear hws ht hw' hv
      go_wp2_with fail
      exact ⟨⟨j + 1, by omega, by go_num, HW1.out, HT1.out⟩, by simp [intOf]; omega⟩
    · obtain rfl : j = n := by omega
      have hg13 : g ≠ w1.heap.size := by omega
      have hgw : g ≠ w.heap.size + 1 := by omega
      have l3 := lt_of_heap B3.out
      have a3 := lt_of_heap AC.out
      have hr3 := (ht.block _ l3 (fun e => hg13 e.symm)).trans B3.out
      have ha3 := (ht.block _ a3 (fun e => hgw e.symm)).trans AC.out
      have mr : More w wr := Turned.mono (turned_own (F := fun _ => False) M3.out ht (fun b e => .inr (by omega))) (fun _ _ q => q)
      have hsl := setL_len j j
      have H : TblIn d.pg d.st (setL j j).length := by rw [hsl]; exact SS.out.tbl HN.out
      have OD := only_do SS.out.ok (setL j j) H (by omega) (setL_ok _ _) kind k y HX.out wr w1.heap.size (w.heap.size + 1) (some ⟨g, 0, none⟩) j hr3 ha3 hws.words
      have OF := Lib.hid (off_done H kind k y (setL j j) rfl)
      rw [hsl] at OD
      have OD := Lib.hid OD
      generalize (doneV d.pg d.st kind k y (setL j j)).2 = xs at OD OF
      have HWS := Lib.hid hws
      have HL := Lib.hid hr3
      have HMR := Lib.hid mr
      have hlr := lt_of_heap hr3
      clear hr3 ha3 mr hws ht l3 a3 M3 B3 AC H hlt
      go_wp2_with fail
      refine OD.out.mono ?_
      rintro e w4 ⟨v1, v2, rfl, hr, m4⟩
      have hxl : xs.length = j := by rw [OF.out.len, hsl]
      obtain ⟨a, cap, rfl, hrd⟩ := hr.reads
      obtain ⟨gw, rfl, hb1, hb2, _⟩ := hrd 0 (by omega)
      have NW := Lib.hid (Ws.of_rw hr)
      have HW4 := Lib.hid (HWS.out.more m4)
      have HL4 := Lib.hid (m4.block HL.out)
      have HM4 := Lib.hid (HMR.out.trans m4)
      have hgl := HWS.out.lt
      have hwg : w.heap.size ≤ gw := by have := HMR.out.size; omega
      rw [hxl]
      clear hr hrd m4 OD HWS HL HMR
      go_wp2_with fail
      have hch : ((chunksV d.pg).toNat : Int) = chunksV d.pg := by have := SS.out.ok.pg1; unfold chunksV; omega
      have HCH := Lib.hid hch
      clear hch
      go_loopw [12] (fun i wr2 => ∃ l : Nat, (l : Int) ≤ chunksV d.pg ∧ i = .int .i64 l ∧ (∃ zs, Ws wr2 gw cap zs ∧ Back d.pg d.st (setL j j) zs l) ∧ Turned (fun b => b = gw) w4 wr2) (fun i _ => (chunksV d.pg).toNat - (intOf i).toNat)
      case atStart => exact ⟨0, by have := HCH.out; omega, rfl, ⟨xs, NW.out, OF.out.back⟩, Turned.refl _ _⟩
      case round =>
        clear NW
        obtain ⟨l, hl, rfl, ⟨zs, hzs, hbk⟩, ht⟩ := hrel
        have hr5 := (ht.block w1.heap.size (lt_of_heap HL4.out) (by omega)).trans HL4.out
        have HL5 := Lib.hid hr5
        have hw5 := HW4.out.keep ht (by omega)
        have HW5 := Lib.hid hw5
        have HM5 : Hid (More w wr) := Lib.hid (Turned.mono (turned_own (F := fun _ => False) HM4.out ht (fun b e => .inr (by omega))) (fun _ _ q => q))
        clear hr5 hw5
        go_wp2_with (refine wpList_load_row rfl 28 _ rfl w1.heap.size rfl 28 _ _ _ HL5.out Try.underlying28 rfl (by kernel_rfl) ?_)
        by_cases hlt : (l : Int) < chunksV d.pg
        · have d0 : decide ((l : Int) < chunksV d.pg) = true := by simp [hlt]
          have hck : isChunk d.pg (l : Int) = true := isChunk_iff.2 ⟨by omega, hlt⟩
          have H6 : TblIn d.pg d.st j := SS.out.tbl HN.out
          obtain ⟨t0, t1, t2⟩ := tbl_b H6 hck
          obtain ⟨m, hm⟩ : ∃ m : Nat, tblV d.pg d.st l = (m : Int) := ⟨(tblV d.pg d.st l).toNat, by omega⟩
          have HLT := Lib.hid hlt
          have hl64 : l < 64 := by have := SS.out.pg9; unfold chunksV at hlt; omega
          have q1 : IntKind.i64.wrap ((l : Int) + 1) = (l : Int) + 1 := wrap_in (by omega) (by omega)
          have YT : Hid (∀ W, Calls Try.prog 29 #[.agg d.arr, .int .i64 (l : Int)] W (Gives W (.int .i64 (m : Int)))) := Lib.hid (fun W => by have := y_table SS.out.ok W (l : Int); rw [hm] at this; exact this)
          have hbk' := hbk.step H6 hsl hck
          have hmj : m < j := by omega
          rw [hm] at hbk'
          have hzl : m < zs.length := by rw [hbk.len, hsl]; exact hmj
          have hwm : wAt (setL j j) (m : Int) = (setL j j).getD m 0 := rfl
          rw [hwm, show ((m : Int)).toNat = m from rfl] at hbk'
          refine (y_chunks SS.out.ok _).mono ?_
          rintro e w6 ⟨rfl, h6⟩
          have x1 := (HW5.out.more h6).cell (i := m) (by rw [hsl]; exact hmj)
          have hz6 := hzs.more h6
          have hz7 := fun W (hW : More w6 W) => (hz6.more hW).set hzl ((setL j j).getD m 0)
          generalize (setL j j).getD m 0 = z at x1 hz7 hbk'
          have HZ6 := Lib.hid hz6
          have HZ7 := Lib.hid hz7
          have HBK := Lib.hid hbk'
          have HL6 := Lib.hid (h6.block HL5.out)
          have T6 := Lib.hid (ht.trans (Turned.mono h6 (fun _ _ q => q.elim)))
          clear hz6 hz7 hbk hbk' hzs h6 HL5 HM5 HW5 HCH hm t0 t1 t2 hwm ht H6 hck hlt
          go_wp2_with fail
          refine wp_region_more_tail 11 (by kernel_rfl) (by kernel_rfl) ?_
          simp only [List.take_succ_cons, List.take_zero, List.drop_succ_cons, List.drop_zero]
          with_reducible refine wpQuiet_step (fun K hK => ?_)
          go_simp
          first
          | (refine hK _ ?_; clear hK K)
          | (apply Exists.intro
             refine ⟨fun W hW => ?_, hK _ ?_⟩
             first
             | (go_at_call 29; exact Calls.more hW (YT.out W))
             | (have x1' := hW.cell x1; go_simp; try rfl)
             clear hK K)
          refine wpQuiet_load_row rfl 28 _ rfl _ rfl 28 _ _ _ (fun W hW => hW.block HL6.out) Try.underlying28 rfl (by kernel_rfl) ?_
          with_reducible refine wpQuiet_step (fun K hK => ?_)
          go_simp
          first
          | (refine hK _ ?_; clear hK K)
          | (apply Exists.intro
             refine ⟨fun W hW => ?_, hK _ ?_⟩
             first
             | (go_at_call 29; exact Calls.more hW (YT.out W))
             | (have x1' := hW.cell x1; go_simp; try rfl)
             clear hK K)
          with_reducible refine wpQuiet_step (fun K hK => ?_)
          go_simp
          first
          | (refine hK _ ?_; clear hK K)
          | (apply Exists.intro
             refine ⟨fun W hW => ?_, hK _ ?_⟩
             first
             | (go_at_call 29; exact Calls.more hW (YT.out W))
             | (have x1' := hW.cell x1; go_simp; try rfl)
             clear hK K)
          with_reducible refine wpQuiet_step (fun K hK => ?_)
          go_simp
          first
          | (refine hK _ ?_; clear hK K)
          | (apply Exists.intro
             refine ⟨fun W hW => ?_, hK _ ?_⟩
             first
             | (go_at_call 29; exact Calls.more hW (YT.out W))
             | (have x1' := hW.cell x1; go_simp; try rfl)
             clear hK K)
          refine wpQuiet_load_row rfl 28 _ rfl _ rfl 28 _ _ _ (fun W hW => hW.block HL6.out) Try.underlying28 rfl (by kernel_rfl) ?_
          with_reducible refine wpQuiet_step (fun K hK => ?_)
          go_simp
          first
          | (refine hK _ ?_; clear hK K)
          | (apply Exists.intro
             refine ⟨fun W hW => ?_, hK _ ?_⟩
             first
             | (go_at_call 29; exact Calls.more hW (YT.out W))
             | (have x1' := hW.cell x1; go_simp; try rfl)
             clear hK K)
          with_reducible refine wpQuiet_step (fun K hK => ?_)
          go_simp
          first
          | (refine hK _ ?_; clear hK K)
          | (apply Exists.intro
             refine ⟨fun W hW => ?_, hK _ ?_⟩
             first
             | (go_at_call 29; exact Calls.more hW (YT.out W))
             | (have x1' := hW.cell x1; go_simp; try rfl)
             clear hK K)
          with_reducible refine wpQuiet_step (fun K hK => ?_)
          go_simp
          first
          | (refine hK _ ?_; clear hK K)
          | (apply Exists.intro
             refine ⟨fun W hW => ?_, hK _ ?_⟩
             first
             | (go_at_call 29; exact Calls.more hW (YT.out W))
             | (have x1' := hW.cell x1; go_simp; try rfl)
             clear hK K)
          with_reducible refine wpQuiet_step (fun K hK => ?_)
          go_simp
          first
          | (refine hK _ ?_; clear hK K)
          | (apply Exists.intro
             refine ⟨fun W hW => ?_, hK _ ?_⟩
             first
             | (go_at_call 29; exact Calls.more hW (YT.out W))
             | (have x1' := hW.cell x1; go_simp; try rfl)
             clear hK K)
          with_reducible refine wpQuiet_step (fun K hK => ?_)
          go_simp
          first
          | (refine hK _ ?_; clear hK K)
          | (apply Exists.intro
             refine ⟨fun W hW => ?_, hK _ ?_⟩
             first
             | (go_at_call 29; exact Calls.more hW (YT.out W))
             | (have x1' := hW.cell x1; go_simp; try rfl)
             clear hK K)
          refine wpQuiet_nil ?_
          intro w7 m7
          have v1' := (HZ6.out.more m7).cell hzl
          have v2' := (HZ6.out.more m7).froz m
          have HW8 := Lib.hid (HZ7.out w7 m7)
          have T8 : Hid (Turned (fun b => b = gw) w4 (w7.setCell ⟨gw, m, none⟩ (.int .i64 z))) := Lib.hid ((T6.out.trans (Turned.mono m7 (fun _ _ q => q.elim))).setCell _ _ (fun _ => rfl))
          clear m7 HZ6 HZ7 T6 x1 YT HL6
          go_wp2_with fail
          exact ⟨⟨l + 1, by have := HLT.out; omega, by go_num, ⟨_, HW8.out, HBK.out⟩, T8.out⟩, by have := HLT.out; simp [intOf]; omega⟩
        · have d0 : decide ((l : Int) < chunksV d.pg) = false := by simp; omega
          obtain rfl := hbk.fin (by omega)
          refine (y_chunks SS.out.ok _).mono ?_
          rintro e w6 ⟨rfl, h6⟩
          have SM := rows_same (setL j j) _ _ 0 0 w6 (by omega) ((hzs.more h6).rw' (Nat.zero_le _)) ((HW5.out.more h6).rw' (Nat.zero_le _))
          rw [hsl] at SM
          have SM := Lib.hid SM
          have HM6 := Lib.hid (HM5.out.trans h6)
          clear hzs hbk h6 HL5 HM5 HW5 HCH hlt ht 
          go_wp2_with fail
          refine SM.out.mono ?_
          rintro e w7 ⟨rfl, h7⟩
          have HM7 := Lib.hid (HM6.out.trans h7)
          clear h7
          go_wp2_with fail
          refine (lives8_ok _).mono ?_
          rintro e w8 ⟨rfl, h8⟩
          have HM8 := Lib.hid (HM7.out.trans h8)
          clear h8
          go_wp2_with fail
          go_ret
          exact ⟨rfl, HM8.out⟩
end Go.Proofs.Ytonenkgjlmcfkaa
