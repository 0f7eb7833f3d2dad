/-
  Layer 10's statement that Next and Prev agree.
-/
import Derived.Test.YtcjnkadmiflgaaaPlAgWR
namespace Go.Proofs.Ytcjnkadmiflgaaa
open Go.RowKit Go.Sort Go.Maps Go.Shelf
set_option linter.unusedVariables false
set_option linter.unusedSimpArgs false

set_option maxRecDepth 100000 in
set_option maxHeartbeats 4000000 in
theorem ag_walk (y0 y1 y2 y3 y4 y5 y6 y7 y8 y9 y10 : Int) (a : Option Addr) (capl : Nat) (l : List Ins4) (q f : Int) (w : World) (f0 : (Lit.int .i64 y0).wf = true) (f1 : (Lit.int .i64 y1).wf = true) (f2 : (Lit.int .i64 y2).wf = true) (f3 : (Lit.int .i64 y3).wf = true) (f4 : (Lit.int .i64 y4).wf = true) (f5 : (Lit.int .i64 y5).wf = true) (f6 : (Lit.int .i64 y6).wf = true) (f7 : (Lit.int .i64 y7).wf = true) (f8 : (Lit.int .i64 y8).wf = true) (f9 : (Lit.int .i64 y9).wf = true) (f10 : (Lit.int .i64 y10).wf = true) (hl : IsIns4 w a l) (ho : OkP4 l) (hmx : l.length ≤ 9223372036854775807) (e0 : (Lit.int .i64 q).wf = true) (e1 : (Lit.int .i64 f).wf = true) :
    Calls Try.prog 5 #[.agg #[.int .i64 y0, .int .i64 y1, .int .i64 y2, .int .i64 y3, .int .i64 y4, .int .i64 y5, .int .i64 y6, .int .i64 y7, .int .i64 y8, .int .i64 y9, .int .i64 y10], .slice a l.length capl, .int .i64 q, .int .i64 f] w (Gives w (.bool true)) := by
  obtain ⟨w3, e3, ha, hb, hc, m3, s3⟩ := entry3 w (.cells #[.int .i64 y0, .int .i64 y1, .int .i64 y2, .int .i64 y3, .int .i64 y4, .int .i64 y5, .int .i64 y6, .int .i64 y7, .int .i64 y8, .int .i64 y9, .int .i64 y10] 23) (.cells #[.int .i64 q] 3) (.cells #[.int .i64 f] 3)
  clear e0 e1 ho
  by_cases h1 : 60 < l.length
  · have d0 : decide ((60 : Int) < (l.length : Int)) = true := by simp; omega
    have M1 := Lib.hid m3
    clear ha hb hc m3 f0 f1 f2 f3 f4 f5 f6 f7 f8 f9 f10 hl s3
    go_enter Try.func5, Try.ntmps5
    go_wp2_with fail
    refine (lives10_ok _).mono ?_
    rintro e w8 ⟨rfl, h8⟩
    have M8 := Lib.hid (M1.out.trans h8)
    clear h8
    go_wp2_with fail
    go_ret
    exact ⟨rfl, M8.out⟩
  have d0 : decide ((60 : Int) < (l.length : Int)) = false := by simp; omega
  obtain ⟨d, n, G, zs, ins, S, hn, hlz, hz, hL, hI, AF⟩ := pa_ok y0 y1 y2 y3 y4 y5 y6 y7 y8 y9 y10 f0 f1 f2 f3 f4 f5 f6 f7 f8 f9 f10 l (by omega)
  have wds := S.words
  have H := S.hdin hn
  have hnl : n ≤ 1000 := by omega
  have hil : ins.length ≤ 1000 := by have h := hI.len; have := H.pg1; have := H.pg2; have := H.st1; have := H.top62; have : 0 ≤ chunksV d.pg := by unfold chunksV; omega
                                     have : 0 ≤ tableV d.st := by unfold tableV; omega
                                     omega
  have SS := Lib.hid S
  have HL := Lib.hid hL
  have HI := Lib.hid hI
  have HH := Lib.hid H
  have M1 := Lib.hid m3
  have HA := Lib.hid ha
  have HQ := Lib.hid hb
  have HF3 := Lib.hid hc
  have AO := Lib.hid (AF.out a capl w3 (hl.more m3))
  have HLZ := Lib.hid hlz
  have HZ := Lib.hid hz
  clear m3 ha hb hc f0 f1 f2 f3 f4 f5 f6 f7 f8 f9 f10 hl AF hz hlz H h1 S hn hL hI wds
  go_enter Try.func5, Try.ntmps5
  go_wp2_with (refine wpList_load_row rfl 23 _ rfl w.heap.size rfl 23 _ _ _ HA.out Try.underlying23 rfl (by kernel_rfl) ?_)
  clear e3
  refine AO.out.mono ?_
  rintro e w2 ⟨gz, cz, gi, ci, rfl, hws, his, hgz, hgi, m2⟩
  have D1 := Lib.hid (row_new w2 zero24 28)
  have D2 := setRow_heap (w2.alloc (.cells zero24 28)) w2.heap.size _ d.arr _ _ D1.out
  have hw2 : w3.heap.size ≤ w2.heap.size := m2.size
  have M3 : More w2 ((w2.alloc (.cells zero24 28)).setRow w2.heap.size d.arr) := ((More.refl w2).alloc _).setRow _ _ (Nat.le_refl _)
  have sz3 : ((w2.alloc (.cells zero24 28)).setRow w2.heap.size d.arr).heap.size = w2.heap.size + 1 := by simp
  obtain ⟨w4, e4⟩ : ∃ w4, (w2.alloc (.cells zero24 28)).setRow w2.heap.size d.arr = w4 := ⟨_, rfl⟩
  rw [e4] at D2 M3 sz3
  have M4 := Lib.hid (M1.out.trans (m2.trans M3))
  have L4 := Lib.hid D2
  have Z4 := Lib.hid (hws.more M3)
  have I4 := Lib.hid (his.more M3)
  have Q4 := Lib.hid ((m2.trans M3).block HQ.out)
  have F4 := Lib.hid ((m2.trans M3).block HF3.out)
  have hgz2 : gz < w2.heap.size := hws.lt
  have hs2 : w.heap.size + 3 ≤ w2.heap.size := by omega
  have hs4 : w2.heap.size + 1 ≤ w4.heap.size := by omega
  clear hws his D2 M3 m2 sz3 s3 AO HQ HF3 hgz hgi hw2
  go_wp2_with (refine wpList_store_row rfl 28 _ _ rfl w2.heap.size _ rfl rfl 28 zero24 D1.out (by kernel_rfl) rfl (arr_one d) ?_)
  clear D1 e4
  go_loopw [13] (fun i wr2 => ∃ j : Nat, i = .int .i64 j ∧ (j : Int) ≤ ins.length ∧ More w4 wr2) (fun i _ => ins.length - (intOf i).toNat)
  case atStart => exact ⟨0, rfl, by omega, More.refl _⟩
  case round =>
    obtain ⟨j, rfl, hj, ht⟩ := hrel
    by_cases hlt : j < ins.length
    · have d1 : decide ((j : Int) < (ins.length : Int)) = true := by simp; omega
      have q1 : IntKind.i64.wrap ((j : Int) + 1) = (j : Int) + 1 := wrap_in (by omega) (by omega)
      have hp : isPage d.pg (j : Int) = true := isPage_iff.2 (by have h := HI.out.len; omega)
      have c1 := (I4.out.more ht).cell hlt
      have L5 := Lib.hid (ht.block L4.out)
      by_cases hz0 : ins.getD j 0 = 0
      · rw [hz0] at c1
        obtain ⟨u1, u2⟩ := HL.out.free _ hp (HI.out.zero hp hz0)
        obtain ⟨⟨k1, k2, _⟩, ⟨k3, k4, _⟩⟩ := nv_b HH.out hp
        obtain ⟨b3, hm3⟩ : ∃ b : Nat, nA d.pg d.st j = (b : Int) := ⟨(nA d.pg d.st j).toNat, by omega⟩
        obtain ⟨b4, hm4⟩ : ∃ b : Nat, vA d.pg d.st j = (b : Int) := ⟨(vA d.pg d.st j).toNat, by omega⟩
        rw [hm3] at u1 k2
        rw [hm4] at u2 k4
        have u1 : zs.getD b3 0 = 0 := u1
        have u2 : zs.getD b4 0 = 0 := u2
        have hb3 : b3 < n := by omega
        have hb4 : b4 < n := by omega
        have P3 := Lib.hid ((page3 (st := d.st) hp).trans hm3)
        have P4 := Lib.hid ((page4 (st := d.st) hp).trans hm4)
        have HT := Lib.hid ht
        have U1 := Lib.hid u1
        have U2 := Lib.hid u2
        clear hz0 u1 u2 hm3 hm4 k1 k2 k3 k4 ht
        go_wp2_with (first | (refine wpList_load_row rfl 28 _ rfl _ rfl 28 _ _ _ L5.out Try.underlying28 rfl (by kernel_rfl) ?_) | (refine wpList_load_rowG rfl 28 _ rfl _ rfl 28 _ _ _ L5.out Try.underlying28 rfl (by kernel_rfl) ?_))
        refine (y_next SS.out.ok _ _).mono ?_
        rw [P3.out]
        rintro e w8 ⟨rfl, h8⟩
        have x1 := ((Z4.out.more HT.out).more h8).cell (i := b3) (by rw [HLZ.out]; exact hb3)
        rw [U1.out] at x1
        have L6 := Lib.hid (h8.block L5.out)
        have T8 := Lib.hid (HT.out.trans h8)
        clear h8 c1
        go_wp2_with (first | (refine wpList_load_row rfl 28 _ rfl _ rfl 28 _ _ _ L6.out Try.underlying28 rfl (by kernel_rfl) ?_) | (refine wpList_load_rowG rfl 28 _ rfl _ rfl 28 _ _ _ L6.out Try.underlying28 rfl (by kernel_rfl) ?_))
        refine (y_prev SS.out.ok _ _).mono ?_
        rw [P4.out]
        rintro e w9 ⟨rfl, h9⟩
        have x2 := ((Z4.out.more T8.out).more h9).cell (i := b4) (by rw [HLZ.out]; exact hb4)
        rw [U2.out] at x2
        have T9 := Lib.hid (T8.out.trans h9)
        clear h9 x1
        go_wp2_with fail
        exact ⟨⟨j + 1, by go_num, by omega, T9.out⟩, by simp [intOf]; omega⟩
      · obtain ⟨z, hz1⟩ : ∃ z, ins.getD j 0 = z := ⟨_, rfl⟩
        rw [hz1] at c1 hz0
        have d2 : (z == 0) = false := by simpa using hz0
        have d3 : decide (z = 0) = false := by simpa using hz0
        have HT := Lib.hid ht
        clear hz1
        clear ht
        go_wp2_with (first | (refine wpList_load_row rfl 28 _ rfl _ rfl 28 _ _ _ L5.out Try.underlying28 rfl (by kernel_rfl) ?_) | (refine wpList_load_rowG rfl 28 _ rfl _ rfl 28 _ _ _ L5.out Try.underlying28 rfl (by kernel_rfl) ?_))
        exact ⟨⟨j + 1, by go_num, by omega, HT.out⟩, by simp [intOf]; omega⟩
    · have d1 : decide ((j : Int) < (ins.length : Int)) = false := by simp; omega
      obtain ⟨w4b, rfl⟩ : ∃ w4b, w4b = wr := ⟨_, rfl⟩
      obtain ⟨w5, e5, hb5, m5, s5⟩ := entry1 w4b (.cells #[.slice none 0 0] 29)
      have hs5 := ht.size
      have t5 := ht.trans m5
      have DO := ag_do SS.out.ok zs (by rw [HLZ.out]; exact HH.out) (by rw [HLZ.out]; exact hnl) HZ.out q f w5 w2.heap.size (w.heap.size + 1) (w.heap.size + 2) w4b.heap.size (some ⟨gz, 0, none⟩) cz ⟨⟨t5.block L4.out, t5.block Q4.out, t5.block F4.out⟩, _, hb5⟩ ⟨by omega, by omega, by omega⟩ (Z4.out.more t5).words
      rw [HLZ.out] at DO
      have DO := Lib.hid DO
      have M5 := Lib.hid (M4.out.trans t5)
      have L5 := Lib.hid (t5.block L4.out)
      have Z5 := Lib.hid (Z4.out.more t5)
      have AT := Lib.hid (fun j hj => ag_at HH.out HL.out q f j hj)
      have hgz4 : gz ≠ w4b.heap.size := by omega
      have hgl4 : w2.heap.size ≠ w4b.heap.size := by omega
      have hw4 : w.heap.size ≤ w4b.heap.size := by omega
      clear ht hb5 m5 t5 L4 Z4 I4 Q4 F4 M4 hs5 s5
      go_wp2_with fail
      refine DO.out.mono ?_
      rintro e w6 ⟨v1, v2, rfl, t6, vx, bx, rx⟩
      obtain ⟨xs, hxs⟩ : ∃ xs, plListV d.pg d.st q f zs = xs := ⟨_, rfl⟩
      rw [hxs] at rx
      have AT : Hid (∀ j, j < xs.length → isPage d.pg (xs.getD j 0) = true ∧ (∀ i, i < xs.length → 0 ≤ xs.getD i 0 ∧ xs.getD i 0 < d.pg) ∧ wAt zs (vA d.pg d.st (xs.getD j 0)) = (if j = 0 then 0 else xs.getD (j - 1) 0 + 1) ∧ wAt zs (nA d.pg d.st (xs.getD j 0)) = (if j + 1 = xs.length then 0 else xs.getD (j + 1) 0 + 1)) := by rw [← hxs]; exact AT
      clear hxs
      obtain ⟨ax, cx, rfl, hrd⟩ := rx.reads
      have GX : Hid (∀ j, j < xs.length → ∃ gx, ax = some ⟨gx, 0, none⟩ ∧ Ws w6 gx cx xs) := Lib.hid fun j hj => by
        obtain ⟨gx, rfl, _⟩ := hrd j hj
        exact ⟨gx, rfl, Ws.of_rw rx⟩
      have M6 : Hid (More w w6) := Lib.hid (Turned.mono (turned_own (F := fun _ => False) M5.out t6 (fun b e => .inr (by omega))) (fun _ _ q => q))
      have L6 := Lib.hid ((t6.block _ (lt_of_heap L5.out) hgl4).trans L5.out)
      have Z6 := Lib.hid (Z5.out.keep t6 hgz4)
      have B6 : Hid (BoxV w4b.heap.size w6 (.slice ax xs.length cx)) := Lib.hid bx
      have hxl : xs.length ≤ 9223372036854775807 := by
        by_cases e : xs.length = 0
        · omega
        · obtain ⟨gx, _, cur, _, h1, h2, _⟩ := GX.out 0 (by omega)
          unfold maxLen at h2
          omega
      clear rx hrd t6 bx L5 Z5 M5 DO e5 hgz4 hgl4 hw4 d1
      go_wp2_with fail
      go_loopw [18] (fun i wr2 => ∃ j : Nat, i = .int .i64 j ∧ (j : Int) ≤ xs.length ∧ More w6 wr2) (fun i _ => xs.length - (intOf i).toNat)
      case atStart => exact ⟨0, rfl, by omega, More.refl _⟩
      case round =>
        obtain ⟨j, rfl, hj, ht⟩ := hrel
        have MW := Lib.hid ht
        by_cases hlt : j < xs.length
        · obtain ⟨gx, rfl, hx6⟩ := GX.out j hlt
          have AGX : Hid (AgR d w2.heap.size w4b.heap.size gz cz gx cx zs xs w6) := Lib.hid ⟨L6.out, B6.out, Z6.out, hx6⟩
          have KC : Hid (∀ W, More w6 W → AgR d w2.heap.size w4b.heap.size gz cz gx cx zs xs W) := Lib.hid fun W h => AGX.out.more h
          have d1 : decide ((j : Int) < (xs.length : Int)) = true := by simp; omega
          have q1 : IntKind.i64.wrap ((j : Int) + 1) = (j : Int) + 1 := wrap_in (by omega) (by omega)
          have c14 := (box_cells (ht.block B6.out)).1
          obtain ⟨hp, hall, hv4, hv3⟩ := AT.out j hlt
          obtain ⟨P, hP⟩ : ∃ P, xs.getD j 0 = P := ⟨_, rfl⟩
          have x1 := (hx6.more ht).cell hlt
          rw [hP] at x1 hp hv4 hv3
          have hpp := isPage_iff.1 hp
          obtain ⟨⟨k1, k2, _⟩, ⟨k3, k4, _⟩⟩ := nv_b HH.out hp
          obtain ⟨b3, hm3⟩ : ∃ b : Nat, nA d.pg d.st P = (b : Int) := ⟨(nA d.pg d.st P).toNat, by omega⟩
          obtain ⟨b4, hm4⟩ : ∃ b : Nat, vA d.pg d.st P = (b : Int) := ⟨(vA d.pg d.st P).toNat, by omega⟩
          rw [hm3] at hv3 k2
          rw [hm4] at hv4 k4
          have hb3 : b3 < n := by omega
          have hb4 : b4 < n := by omega
          have P3 := Lib.hid ((page3 (st := d.st) hp).trans hm3)
          have P4 := Lib.hid ((page4 (st := d.st) hp).trans hm4)
          obtain ⟨vz, hvz⟩ : ∃ vz, zs.getD b4 0 = vz := ⟨_, rfl⟩
          obtain ⟨vn, hvn⟩ : ∃ vn, zs.getD b3 0 = vn := ⟨_, rfl⟩
          have hv4 : vz = (if j = 0 then 0 else xs.getD (j - 1) 0 + 1) := by rw [← hvz]; exact hv4
          have hv3 : vn = (if j + 1 = xs.length then 0 else xs.getD (j + 1) 0 + 1) := by rw [← hvn]; exact hv3
          have CZ4 : Hid (∀ W, AgR d w2.heap.size w4b.heap.size gz cz gx cx zs xs W → W.cell? ⟨gz, b4, none⟩ = some (.int .i64 vz)) := Lib.hid fun W hW => by rw [← hvz]; exact hW.hz.cell (by rw [HLZ.out]; exact hb4)
          have CZ3 : Hid (∀ W, AgR d w2.heap.size w4b.heap.size gz cz gx cx zs xs W → W.cell? ⟨gz, b3, none⟩ = some (.int .i64 vn)) := Lib.hid fun W hW => by rw [← hvn]; exact hW.hz.cell (by rw [HLZ.out]; exact hb3)
          have X0 := Lib.hid (show decide (P < 0) = false by simp; omega)
          have X1 := Lib.hid (show decide ((ins.length : Int) ≤ P) = false by have := HI.out.len; simp; omega)
          have X5 := Lib.hid q1
          obtain ⟨bE, hbE⟩ : ∃ b, decide (j + 1 = xs.length) = b := ⟨_, rfl⟩
          have X6 := Lib.hid (show (((j : Int) + 1) == (xs.length : Int)) = bE by
            rw [← hbE]
            by_cases e : j + 1 = xs.length
            · have e' : (j : Int) + 1 = xs.length := by omega
              simp [e, e']
            · have e' : ¬ (j : Int) + 1 = xs.length := by omega
              simp [e, e'])
          have X4 := Lib.hid (show (vn == 0) = bE by
            rw [← hbE, hv3]
            by_cases e : j + 1 = xs.length
            · simp [e]
            · have := (hall (j + 1) (by omega)).1
              have h2 : ¬ xs.getD (j + 1) 0 + 1 = 0 := by omega
              rw [if_neg e]
              simp only [e, decide_false]
              simpa using h2)
          clear hp hv3 hm3 hm4 k1 k2 k3 k4 hpp hvn hbE hP
          by_cases hj0 : j = 0
          · have X2 := Lib.hid (show (vz == 0) = true by rw [hv4, if_pos hj0]; rfl)
            have X3 := Lib.hid (show ((j : Int) == 0) = true by rw [hj0]; rfl)
            have X7 := Lib.hid (show decide ((0 : Int) < (j : Int)) = false by rw [hj0]; rfl)
            clear hv4 hall hj0 hvz hx6 ht
            go_wp2_with fail
            clear c14 x1
            refine wp_region_anyC (AgR d w2.heap.size w4b.heap.size gz cz gx cx zs xs) (by kernel_rfl) ?_
            change anyC _ _ _ _ _ _ _ _ (wr.drewN 1)
            have MR := Lib.hid (MW.out.trans ((More.refl wr).drewN 1))
            generalize wr.drewN 1 = wq at MR ⊢
            generalize hA : Act.mk _ _ = A
            have HF : AG 139 A [(9, .pointer (some ⟨w2.heap.size, 0, none⟩)), (10, .slice (some ⟨gz, 0, none⟩) n cz), (11, .slice (some ⟨gi, 0, none⟩) ins.length ci), (14, .pointer (some ⟨w4b.heap.size, 0, none⟩)), (18, .int .i64 (j : Int)), (19, .int .i64 P)] := by
              rw [← hA]
              refine ⟨⟨Nat.le_of_ble_eq_true rfl, rfl⟩, ?_⟩
              intro z hz; simp only [List.mem_cons, List.not_mem_nil, or_false] at hz; rcases hz with rfl | rfl | rfl | rfl | rfl | rfl <;> rfl
            refine anyC_start (fun a W => ∃ (u80 u81 u82 u83 u84 u85 u86 u87 u88 u89 u90 u91 u96 u97 u92 u93 u94 u95 u98 u99 u100 u101 u102 u103 u108 u109 u110 u111 u112 u104 u105 u106 u107 u113 u114 u115 u116 u117 u118 u119 u120 u121 u122 u123 u124 u125 u126 u127 u128 u129 u130 u131 u132 : Value), a = (Act.put (Act.put (Act.put (Act.put (Act.put (Act.put (Act.put (Act.put (Act.put (Act.put (Act.put (Act.put (Act.put (Act.put (Act.put (Act.put (Act.put (Act.put (Act.put (Act.put (Act.put (Act.put (Act.put (Act.put (Act.put (Act.put (Act.put (Act.put (Act.put (Act.put (Act.put (Act.put (Act.put (Act.put (Act.put (Act.put (Act.put (Act.put (Act.put (Act.put (Act.put (Act.put (Act.put (Act.put (Act.put (Act.put (Act.put (Act.put (Act.put (Act.put (Act.put (Act.put (Act.put (Act.put A (some 80) u80) (some 81) u81) (some 82) u82) (some 83) u83) (some 84) u84) (some 85) u85) (some 86) u86) (some 87) u87) (some 88) u88) (some 89) u89) (some 90) u90) (some 91) u91) (some 96) u96) (some 97) u97) (some 92) u92) (some 93) u93) (some 94) u94) (some 95) u95) (some 98) u98) (some 99) u99) (some 100) u100) (some 101) u101) (some 102) u102) (some 103) u103) (some 108) u108) (some 109) u109) (some 110) u110) (some 111) u111) (some 112) u112) (some 104) u104) (some 105) u105) (some 106) u106) (some 107) u107) (some 113) u113) (some 114) u114) (some 115) u115) (some 116) u116) (some 117) u117) (some 118) u118) (some 119) u119) (some 120) u120) (some 121) u121) (some 122) u122) (some 123) u123) (some 124) u124) (some 125) u125) (some 126) u126) (some 127) u127) (some 128) u128) (some 129) u129) (some 130) u130) (some 131) u131) (some 132) u132) (some 133) (.bool false)) ∧ More w6 W) (fun _ => False) [] (fun a W hd h => h.elim) (fun _ _ _ _ _ h => h) ?_ ?_
            · skip
              rintro a9 wa ⟨u80, u81, u82, u83, u84, u85, u86, u87, u88, u89, u90, u91, u96, u97, u92, u93, u94, u95, u98, u99, u100, u101, u102, u103, u108, u109, u110, u111, u112, u104, u105, u106, u107, u113, u114, u115, u116, u117, u118, u119, u120, u121, u122, u123, u124, u125, u126, u127, u128, u129, u130, u131, u132, rfl, MS⟩
              rw [← hA]
              replace MS := Lib.hid MS
              clear HF hA MR KC CZ3 CZ4 AGX
              go_simp
              go_wp2_with fail
              go_roundw
              case rel => exact ⟨j + 1, by go_num, by omega, MS.out⟩
              case measure => simp [intOf]; omega
            intro QQ FINE FIND FINQ
            clear hA
            refine anyC_takeD (i := 0) (v := .int .i64 P) (some 80) rfl rfl (by kernel_rfl) (by kernel_rfl) (by kernel_rfl) (fun c a w => FINQ c a _ _ w) (KC.out _ MR.out) (by exact yieldsC_moveG (wanted_none rfl) _ rfl (HF.get 5 rfl)) ?_
            replace HF := HF.put 80 (.int .i64 P) (by decide) rfl
            generalize hB1_80 : Act.put _ _ _ = A at HF ⊢
            refine anyC_takeD (i := 1) (v := .bool false) (some 81) rfl rfl (by kernel_rfl) (by kernel_rfl) (by kernel_rfl) (fun c a w => FINQ c a _ _ w) (KC.out _ MR.out) (by exact yieldsC_lssI (wanted_none rfl) rfl (HF.get 0 rfl) rfl false X0.out) ?_
            replace HF := HF.put 81 (.bool false) (by decide) rfl
            generalize hB2_81 : Act.put _ _ _ = A at HF ⊢
            refine anyC_takeD (i := 2) (v := .bool false) (some 82) rfl rfl (by kernel_rfl) (by kernel_rfl) (by kernel_rfl) (fun c a w => FINQ c a _ _ w) (KC.out _ MR.out) (by exact yieldsC_moveG (wanted_none rfl) _ rfl (HF.get 0 rfl)) ?_
            replace HF := HF.put 82 (.bool false) (by decide) rfl
            generalize hB3_82 : Act.put _ _ _ = A at HF ⊢
            refine anyC_takeD (i := 3) (v := .int .i64 P) (some 83) rfl rfl (by kernel_rfl) (by kernel_rfl) (by kernel_rfl) (fun c a w => FINQ c a _ _ w) (KC.out _ MR.out) (by exact yieldsC_moveG (wanted_g 2 false 82 rfl rfl (HF.at (by decide) 0 rfl)) _ rfl (HF.get 8 rfl)) ?_
            replace HF := HF.put 83 (.int .i64 P) (by decide) rfl
            generalize hB4_83 : Act.put _ _ _ = A at HF ⊢
            refine anyC_takeD (i := 4) (v := .slice (some ⟨gi, 0, none⟩) ins.length ci) (some 84) rfl rfl (by kernel_rfl) (by kernel_rfl) (by kernel_rfl) (fun c a w => FINQ c a _ _ w) (KC.out _ MR.out) (by exact yieldsC_moveG (wanted_g 2 false 82 rfl rfl (HF.at (by decide) 1 rfl)) _ rfl (HF.get 6 rfl)) ?_
            replace HF := HF.put 84 (.slice (some ⟨gi, 0, none⟩) ins.length ci) (by decide) rfl
            generalize hB5_84 : Act.put _ _ _ = A at HF ⊢
            refine anyC_takeD (i := 5) (v := .int .i64 (ins.length : Int)) (some 85) rfl rfl (by kernel_rfl) (by kernel_rfl) (by kernel_rfl) (fun c a w => FINQ c a _ _ w) (KC.out _ MR.out) (by exact (Or.inl ⟨(wanted_g 2 false 82 rfl rfl (HF.at (by decide) 2 rfl)), fun W hW => by have h5 := (HF.getD 0 rfl); go_simp⟩)) ?_
            replace HF := HF.put 85 (.int .i64 (ins.length : Int)) (by decide) rfl
            generalize hB6_85 : Act.put _ _ _ = A at HF ⊢
            refine anyC_takeD (i := 6) (v := .bool false) (some 86) rfl rfl (by kernel_rfl) (by kernel_rfl) (by kernel_rfl) (fun c a w => FINQ c a _ _ w) (KC.out _ MR.out) (by exact yieldsC_geqI (wanted_g 2 false 82 rfl rfl (HF.at (by decide) 3 rfl)) rfl (HF.get 2 rfl) (HF.get 0 rfl) false X1.out) ?_
            replace HF := HF.put 86 (.bool false) (by decide) rfl
            generalize hB7_86 : Act.put _ _ _ = A at HF ⊢
            refine anyC_takeD (i := 7) (v := .bool false) (some 87) rfl rfl (by kernel_rfl) (by kernel_rfl) (by kernel_rfl) (fun c a w => FINQ c a _ _ w) (KC.out _ MR.out) (by exact yieldsC_pickF (wanted_none rfl) rfl (HF.get 4 rfl) (HF.get 0 rfl)) ?_
            replace HF := HF.put 87 (.bool false) (by decide) rfl
            generalize hB8_87 : Act.put _ _ _ = A at HF ⊢
            refine anyC_takeD (i := 8) (v := .bool false) (some 88) rfl rfl (by kernel_rfl) (by kernel_rfl) (by kernel_rfl) (fun c a w => FINQ c a _ _ w) (KC.out _ MR.out) (by exact yieldsC_moveG (wanted_none rfl) _ rfl (HF.get 0 rfl)) ?_
            replace HF := HF.put 88 (.bool false) (by decide) rfl
            generalize hB9_88 : Act.put _ _ _ = A at HF ⊢
            refine anyC_takeD (i := 9) (v := .slice (some ⟨gz, 0, none⟩) n cz) (some 89) rfl rfl (by kernel_rfl) (by kernel_rfl) (by kernel_rfl) (fun c a w => FINQ c a _ _ w) (KC.out _ MR.out) (by exact yieldsC_moveG (wanted_g 8 false 88 rfl rfl (HF.at (by decide) 0 rfl)) _ rfl (HF.get 10 rfl)) ?_
            replace HF := HF.put 89 (.slice (some ⟨gz, 0, none⟩) n cz) (by decide) rfl
            generalize hB10_89 : Act.put _ _ _ = A at HF ⊢
            refine anyC_takeD (i := 10) (v := .agg d.arr) (some 90) rfl rfl (by kernel_rfl) (by kernel_rfl) (by kernel_rfl) (fun c a w => FINQ c a _ _ w) (KC.out _ MR.out) (by exact yieldsC_row (C := (AgR d w2.heap.size w4b.heap.size gz cz gx cx zs xs)) (wanted_g 8 false 88 rfl rfl (HF.at (by decide) 1 rfl)) 28 _ rfl w2.heap.size (HF.get 10 rfl) 28 _ _ _ (fun W hW => hW.h1) Try.underlying28 rfl (by kernel_rfl)) ?_
            replace HF := HF.put 90 (.agg d.arr) (by decide) rfl
            generalize hB11_90 : Act.put _ _ _ = A at HF ⊢
            refine anyC_takeD (i := 11) (v := .int .i64 P) (some 91) rfl rfl (by kernel_rfl) (by kernel_rfl) (by kernel_rfl) (fun c a w => FINQ c a _ _ w) (KC.out _ MR.out) (by exact yieldsC_moveG (wanted_g 8 false 88 rfl rfl (HF.at (by decide) 2 rfl)) _ rfl (HF.get 16 rfl)) ?_
            replace HF := HF.put 91 (.int .i64 P) (by decide) rfl
            generalize hB12_91 : Act.put _ _ _ = A at HF ⊢
            refine anyC_takeD (i := 16) (v := .int .i64 (j : Int)) (some 96) rfl rfl (by kernel_rfl) (by kernel_rfl) (by kernel_rfl) (fun c a w => FINQ c a _ _ w) (KC.out _ MR.out) (by exact yieldsC_moveG (wanted_g 8 false 88 rfl rfl (HF.at (by decide) 3 rfl)) _ rfl (HF.get 16 rfl)) ?_
            replace HF := HF.put 96 (.int .i64 (j : Int)) (by decide) rfl
            generalize hB13_96 : Act.put _ _ _ = A at HF ⊢
            refine anyC_takeD (i := 17) (v := .bool true) (some 97) rfl rfl (by kernel_rfl) (by kernel_rfl) (by kernel_rfl) (fun c a w => FINQ c a _ _ w) (KC.out _ MR.out) (by exact yieldsC_eqI (wanted_g 8 false 88 rfl rfl (HF.at (by decide) 4 rfl)) rfl (HF.get 0 rfl) rfl true X3.out) ?_
            replace HF := HF.put 97 (.bool true) (by decide) rfl
            generalize hB14_97 : Act.put _ _ _ = A at HF ⊢
            refine anyC_oneK (i := 12) (some 92) (by kernel_rfl) rfl (wanted_g 8 false 88 rfl rfl (HF.at (by decide) 5 rfl)) rfl (fun K hK => ?_)
            refine wp_call2 (v0 := .agg d.arr) (v1 := .int .i64 P) rfl (HF.get 3 rfl) (HF.get 2 rfl) (enters_of Try.func26 (by kernel_rfl) rfl) ?_
            refine (y_prev SS.out.ok wq P).mono ?_
            rw [P4.out]
            rintro e w7 ⟨rfl, h7⟩
            have M7 := Lib.hid (MR.out.trans h7)
            clear h7
            refine hK _ _ (KC.out _ M7.out) ?_
            clear hK K
            replace HF := HF.put 92 (.int .i64 (b4 : Int)) (by decide) rfl
            generalize hB15_92 : Act.put _ _ _ = A at HF ⊢
            refine anyC_takeD (i := 13) (v := .pointer (some ⟨gz, b4, none⟩)) (some 93) rfl rfl (by kernel_rfl) (by kernel_rfl) (by kernel_rfl) (fun c a w => FINQ c a _ _ w) (KC.out _ M7.out) (by exact yieldsC_indexI (wanted_g 8 false 88 rfl rfl (HF.at (by decide) 6 rfl)) rfl (HF.get 5 rfl) (HF.get 0 rfl) hb4) ?_
            replace HF := HF.put 93 (.pointer (some ⟨gz, b4, none⟩)) (by decide) rfl
            generalize hB16_93 : Act.put _ _ _ = A at HF ⊢
            refine anyC_takeD (i := 14) (v := .int .i64 vz) (some 94) rfl rfl (by kernel_rfl) (by kernel_rfl) (by kernel_rfl) (fun c a w => FINQ c a _ _ w) (KC.out _ M7.out) (by exact yieldsC_cell (C := (AgR d w2.heap.size w4b.heap.size gz cz gx cx zs xs)) (wanted_g 8 false 88 rfl rfl (HF.at (by decide) 7 rfl)) 3 _ rfl gz b4 (HF.get 0 rfl) (.int .i64 vz) _ Try.underlying3 rfl (fun W hW => CZ4.out W hW)) ?_
            replace HF := HF.put 94 (.int .i64 vz) (by decide) rfl
            generalize hB17_94 : Act.put _ _ _ = A at HF ⊢
            refine anyC_takeD (i := 15) (v := .bool true) (some 95) rfl rfl (by kernel_rfl) (by kernel_rfl) (by kernel_rfl) (fun c a w => FINQ c a _ _ w) (KC.out _ M7.out) (by exact yieldsC_eqI (wanted_g 8 false 88 rfl rfl (HF.at (by decide) 8 rfl)) rfl (HF.get 0 rfl) rfl true X2.out) ?_
            replace HF := HF.put 95 (.bool true) (by decide) rfl
            generalize hB18_95 : Act.put _ _ _ = A at HF ⊢
            refine anyC_takeD (i := 18) (v := .bool false) (some 98) rfl rfl (by kernel_rfl) (by kernel_rfl) (by kernel_rfl) (fun c a w => FINQ c a _ _ w) (KC.out _ M7.out) (by exact yieldsC_neqB (wanted_g 8 false 88 rfl rfl (HF.at (by decide) 9 rfl)) rfl (HF.get 0 rfl) (HF.get 4 rfl)) ?_
            replace HF := HF.put 98 (.bool false) (by decide) rfl
            generalize hB19_98 : Act.put _ _ _ = A at HF ⊢
            refine anyC_takeD (i := 19) (v := .bool false) (some 99) rfl rfl (by kernel_rfl) (by kernel_rfl) (by kernel_rfl) (fun c a w => FINQ c a _ _ w) (KC.out _ M7.out) (by exact yieldsC_pickF (wanted_none rfl) rfl (HF.get 10 rfl) (HF.get 0 rfl)) ?_
            replace HF := HF.put 99 (.bool false) (by decide) rfl
            generalize hB20_99 : Act.put _ _ _ = A at HF ⊢
            refine anyC_takeD (i := 20) (v := .bool false) (some 100) rfl rfl (by kernel_rfl) (by kernel_rfl) (by kernel_rfl) (fun c a w => FINQ c a _ _ w) (KC.out _ M7.out) (by exact yieldsC_moveG (wanted_none rfl) _ rfl (HF.get 0 rfl)) ?_
            replace HF := HF.put 100 (.bool false) (by decide) rfl
            generalize hB21_100 : Act.put _ _ _ = A at HF ⊢
            refine anyC_takeD (i := 21) (v := .slice (some ⟨gz, 0, none⟩) n cz) (some 101) rfl rfl (by kernel_rfl) (by kernel_rfl) (by kernel_rfl) (fun c a w => FINQ c a _ _ w) (KC.out _ M7.out) (by exact yieldsC_moveG (wanted_g 20 false 100 rfl rfl (HF.at (by decide) 0 rfl)) _ rfl (HF.get 22 rfl)) ?_
            replace HF := HF.put 101 (.slice (some ⟨gz, 0, none⟩) n cz) (by decide) rfl
            generalize hB22_101 : Act.put _ _ _ = A at HF ⊢
            refine anyC_takeD (i := 22) (v := .agg d.arr) (some 102) rfl rfl (by kernel_rfl) (by kernel_rfl) (by kernel_rfl) (fun c a w => FINQ c a _ _ w) (KC.out _ M7.out) (by exact yieldsC_row (C := (AgR d w2.heap.size w4b.heap.size gz cz gx cx zs xs)) (wanted_g 20 false 100 rfl rfl (HF.at (by decide) 1 rfl)) 28 _ rfl w2.heap.size (HF.get 22 rfl) 28 _ _ _ (fun W hW => hW.h1) Try.underlying28 rfl (by kernel_rfl)) ?_
            replace HF := HF.put 102 (.agg d.arr) (by decide) rfl
            generalize hB23_102 : Act.put _ _ _ = A at HF ⊢
            refine anyC_takeD (i := 23) (v := .int .i64 P) (some 103) rfl rfl (by kernel_rfl) (by kernel_rfl) (by kernel_rfl) (fun c a w => FINQ c a _ _ w) (KC.out _ M7.out) (by exact yieldsC_moveG (wanted_g 20 false 100 rfl rfl (HF.at (by decide) 2 rfl)) _ rfl (HF.get 28 rfl)) ?_
            replace HF := HF.put 103 (.int .i64 P) (by decide) rfl
            generalize hB24_103 : Act.put _ _ _ = A at HF ⊢
            refine anyC_takeD (i := 28) (v := .int .i64 (j : Int)) (some 108) rfl rfl (by kernel_rfl) (by kernel_rfl) (by kernel_rfl) (fun c a w => FINQ c a _ _ w) (KC.out _ M7.out) (by exact yieldsC_moveG (wanted_g 20 false 100 rfl rfl (HF.at (by decide) 3 rfl)) _ rfl (HF.get 28 rfl)) ?_
            replace HF := HF.put 108 (.int .i64 (j : Int)) (by decide) rfl
            generalize hB25_108 : Act.put _ _ _ = A at HF ⊢
            refine anyC_takeD (i := 29) (v := .int .i64 ((j : Int) + 1)) (some 109) rfl rfl (by kernel_rfl) (by kernel_rfl) (by kernel_rfl) (fun c a w => FINQ c a _ _ w) (KC.out _ M7.out) (by exact yieldsC_addI (wanted_g 20 false 100 rfl rfl (HF.at (by decide) 4 rfl)) rfl (HF.get 0 rfl) rfl _ X5.out) ?_
            replace HF := HF.put 109 (.int .i64 ((j : Int) + 1)) (by decide) rfl
            generalize hB26_109 : Act.put _ _ _ = A at HF ⊢
            refine anyC_takeD (i := 30) (v := .slice (some ⟨gx, 0, none⟩) xs.length cx) (some 110) rfl rfl (by kernel_rfl) (by kernel_rfl) (by kernel_rfl) (fun c a w => FINQ c a _ _ w) (KC.out _ M7.out) (by exact yieldsC_cell (C := (AgR d w2.heap.size w4b.heap.size gz cz gx cx zs xs)) (wanted_g 20 false 100 rfl rfl (HF.at (by decide) 5 rfl)) 29 _ rfl w4b.heap.size 0 (HF.get 29 rfl) (.slice (some ⟨gx, 0, none⟩) xs.length cx) _ Try.underlying29 rfl (fun W hW => (box_cells hW.h4).1)) ?_
            replace HF := HF.put 110 (.slice (some ⟨gx, 0, none⟩) xs.length cx) (by decide) rfl
            generalize hB27_110 : Act.put _ _ _ = A at HF ⊢
            refine anyC_takeD (i := 31) (v := .int .i64 (xs.length : Int)) (some 111) rfl rfl (by kernel_rfl) (by kernel_rfl) (by kernel_rfl) (fun c a w => FINQ c a _ _ w) (KC.out _ M7.out) (by exact (Or.inl ⟨(wanted_g 20 false 100 rfl rfl (HF.at (by decide) 6 rfl)), fun W hW => by have h5 := (HF.getD 0 rfl); go_simp⟩)) ?_
            replace HF := HF.put 111 (.int .i64 (xs.length : Int)) (by decide) rfl
            generalize hB28_111 : Act.put _ _ _ = A at HF ⊢
            refine anyC_takeD (i := 32) (v := .bool bE) (some 112) rfl rfl (by kernel_rfl) (by kernel_rfl) (by kernel_rfl) (fun c a w => FINQ c a _ _ w) (KC.out _ M7.out) (by exact yieldsC_eqI (wanted_g 20 false 100 rfl rfl (HF.at (by decide) 7 rfl)) rfl (HF.get 2 rfl) (HF.get 0 rfl) bE X6.out) ?_
            replace HF := HF.put 112 (.bool bE) (by decide) rfl
            generalize hB29_112 : Act.put _ _ _ = A at HF ⊢
            refine anyC_oneK (i := 24) (some 104) (by kernel_rfl) rfl (wanted_g 20 false 100 rfl rfl (HF.at (by decide) 8 rfl)) rfl (fun K hK => ?_)
            refine wp_call2 (v0 := .agg d.arr) (v1 := .int .i64 P) rfl (HF.get 6 rfl) (HF.get 5 rfl) (enters_of Try.func25 (by kernel_rfl) rfl) ?_
            refine (y_next SS.out.ok w7 P).mono ?_
            rw [P3.out]
            rintro e w8 ⟨rfl, h8⟩
            have M8 := Lib.hid (M7.out.trans h8)
            clear h8
            refine hK _ _ (KC.out _ M8.out) ?_
            clear hK K
            replace HF := HF.put 104 (.int .i64 (b3 : Int)) (by decide) rfl
            generalize hB30_104 : Act.put _ _ _ = A at HF ⊢
            refine anyC_takeD (i := 25) (v := .pointer (some ⟨gz, b3, none⟩)) (some 105) rfl rfl (by kernel_rfl) (by kernel_rfl) (by kernel_rfl) (fun c a w => FINQ c a _ _ w) (KC.out _ M8.out) (by exact yieldsC_indexI (wanted_g 20 false 100 rfl rfl (HF.at (by decide) 9 rfl)) rfl (HF.get 8 rfl) (HF.get 0 rfl) hb3) ?_
            replace HF := HF.put 105 (.pointer (some ⟨gz, b3, none⟩)) (by decide) rfl
            generalize hB31_105 : Act.put _ _ _ = A at HF ⊢
            refine anyC_takeD (i := 26) (v := .int .i64 vn) (some 106) rfl rfl (by kernel_rfl) (by kernel_rfl) (by kernel_rfl) (fun c a w => FINQ c a _ _ w) (KC.out _ M8.out) (by exact yieldsC_cell (C := (AgR d w2.heap.size w4b.heap.size gz cz gx cx zs xs)) (wanted_g 20 false 100 rfl rfl (HF.at (by decide) 10 rfl)) 3 _ rfl gz b3 (HF.get 0 rfl) (.int .i64 vn) _ Try.underlying3 rfl (fun W hW => CZ3.out W hW)) ?_
            replace HF := HF.put 106 (.int .i64 vn) (by decide) rfl
            generalize hB32_106 : Act.put _ _ _ = A at HF ⊢
            refine anyC_takeD (i := 27) (v := .bool bE) (some 107) rfl rfl (by kernel_rfl) (by kernel_rfl) (by kernel_rfl) (fun c a w => FINQ c a _ _ w) (KC.out _ M8.out) (by exact yieldsC_eqI (wanted_g 20 false 100 rfl rfl (HF.at (by decide) 11 rfl)) rfl (HF.get 0 rfl) rfl bE X4.out) ?_
            replace HF := HF.put 107 (.bool bE) (by decide) rfl
            generalize hB33_107 : Act.put _ _ _ = A at HF ⊢
            refine anyC_takeD (i := 33) (v := .bool false) (some 113) rfl rfl (by kernel_rfl) (by kernel_rfl) (by kernel_rfl) (fun c a w => FINQ c a _ _ w) (KC.out _ M8.out) (by exact yieldsC_neqB (wanted_g 20 false 100 rfl rfl (HF.at (by decide) 12 rfl)) rfl (HF.get 0 rfl) (HF.get 4 rfl)) ?_
            replace HF := HF.put 113 (.bool false) (by decide) rfl
            generalize hB34_113 : Act.put _ _ _ = A at HF ⊢
            refine anyC_takeD (i := 34) (v := .bool false) (some 114) rfl rfl (by kernel_rfl) (by kernel_rfl) (by kernel_rfl) (fun c a w => FINQ c a _ _ w) (KC.out _ M8.out) (by exact yieldsC_pickF (wanted_none rfl) rfl (HF.get 13 rfl) (HF.get 0 rfl)) ?_
            replace HF := HF.put 114 (.bool false) (by decide) rfl
            generalize hB35_114 : Act.put _ _ _ = A at HF ⊢
            refine anyC_takeD (i := 35) (v := .bool false) (some 115) rfl rfl (by kernel_rfl) (by kernel_rfl) (by kernel_rfl) (fun c a w => FINQ c a _ _ w) (KC.out _ M8.out) (by exact yieldsC_moveG (wanted_none rfl) _ rfl (HF.get 0 rfl)) ?_
            replace HF := HF.put 115 (.bool false) (by decide) rfl
            generalize hB36_115 : Act.put _ _ _ = A at HF ⊢
            refine anyC_takeD (i := 36) (v := .int .i64 (j : Int)) (some 116) rfl rfl (by kernel_rfl) (by kernel_rfl) (by kernel_rfl) (fun c a w => FINQ c a _ _ w) (KC.out _ M8.out) (by exact yieldsC_moveG (wanted_g 35 false 115 rfl rfl (HF.at (by decide) 0 rfl)) _ rfl (HF.get 40 rfl)) ?_
            replace HF := HF.put 116 (.int .i64 (j : Int)) (by decide) rfl
            generalize hB37_116 : Act.put _ _ _ = A at HF ⊢
            refine anyC_takeD (i := 37) (v := .bool false) (some 117) rfl rfl (by kernel_rfl) (by kernel_rfl) (by kernel_rfl) (fun c a w => FINQ c a _ _ w) (KC.out _ M8.out) (by exact yieldsC_gtrI (wanted_g 35 false 115 rfl rfl (HF.at (by decide) 1 rfl)) rfl (HF.get 0 rfl) rfl false X7.out) ?_
            replace HF := HF.put 117 (.bool false) (by decide) rfl
            generalize hB38_117 : Act.put _ _ _ = A at HF ⊢
            refine anyC_takeD (i := 38) (v := .bool false) (some 118) rfl rfl (by kernel_rfl) (by kernel_rfl) (by kernel_rfl) (fun c a w => FINQ c a _ _ w) (KC.out _ M8.out) (by exact yieldsC_moveG (wanted_g 35 false 115 rfl rfl (HF.at (by decide) 2 rfl)) _ rfl (HF.get 0 rfl)) ?_
            replace HF := HF.put 118 (.bool false) (by decide) rfl
            generalize hB39_118 : Act.put _ _ _ = A at HF ⊢
            refine anyC_takeD (i := 39) (v := undef) (some 119) rfl rfl (by kernel_rfl) (by kernel_rfl) (by kernel_rfl) (fun c a w => FINQ c a _ _ w) (KC.out _ M8.out) (by exact yieldsC_skip (wanted_gF 38 true 118 rfl rfl (HF.at (by decide) 0 rfl))) ?_
            replace HF := HF.put 119 (undef) (by decide) rfl
            generalize hB40_119 : Act.put _ _ _ = A at HF ⊢
            refine anyC_takeD (i := 40) (v := undef) (some 120) rfl rfl (by kernel_rfl) (by kernel_rfl) (by kernel_rfl) (fun c a w => FINQ c a _ _ w) (KC.out _ M8.out) (by exact yieldsC_skip (wanted_gF 38 true 118 rfl rfl (HF.at (by decide) 1 rfl))) ?_
            replace HF := HF.put 120 (undef) (by decide) rfl
            generalize hB41_120 : Act.put _ _ _ = A at HF ⊢
            refine anyC_takeD (i := 41) (v := undef) (some 121) rfl rfl (by kernel_rfl) (by kernel_rfl) (by kernel_rfl) (fun c a w => FINQ c a _ _ w) (KC.out _ M8.out) (by exact yieldsC_skip (wanted_gF 38 true 118 rfl rfl (HF.at (by decide) 2 rfl))) ?_
            replace HF := HF.put 121 (undef) (by decide) rfl
            generalize hB42_121 : Act.put _ _ _ = A at HF ⊢
            refine anyC_takeD (i := 42) (v := undef) (some 122) rfl rfl (by kernel_rfl) (by kernel_rfl) (by kernel_rfl) (fun c a w => FINQ c a _ _ w) (KC.out _ M8.out) (by exact yieldsC_skip (wanted_gF 38 true 118 rfl rfl (HF.at (by decide) 3 rfl))) ?_
            replace HF := HF.put 122 (undef) (by decide) rfl
            generalize hB43_122 : Act.put _ _ _ = A at HF ⊢
            refine anyC_takeD (i := 43) (v := undef) (some 123) rfl rfl (by kernel_rfl) (by kernel_rfl) (by kernel_rfl) (fun c a w => FINQ c a _ _ w) (KC.out _ M8.out) (by exact yieldsC_skip (wanted_gF 38 true 118 rfl rfl (HF.at (by decide) 4 rfl))) ?_
            replace HF := HF.put 123 (undef) (by decide) rfl
            generalize hB44_123 : Act.put _ _ _ = A at HF ⊢
            refine anyC_takeD (i := 44) (v := undef) (some 124) rfl rfl (by kernel_rfl) (by kernel_rfl) (by kernel_rfl) (fun c a w => FINQ c a _ _ w) (KC.out _ M8.out) (by exact yieldsC_skip (wanted_gF 38 true 118 rfl rfl (HF.at (by decide) 5 rfl))) ?_
            replace HF := HF.put 124 (undef) (by decide) rfl
            generalize hB45_124 : Act.put _ _ _ = A at HF ⊢
            refine anyC_takeD (i := 45) (v := undef) (some 125) rfl rfl (by kernel_rfl) (by kernel_rfl) (by kernel_rfl) (fun c a w => FINQ c a _ _ w) (KC.out _ M8.out) (by exact yieldsC_skip (wanted_gF 38 true 118 rfl rfl (HF.at (by decide) 6 rfl))) ?_
            replace HF := HF.put 125 (undef) (by decide) rfl
            generalize hB46_125 : Act.put _ _ _ = A at HF ⊢
            refine anyC_takeD (i := 46) (v := undef) (some 126) rfl rfl (by kernel_rfl) (by kernel_rfl) (by kernel_rfl) (fun c a w => FINQ c a _ _ w) (KC.out _ M8.out) (by exact yieldsC_skip (wanted_gF 38 true 118 rfl rfl (HF.at (by decide) 7 rfl))) ?_
            replace HF := HF.put 126 (undef) (by decide) rfl
            generalize hB47_126 : Act.put _ _ _ = A at HF ⊢
            refine anyC_takeD (i := 47) (v := undef) (some 127) rfl rfl (by kernel_rfl) (by kernel_rfl) (by kernel_rfl) (fun c a w => FINQ c a _ _ w) (KC.out _ M8.out) (by exact yieldsC_skip (wanted_gF 38 true 118 rfl rfl (HF.at (by decide) 8 rfl))) ?_
            replace HF := HF.put 127 (undef) (by decide) rfl
            generalize hB48_127 : Act.put _ _ _ = A at HF ⊢
            refine anyC_takeD (i := 48) (v := undef) (some 128) rfl rfl (by kernel_rfl) (by kernel_rfl) (by kernel_rfl) (fun c a w => FINQ c a _ _ w) (KC.out _ M8.out) (by exact yieldsC_skip (wanted_gF 38 true 118 rfl rfl (HF.at (by decide) 9 rfl))) ?_
            replace HF := HF.put 128 (undef) (by decide) rfl
            generalize hB49_128 : Act.put _ _ _ = A at HF ⊢
            refine anyC_takeD (i := 49) (v := undef) (some 129) rfl rfl (by kernel_rfl) (by kernel_rfl) (by kernel_rfl) (fun c a w => FINQ c a _ _ w) (KC.out _ M8.out) (by exact yieldsC_skip (wanted_gF 38 true 118 rfl rfl (HF.at (by decide) 10 rfl))) ?_
            replace HF := HF.put 129 (undef) (by decide) rfl
            generalize hB50_129 : Act.put _ _ _ = A at HF ⊢
            refine anyC_takeD (i := 50) (v := undef) (some 130) rfl rfl (by kernel_rfl) (by kernel_rfl) (by kernel_rfl) (fun c a w => FINQ c a _ _ w) (KC.out _ M8.out) (by exact yieldsC_skip (wanted_gF 38 true 118 rfl rfl (HF.at (by decide) 11 rfl))) ?_
            replace HF := HF.put 130 (undef) (by decide) rfl
            generalize hB51_130 : Act.put _ _ _ = A at HF ⊢
            refine anyC_takeD (i := 51) (v := undef) (some 131) rfl rfl (by kernel_rfl) (by kernel_rfl) (by kernel_rfl) (fun c a w => FINQ c a _ _ w) (KC.out _ M8.out) (by exact yieldsC_skip (wanted_gF 38 true 118 rfl rfl (HF.at (by decide) 12 rfl))) ?_
            replace HF := HF.put 131 (undef) (by decide) rfl
            generalize hB52_131 : Act.put _ _ _ = A at HF ⊢
            refine anyC_takeD (i := 52) (v := (.bool false)) (some 132) rfl rfl (by kernel_rfl) (by kernel_rfl) (by kernel_rfl) (fun c a w => FINQ c a _ _ w) (KC.out _ M8.out) (by exact yieldsC_pickF (wanted_g 35 false 115 rfl rfl (HF.at (by decide) 16 rfl)) rfl (HF.get 13 rfl) rfl) ?_
            replace HF := HF.put 132 ((.bool false)) (by decide) rfl
            generalize hB53_132 : Act.put _ _ _ = A at HF ⊢
            refine anyC_takeD (i := 53) (v := (.bool false)) (some 133) rfl rfl (by kernel_rfl) (by kernel_rfl) (by kernel_rfl) (fun c a w => FINQ c a _ _ w) (KC.out _ M8.out) (by exact yieldsC_pickF (wanted_none rfl) rfl (HF.get 17 rfl) (HF.get 0 rfl)) ?_
            replace HF := HF.put 133 ((.bool false)) (by decide) rfl
            generalize hB54_133 : Act.put _ _ _ = A at HF ⊢
            exact anyC_done (by kernel_rfl) (FINE _ _ ⟨(.int .i64 P), (.bool false), (.bool false), (.int .i64 P), (.slice (some ⟨gi, 0, none⟩) ins.length ci), (.int .i64 (ins.length : Int)), (.bool false), (.bool false), (.bool false), (.slice (some ⟨gz, 0, none⟩) n cz), (.agg d.arr), (.int .i64 P), (.int .i64 (j : Int)), (.bool true), (.int .i64 (b4 : Int)), (.pointer (some ⟨gz, b4, none⟩)), (.int .i64 vz), (.bool true), (.bool false), (.bool false), (.bool false), (.slice (some ⟨gz, 0, none⟩) n cz), (.agg d.arr), (.int .i64 P), (.int .i64 (j : Int)), (.int .i64 ((j : Int) + 1)), (.slice (some ⟨gx, 0, none⟩) xs.length cx), (.int .i64 (xs.length : Int)), (.bool bE), (.int .i64 (b3 : Int)), (.pointer (some ⟨gz, b3, none⟩)), (.int .i64 vn), (.bool bE), (.bool false), (.bool false), (.bool false), (.int .i64 (j : Int)), (.bool false), (.bool false), (undef), (undef), (undef), (undef), (undef), (undef), (undef), (undef), (undef), (undef), (undef), (undef), (undef), ((.bool false)), by rw [← hB54_133, ← hB53_132, ← hB52_131, ← hB51_130, ← hB50_129, ← hB49_128, ← hB48_127, ← hB47_126, ← hB46_125, ← hB45_124, ← hB44_123, ← hB43_122, ← hB42_121, ← hB41_120, ← hB40_119, ← hB39_118, ← hB38_117, ← hB37_116, ← hB36_115, ← hB35_114, ← hB34_113, ← hB33_107, ← hB32_106, ← hB31_105, ← hB30_104, ← hB29_112, ← hB28_111, ← hB27_110, ← hB26_109, ← hB25_108, ← hB24_103, ← hB23_102, ← hB22_101, ← hB21_100, ← hB20_99, ← hB19_98, ← hB18_95, ← hB17_94, ← hB16_93, ← hB15_92, ← hB14_97, ← hB13_96, ← hB12_91, ← hB11_90, ← hB10_89, ← hB9_88, ← hB8_87, ← hB7_86, ← hB6_85, ← hB5_84, ← hB4_83, ← hB3_82, ← hB2_81, ← hB1_80], M8.out⟩)
          · obtain ⟨j1, hj1⟩ : ∃ j1, j - 1 = j1 := ⟨_, rfl⟩
            obtain ⟨u, hu⟩ : ∃ u, xs.getD j1 0 = u := ⟨_, rfl⟩
            have hj1l : j1 < xs.length := by omega
            have hub := hall j1 hj1l
            rw [if_neg hj0, hj1, hu] at hv4
            rw [hu] at hub
            have hpg : d.pg ≤ 100000 := by have := HH.out.pg2; have := HH.out.top62; have := HH.out.st1; omega
            have X2 := Lib.hid (show (vz == 0) = false by simpa using (show ¬ vz = 0 by omega))
            have X3 := Lib.hid (show ((j : Int) == 0) = false by simpa using hj0)
            have X7 := Lib.hid (show decide ((0 : Int) < (j : Int)) = true by simp; omega)
            have X8 := Lib.hid (show IntKind.i64.wrap ((j : Int) - 1) = ((j1 : Nat) : Int) by rw [wrap_in (by omega) (by omega)]; omega)
            have HJ1 := Lib.hid hj1l
            have CX : Hid (∀ W, AgR d w2.heap.size w4b.heap.size gz cz gx cx zs xs W → W.cell? ⟨gx, j1, none⟩ = some (.int .i64 u)) := Lib.hid fun W hW => by rw [← hu]; exact hW.hx.cell hj1l
            have X9 := Lib.hid (show IntKind.i64.wrap (u + 1) = u + 1 from wrap_in (by omega) (by omega))
            have X10 := Lib.hid (show (vz != (u + 1)) = false by rw [hv4]; simp)
            clear hv4 hall hj0 hvz hx6 ht hj1 hu hub hj1l
            go_wp2_with fail
            clear c14 x1
            refine wp_region_anyC (AgR d w2.heap.size w4b.heap.size gz cz gx cx zs xs) (by kernel_rfl) ?_
            change anyC _ _ _ _ _ _ _ _ (wr.drewN 1)
            have MR := Lib.hid (MW.out.trans ((More.refl wr).drewN 1))
            generalize wr.drewN 1 = wq at MR ⊢
            generalize hA : Act.mk _ _ = A
            have HF : AG 139 A [(9, .pointer (some ⟨w2.heap.size, 0, none⟩)), (10, .slice (some ⟨gz, 0, none⟩) n cz), (11, .slice (some ⟨gi, 0, none⟩) ins.length ci), (14, .pointer (some ⟨w4b.heap.size, 0, none⟩)), (18, .int .i64 (j : Int)), (19, .int .i64 P)] := by
              rw [← hA]
              refine ⟨⟨Nat.le_of_ble_eq_true rfl, rfl⟩, ?_⟩
              intro z hz; simp only [List.mem_cons, List.not_mem_nil, or_false] at hz; rcases hz with rfl | rfl | rfl | rfl | rfl | rfl <;> rfl
            refine anyC_start (fun a W => ∃ (u80 u81 u82 u83 u84 u85 u86 u87 u88 u89 u90 u91 u96 u97 u92 u93 u94 u95 u98 u99 u100 u101 u102 u103 u108 u109 u110 u111 u112 u104 u105 u106 u107 u113 u114 u115 u116 u117 u118 u119 u120 u121 u125 u126 u127 u128 u129 u130 u122 u123 u124 u131 u132 : Value), a = (Act.put (Act.put (Act.put (Act.put (Act.put (Act.put (Act.put (Act.put (Act.put (Act.put (Act.put (Act.put (Act.put (Act.put (Act.put (Act.put (Act.put (Act.put (Act.put (Act.put (Act.put (Act.put (Act.put (Act.put (Act.put (Act.put (Act.put (Act.put (Act.put (Act.put (Act.put (Act.put (Act.put (Act.put (Act.put (Act.put (Act.put (Act.put (Act.put (Act.put (Act.put (Act.put (Act.put (Act.put (Act.put (Act.put (Act.put (Act.put (Act.put (Act.put (Act.put (Act.put (Act.put (Act.put A (some 80) u80) (some 81) u81) (some 82) u82) (some 83) u83) (some 84) u84) (some 85) u85) (some 86) u86) (some 87) u87) (some 88) u88) (some 89) u89) (some 90) u90) (some 91) u91) (some 96) u96) (some 97) u97) (some 92) u92) (some 93) u93) (some 94) u94) (some 95) u95) (some 98) u98) (some 99) u99) (some 100) u100) (some 101) u101) (some 102) u102) (some 103) u103) (some 108) u108) (some 109) u109) (some 110) u110) (some 111) u111) (some 112) u112) (some 104) u104) (some 105) u105) (some 106) u106) (some 107) u107) (some 113) u113) (some 114) u114) (some 115) u115) (some 116) u116) (some 117) u117) (some 118) u118) (some 119) u119) (some 120) u120) (some 121) u121) (some 125) u125) (some 126) u126) (some 127) u127) (some 128) u128) (some 129) u129) (some 130) u130) (some 122) u122) (some 123) u123) (some 124) u124) (some 131) u131) (some 132) u132) (some 133) (.bool false)) ∧ More w6 W) (fun _ => False) [] (fun a W hd h => h.elim) (fun _ _ _ _ _ h => h) ?_ ?_
            · skip
              rintro a9 wa ⟨u80, u81, u82, u83, u84, u85, u86, u87, u88, u89, u90, u91, u96, u97, u92, u93, u94, u95, u98, u99, u100, u101, u102, u103, u108, u109, u110, u111, u112, u104, u105, u106, u107, u113, u114, u115, u116, u117, u118, u119, u120, u121, u125, u126, u127, u128, u129, u130, u122, u123, u124, u131, u132, rfl, MS⟩
              rw [← hA]
              replace MS := Lib.hid MS
              clear HF hA MR KC CZ3 CZ4 AGX
              go_simp
              go_wp2_with fail
              go_roundw
              case rel => exact ⟨j + 1, by go_num, by omega, MS.out⟩
              case measure => simp [intOf]; omega
            intro QQ FINE FIND FINQ
            clear hA
            refine anyC_takeD (i := 0) (v := .int .i64 P) (some 80) rfl rfl (by kernel_rfl) (by kernel_rfl) (by kernel_rfl) (fun c a w => FINQ c a _ _ w) (KC.out _ MR.out) (by exact yieldsC_moveG (wanted_none rfl) _ rfl (HF.get 5 rfl)) ?_
            replace HF := HF.put 80 (.int .i64 P) (by decide) rfl
            generalize hB1_80 : Act.put _ _ _ = A at HF ⊢
            refine anyC_takeD (i := 1) (v := .bool false) (some 81) rfl rfl (by kernel_rfl) (by kernel_rfl) (by kernel_rfl) (fun c a w => FINQ c a _ _ w) (KC.out _ MR.out) (by exact yieldsC_lssI (wanted_none rfl) rfl (HF.get 0 rfl) rfl false X0.out) ?_
            replace HF := HF.put 81 (.bool false) (by decide) rfl
            generalize hB2_81 : Act.put _ _ _ = A at HF ⊢
            refine anyC_takeD (i := 2) (v := .bool false) (some 82) rfl rfl (by kernel_rfl) (by kernel_rfl) (by kernel_rfl) (fun c a w => FINQ c a _ _ w) (KC.out _ MR.out) (by exact yieldsC_moveG (wanted_none rfl) _ rfl (HF.get 0 rfl)) ?_
            replace HF := HF.put 82 (.bool false) (by decide) rfl
            generalize hB3_82 : Act.put _ _ _ = A at HF ⊢
            refine anyC_takeD (i := 3) (v := .int .i64 P) (some 83) rfl rfl (by kernel_rfl) (by kernel_rfl) (by kernel_rfl) (fun c a w => FINQ c a _ _ w) (KC.out _ MR.out) (by exact yieldsC_moveG (wanted_g 2 false 82 rfl rfl (HF.at (by decide) 0 rfl)) _ rfl (HF.get 8 rfl)) ?_
            replace HF := HF.put 83 (.int .i64 P) (by decide) rfl
            generalize hB4_83 : Act.put _ _ _ = A at HF ⊢
            refine anyC_takeD (i := 4) (v := .slice (some ⟨gi, 0, none⟩) ins.length ci) (some 84) rfl rfl (by kernel_rfl) (by kernel_rfl) (by kernel_rfl) (fun c a w => FINQ c a _ _ w) (KC.out _ MR.out) (by exact yieldsC_moveG (wanted_g 2 false 82 rfl rfl (HF.at (by decide) 1 rfl)) _ rfl (HF.get 6 rfl)) ?_
            replace HF := HF.put 84 (.slice (some ⟨gi, 0, none⟩) ins.length ci) (by decide) rfl
            generalize hB5_84 : Act.put _ _ _ = A at HF ⊢
            refine anyC_takeD (i := 5) (v := .int .i64 (ins.length : Int)) (some 85) rfl rfl (by kernel_rfl) (by kernel_rfl) (by kernel_rfl) (fun c a w => FINQ c a _ _ w) (KC.out _ MR.out) (by exact (Or.inl ⟨(wanted_g 2 false 82 rfl rfl (HF.at (by decide) 2 rfl)), fun W hW => by have h5 := (HF.getD 0 rfl); go_simp⟩)) ?_
            replace HF := HF.put 85 (.int .i64 (ins.length : Int)) (by decide) rfl
            generalize hB6_85 : Act.put _ _ _ = A at HF ⊢
            refine anyC_takeD (i := 6) (v := .bool false) (some 86) rfl rfl (by kernel_rfl) (by kernel_rfl) (by kernel_rfl) (fun c a w => FINQ c a _ _ w) (KC.out _ MR.out) (by exact yieldsC_geqI (wanted_g 2 false 82 rfl rfl (HF.at (by decide) 3 rfl)) rfl (HF.get 2 rfl) (HF.get 0 rfl) false X1.out) ?_
            replace HF := HF.put 86 (.bool false) (by decide) rfl
            generalize hB7_86 : Act.put _ _ _ = A at HF ⊢
            refine anyC_takeD (i := 7) (v := .bool false) (some 87) rfl rfl (by kernel_rfl) (by kernel_rfl) (by kernel_rfl) (fun c a w => FINQ c a _ _ w) (KC.out _ MR.out) (by exact yieldsC_pickF (wanted_none rfl) rfl (HF.get 4 rfl) (HF.get 0 rfl)) ?_
            replace HF := HF.put 87 (.bool false) (by decide) rfl
            generalize hB8_87 : Act.put _ _ _ = A at HF ⊢
            refine anyC_takeD (i := 8) (v := .bool false) (some 88) rfl rfl (by kernel_rfl) (by kernel_rfl) (by kernel_rfl) (fun c a w => FINQ c a _ _ w) (KC.out _ MR.out) (by exact yieldsC_moveG (wanted_none rfl) _ rfl (HF.get 0 rfl)) ?_
            replace HF := HF.put 88 (.bool false) (by decide) rfl
            generalize hB9_88 : Act.put _ _ _ = A at HF ⊢
            refine anyC_takeD (i := 9) (v := .slice (some ⟨gz, 0, none⟩) n cz) (some 89) rfl rfl (by kernel_rfl) (by kernel_rfl) (by kernel_rfl) (fun c a w => FINQ c a _ _ w) (KC.out _ MR.out) (by exact yieldsC_moveG (wanted_g 8 false 88 rfl rfl (HF.at (by decide) 0 rfl)) _ rfl (HF.get 10 rfl)) ?_
            replace HF := HF.put 89 (.slice (some ⟨gz, 0, none⟩) n cz) (by decide) rfl
            generalize hB10_89 : Act.put _ _ _ = A at HF ⊢
            refine anyC_takeD (i := 10) (v := .agg d.arr) (some 90) rfl rfl (by kernel_rfl) (by kernel_rfl) (by kernel_rfl) (fun c a w => FINQ c a _ _ w) (KC.out _ MR.out) (by exact yieldsC_row (C := (AgR d w2.heap.size w4b.heap.size gz cz gx cx zs xs)) (wanted_g 8 false 88 rfl rfl (HF.at (by decide) 1 rfl)) 28 _ rfl w2.heap.size (HF.get 10 rfl) 28 _ _ _ (fun W hW => hW.h1) Try.underlying28 rfl (by kernel_rfl)) ?_
            replace HF := HF.put 90 (.agg d.arr) (by decide) rfl
            generalize hB11_90 : Act.put _ _ _ = A at HF ⊢
            refine anyC_takeD (i := 11) (v := .int .i64 P) (some 91) rfl rfl (by kernel_rfl) (by kernel_rfl) (by kernel_rfl) (fun c a w => FINQ c a _ _ w) (KC.out _ MR.out) (by exact yieldsC_moveG (wanted_g 8 false 88 rfl rfl (HF.at (by decide) 2 rfl)) _ rfl (HF.get 16 rfl)) ?_
            replace HF := HF.put 91 (.int .i64 P) (by decide) rfl
            generalize hB12_91 : Act.put _ _ _ = A at HF ⊢
            refine anyC_takeD (i := 16) (v := .int .i64 (j : Int)) (some 96) rfl rfl (by kernel_rfl) (by kernel_rfl) (by kernel_rfl) (fun c a w => FINQ c a _ _ w) (KC.out _ MR.out) (by exact yieldsC_moveG (wanted_g 8 false 88 rfl rfl (HF.at (by decide) 3 rfl)) _ rfl (HF.get 16 rfl)) ?_
            replace HF := HF.put 96 (.int .i64 (j : Int)) (by decide) rfl
            generalize hB13_96 : Act.put _ _ _ = A at HF ⊢
            refine anyC_takeD (i := 17) (v := .bool false) (some 97) rfl rfl (by kernel_rfl) (by kernel_rfl) (by kernel_rfl) (fun c a w => FINQ c a _ _ w) (KC.out _ MR.out) (by exact yieldsC_eqI (wanted_g 8 false 88 rfl rfl (HF.at (by decide) 4 rfl)) rfl (HF.get 0 rfl) rfl false X3.out) ?_
            replace HF := HF.put 97 (.bool false) (by decide) rfl
            generalize hB14_97 : Act.put _ _ _ = A at HF ⊢
            refine anyC_oneK (i := 12) (some 92) (by kernel_rfl) rfl (wanted_g 8 false 88 rfl rfl (HF.at (by decide) 5 rfl)) rfl (fun K hK => ?_)
            refine wp_call2 (v0 := .agg d.arr) (v1 := .int .i64 P) rfl (HF.get 3 rfl) (HF.get 2 rfl) (enters_of Try.func26 (by kernel_rfl) rfl) ?_
            refine (y_prev SS.out.ok wq P).mono ?_
            rw [P4.out]
            rintro e w7 ⟨rfl, h7⟩
            have M7 := Lib.hid (MR.out.trans h7)
            clear h7
            refine hK _ _ (KC.out _ M7.out) ?_
            clear hK K
            replace HF := HF.put 92 (.int .i64 (b4 : Int)) (by decide) rfl
            generalize hB15_92 : Act.put _ _ _ = A at HF ⊢
            refine anyC_takeD (i := 13) (v := .pointer (some ⟨gz, b4, none⟩)) (some 93) rfl rfl (by kernel_rfl) (by kernel_rfl) (by kernel_rfl) (fun c a w => FINQ c a _ _ w) (KC.out _ M7.out) (by exact yieldsC_indexI (wanted_g 8 false 88 rfl rfl (HF.at (by decide) 6 rfl)) rfl (HF.get 5 rfl) (HF.get 0 rfl) hb4) ?_
            replace HF := HF.put 93 (.pointer (some ⟨gz, b4, none⟩)) (by decide) rfl
            generalize hB16_93 : Act.put _ _ _ = A at HF ⊢
            refine anyC_takeD (i := 14) (v := .int .i64 vz) (some 94) rfl rfl (by kernel_rfl) (by kernel_rfl) (by kernel_rfl) (fun c a w => FINQ c a _ _ w) (KC.out _ M7.out) (by exact yieldsC_cell (C := (AgR d w2.heap.size w4b.heap.size gz cz gx cx zs xs)) (wanted_g 8 false 88 rfl rfl (HF.at (by decide) 7 rfl)) 3 _ rfl gz b4 (HF.get 0 rfl) (.int .i64 vz) _ Try.underlying3 rfl (fun W hW => CZ4.out W hW)) ?_
            replace HF := HF.put 94 (.int .i64 vz) (by decide) rfl
            generalize hB17_94 : Act.put _ _ _ = A at HF ⊢
            refine anyC_takeD (i := 15) (v := .bool false) (some 95) rfl rfl (by kernel_rfl) (by kernel_rfl) (by kernel_rfl) (fun c a w => FINQ c a _ _ w) (KC.out _ M7.out) (by exact yieldsC_eqI (wanted_g 8 false 88 rfl rfl (HF.at (by decide) 8 rfl)) rfl (HF.get 0 rfl) rfl false X2.out) ?_
            replace HF := HF.put 95 (.bool false) (by decide) rfl
            generalize hB18_95 : Act.put _ _ _ = A at HF ⊢
            refine anyC_takeD (i := 18) (v := .bool false) (some 98) rfl rfl (by kernel_rfl) (by kernel_rfl) (by kernel_rfl) (fun c a w => FINQ c a _ _ w) (KC.out _ M7.out) (by exact yieldsC_neqB (wanted_g 8 false 88 rfl rfl (HF.at (by decide) 9 rfl)) rfl (HF.get 0 rfl) (HF.get 4 rfl)) ?_
            replace HF := HF.put 98 (.bool false) (by decide) rfl
            generalize hB19_98 : Act.put _ _ _ = A at HF ⊢
            refine anyC_takeD (i := 19) (v := .bool false) (some 99) rfl rfl (by kernel_rfl) (by kernel_rfl) (by kernel_rfl) (fun c a w => FINQ c a _ _ w) (KC.out _ M7.out) (by exact yieldsC_pickF (wanted_none rfl) rfl (HF.get 10 rfl) (HF.get 0 rfl)) ?_
            replace HF := HF.put 99 (.bool false) (by decide) rfl
            generalize hB20_99 : Act.put _ _ _ = A at HF ⊢
            refine anyC_takeD (i := 20) (v := .bool false) (some 100) rfl rfl (by kernel_rfl) (by kernel_rfl) (by kernel_rfl) (fun c a w => FINQ c a _ _ w) (KC.out _ M7.out) (by exact yieldsC_moveG (wanted_none rfl) _ rfl (HF.get 0 rfl)) ?_
            replace HF := HF.put 100 (.bool false) (by decide) rfl
            generalize hB21_100 : Act.put _ _ _ = A at HF ⊢
            refine anyC_takeD (i := 21) (v := .slice (some ⟨gz, 0, none⟩) n cz) (some 101) rfl rfl (by kernel_rfl) (by kernel_rfl) (by kernel_rfl) (fun c a w => FINQ c a _ _ w) (KC.out _ M7.out) (by exact yieldsC_moveG (wanted_g 20 false 100 rfl rfl (HF.at (by decide) 0 rfl)) _ rfl (HF.get 22 rfl)) ?_
            replace HF := HF.put 101 (.slice (some ⟨gz, 0, none⟩) n cz) (by decide) rfl
            generalize hB22_101 : Act.put _ _ _ = A at HF ⊢
            refine anyC_takeD (i := 22) (v := .agg d.arr) (some 102) rfl rfl (by kernel_rfl) (by kernel_rfl) (by kernel_rfl) (fun c a w => FINQ c a _ _ w) (KC.out _ M7.out) (by exact yieldsC_row (C := (AgR d w2.heap.size w4b.heap.size gz cz gx cx zs xs)) (wanted_g 20 false 100 rfl rfl (HF.at (by decide) 1 rfl)) 28 _ rfl w2.heap.size (HF.get 22 rfl) 28 _ _ _ (fun W hW => hW.h1) Try.underlying28 rfl (by kernel_rfl)) ?_
            replace HF := HF.put 102 (.agg d.arr) (by decide) rfl
            generalize hB23_102 : Act.put _ _ _ = A at HF ⊢
            refine anyC_takeD (i := 23) (v := .int .i64 P) (some 103) rfl rfl (by kernel_rfl) (by kernel_rfl) (by kernel_rfl) (fun c a w => FINQ c a _ _ w) (KC.out _ M7.out) (by exact yieldsC_moveG (wanted_g 20 false 100 rfl rfl (HF.at (by decide) 2 rfl)) _ rfl (HF.get 28 rfl)) ?_
            replace HF := HF.put 103 (.int .i64 P) (by decide) rfl
            generalize hB24_103 : Act.put _ _ _ = A at HF ⊢
            refine anyC_takeD (i := 28) (v := .int .i64 (j : Int)) (some 108) rfl rfl (by kernel_rfl) (by kernel_rfl) (by kernel_rfl) (fun c a w => FINQ c a _ _ w) (KC.out _ M7.out) (by exact yieldsC_moveG (wanted_g 20 false 100 rfl rfl (HF.at (by decide) 3 rfl)) _ rfl (HF.get 28 rfl)) ?_
            replace HF := HF.put 108 (.int .i64 (j : Int)) (by decide) rfl
            generalize hB25_108 : Act.put _ _ _ = A at HF ⊢
            refine anyC_takeD (i := 29) (v := .int .i64 ((j : Int) + 1)) (some 109) rfl rfl (by kernel_rfl) (by kernel_rfl) (by kernel_rfl) (fun c a w => FINQ c a _ _ w) (KC.out _ M7.out) (by exact yieldsC_addI (wanted_g 20 false 100 rfl rfl (HF.at (by decide) 4 rfl)) rfl (HF.get 0 rfl) rfl _ X5.out) ?_
            replace HF := HF.put 109 (.int .i64 ((j : Int) + 1)) (by decide) rfl
            generalize hB26_109 : Act.put _ _ _ = A at HF ⊢
            refine anyC_takeD (i := 30) (v := .slice (some ⟨gx, 0, none⟩) xs.length cx) (some 110) rfl rfl (by kernel_rfl) (by kernel_rfl) (by kernel_rfl) (fun c a w => FINQ c a _ _ w) (KC.out _ M7.out) (by exact yieldsC_cell (C := (AgR d w2.heap.size w4b.heap.size gz cz gx cx zs xs)) (wanted_g 20 false 100 rfl rfl (HF.at (by decide) 5 rfl)) 29 _ rfl w4b.heap.size 0 (HF.get 29 rfl) (.slice (some ⟨gx, 0, none⟩) xs.length cx) _ Try.underlying29 rfl (fun W hW => (box_cells hW.h4).1)) ?_
            replace HF := HF.put 110 (.slice (some ⟨gx, 0, none⟩) xs.length cx) (by decide) rfl
            generalize hB27_110 : Act.put _ _ _ = A at HF ⊢
            refine anyC_takeD (i := 31) (v := .int .i64 (xs.length : Int)) (some 111) rfl rfl (by kernel_rfl) (by kernel_rfl) (by kernel_rfl) (fun c a w => FINQ c a _ _ w) (KC.out _ M7.out) (by exact (Or.inl ⟨(wanted_g 20 false 100 rfl rfl (HF.at (by decide) 6 rfl)), fun W hW => by have h5 := (HF.getD 0 rfl); go_simp⟩)) ?_
            replace HF := HF.put 111 (.int .i64 (xs.length : Int)) (by decide) rfl
            generalize hB28_111 : Act.put _ _ _ = A at HF ⊢
            refine anyC_takeD (i := 32) (v := .bool bE) (some 112) rfl rfl (by kernel_rfl) (by kernel_rfl) (by kernel_rfl) (fun c a w => FINQ c a _ _ w) (KC.out _ M7.out) (by exact yieldsC_eqI (wanted_g 20 false 100 rfl rfl (HF.at (by decide) 7 rfl)) rfl (HF.get 2 rfl) (HF.get 0 rfl) bE X6.out) ?_
            replace HF := HF.put 112 (.bool bE) (by decide) rfl
            generalize hB29_112 : Act.put _ _ _ = A at HF ⊢
            refine anyC_oneK (i := 24) (some 104) (by kernel_rfl) rfl (wanted_g 20 false 100 rfl rfl (HF.at (by decide) 8 rfl)) rfl (fun K hK => ?_)
            refine wp_call2 (v0 := .agg d.arr) (v1 := .int .i64 P) rfl (HF.get 6 rfl) (HF.get 5 rfl) (enters_of Try.func25 (by kernel_rfl) rfl) ?_
            refine (y_next SS.out.ok w7 P).mono ?_
            rw [P3.out]
            rintro e w8 ⟨rfl, h8⟩
            have M8 := Lib.hid (M7.out.trans h8)
            clear h8
            refine hK _ _ (KC.out _ M8.out) ?_
            clear hK K
            replace HF := HF.put 104 (.int .i64 (b3 : Int)) (by decide) rfl
            generalize hB30_104 : Act.put _ _ _ = A at HF ⊢
            refine anyC_takeD (i := 25) (v := .pointer (some ⟨gz, b3, none⟩)) (some 105) rfl rfl (by kernel_rfl) (by kernel_rfl) (by kernel_rfl) (fun c a w => FINQ c a _ _ w) (KC.out _ M8.out) (by exact yieldsC_indexI (wanted_g 20 false 100 rfl rfl (HF.at (by decide) 9 rfl)) rfl (HF.get 8 rfl) (HF.get 0 rfl) hb3) ?_
            replace HF := HF.put 105 (.pointer (some ⟨gz, b3, none⟩)) (by decide) rfl
            generalize hB31_105 : Act.put _ _ _ = A at HF ⊢
            refine anyC_takeD (i := 26) (v := .int .i64 vn) (some 106) rfl rfl (by kernel_rfl) (by kernel_rfl) (by kernel_rfl) (fun c a w => FINQ c a _ _ w) (KC.out _ M8.out) (by exact yieldsC_cell (C := (AgR d w2.heap.size w4b.heap.size gz cz gx cx zs xs)) (wanted_g 20 false 100 rfl rfl (HF.at (by decide) 10 rfl)) 3 _ rfl gz b3 (HF.get 0 rfl) (.int .i64 vn) _ Try.underlying3 rfl (fun W hW => CZ3.out W hW)) ?_
            replace HF := HF.put 106 (.int .i64 vn) (by decide) rfl
            generalize hB32_106 : Act.put _ _ _ = A at HF ⊢
            refine anyC_takeD (i := 27) (v := .bool bE) (some 107) rfl rfl (by kernel_rfl) (by kernel_rfl) (by kernel_rfl) (fun c a w => FINQ c a _ _ w) (KC.out _ M8.out) (by exact yieldsC_eqI (wanted_g 20 false 100 rfl rfl (HF.at (by decide) 11 rfl)) rfl (HF.get 0 rfl) rfl bE X4.out) ?_
            replace HF := HF.put 107 (.bool bE) (by decide) rfl
            generalize hB33_107 : Act.put _ _ _ = A at HF ⊢
            refine anyC_takeD (i := 33) (v := .bool false) (some 113) rfl rfl (by kernel_rfl) (by kernel_rfl) (by kernel_rfl) (fun c a w => FINQ c a _ _ w) (KC.out _ M8.out) (by exact yieldsC_neqB (wanted_g 20 false 100 rfl rfl (HF.at (by decide) 12 rfl)) rfl (HF.get 0 rfl) (HF.get 4 rfl)) ?_
            replace HF := HF.put 113 (.bool false) (by decide) rfl
            generalize hB34_113 : Act.put _ _ _ = A at HF ⊢
            refine anyC_takeD (i := 34) (v := .bool false) (some 114) rfl rfl (by kernel_rfl) (by kernel_rfl) (by kernel_rfl) (fun c a w => FINQ c a _ _ w) (KC.out _ M8.out) (by exact yieldsC_pickF (wanted_none rfl) rfl (HF.get 13 rfl) (HF.get 0 rfl)) ?_
            replace HF := HF.put 114 (.bool false) (by decide) rfl
            generalize hB35_114 : Act.put _ _ _ = A at HF ⊢
            refine anyC_takeD (i := 35) (v := .bool false) (some 115) rfl rfl (by kernel_rfl) (by kernel_rfl) (by kernel_rfl) (fun c a w => FINQ c a _ _ w) (KC.out _ M8.out) (by exact yieldsC_moveG (wanted_none rfl) _ rfl (HF.get 0 rfl)) ?_
            replace HF := HF.put 115 (.bool false) (by decide) rfl
            generalize hB36_115 : Act.put _ _ _ = A at HF ⊢
            refine anyC_takeD (i := 36) (v := .int .i64 (j : Int)) (some 116) rfl rfl (by kernel_rfl) (by kernel_rfl) (by kernel_rfl) (fun c a w => FINQ c a _ _ w) (KC.out _ M8.out) (by exact yieldsC_moveG (wanted_g 35 false 115 rfl rfl (HF.at (by decide) 0 rfl)) _ rfl (HF.get 40 rfl)) ?_
            replace HF := HF.put 116 (.int .i64 (j : Int)) (by decide) rfl
            generalize hB37_116 : Act.put _ _ _ = A at HF ⊢
            refine anyC_takeD (i := 37) (v := .bool true) (some 117) rfl rfl (by kernel_rfl) (by kernel_rfl) (by kernel_rfl) (fun c a w => FINQ c a _ _ w) (KC.out _ M8.out) (by exact yieldsC_gtrI (wanted_g 35 false 115 rfl rfl (HF.at (by decide) 1 rfl)) rfl (HF.get 0 rfl) rfl true X7.out) ?_
            replace HF := HF.put 117 (.bool true) (by decide) rfl
            generalize hB38_117 : Act.put _ _ _ = A at HF ⊢
            refine anyC_takeD (i := 38) (v := .bool true) (some 118) rfl rfl (by kernel_rfl) (by kernel_rfl) (by kernel_rfl) (fun c a w => FINQ c a _ _ w) (KC.out _ M8.out) (by exact yieldsC_moveG (wanted_g 35 false 115 rfl rfl (HF.at (by decide) 2 rfl)) _ rfl (HF.get 0 rfl)) ?_
            replace HF := HF.put 118 (.bool true) (by decide) rfl
            generalize hB39_118 : Act.put _ _ _ = A at HF ⊢
            refine anyC_takeD (i := 39) (v := .slice (some ⟨gz, 0, none⟩) n cz) (some 119) rfl rfl (by kernel_rfl) (by kernel_rfl) (by kernel_rfl) (fun c a w => FINQ c a _ _ w) (KC.out _ M8.out) (by exact yieldsC_moveG (wanted_g 38 true 118 rfl rfl (HF.at (by decide) 0 rfl)) _ rfl (HF.get 40 rfl)) ?_
            replace HF := HF.put 119 (.slice (some ⟨gz, 0, none⟩) n cz) (by decide) rfl
            generalize hB40_119 : Act.put _ _ _ = A at HF ⊢
            refine anyC_takeD (i := 40) (v := .agg d.arr) (some 120) rfl rfl (by kernel_rfl) (by kernel_rfl) (by kernel_rfl) (fun c a w => FINQ c a _ _ w) (KC.out _ M8.out) (by exact yieldsC_row (C := (AgR d w2.heap.size w4b.heap.size gz cz gx cx zs xs)) (wanted_g 38 true 118 rfl rfl (HF.at (by decide) 1 rfl)) 28 _ rfl w2.heap.size (HF.get 40 rfl) 28 _ _ _ (fun W hW => hW.h1) Try.underlying28 rfl (by kernel_rfl)) ?_
            replace HF := HF.put 120 (.agg d.arr) (by decide) rfl
            generalize hB41_120 : Act.put _ _ _ = A at HF ⊢
            refine anyC_takeD (i := 41) (v := .int .i64 P) (some 121) rfl rfl (by kernel_rfl) (by kernel_rfl) (by kernel_rfl) (fun c a w => FINQ c a _ _ w) (KC.out _ M8.out) (by exact yieldsC_moveG (wanted_g 38 true 118 rfl rfl (HF.at (by decide) 2 rfl)) _ rfl (HF.get 46 rfl)) ?_
            replace HF := HF.put 121 (.int .i64 P) (by decide) rfl
            generalize hB42_121 : Act.put _ _ _ = A at HF ⊢
            refine anyC_takeD (i := 45) (v := .slice (some ⟨gx, 0, none⟩) xs.length cx) (some 125) rfl rfl (by kernel_rfl) (by kernel_rfl) (by kernel_rfl) (fun c a w => FINQ c a _ _ w) (KC.out _ M8.out) (by exact yieldsC_cell (C := (AgR d w2.heap.size w4b.heap.size gz cz gx cx zs xs)) (wanted_g 38 true 118 rfl rfl (HF.at (by decide) 3 rfl)) 29 _ rfl w4b.heap.size 0 (HF.get 45 rfl) (.slice (some ⟨gx, 0, none⟩) xs.length cx) _ Try.underlying29 rfl (fun W hW => (box_cells hW.h4).1)) ?_
            replace HF := HF.put 125 (.slice (some ⟨gx, 0, none⟩) xs.length cx) (by decide) rfl
            generalize hB43_125 : Act.put _ _ _ = A at HF ⊢
            refine anyC_takeD (i := 46) (v := .int .i64 (j : Int)) (some 126) rfl rfl (by kernel_rfl) (by kernel_rfl) (by kernel_rfl) (fun c a w => FINQ c a _ _ w) (KC.out _ M8.out) (by exact yieldsC_moveG (wanted_g 38 true 118 rfl rfl (HF.at (by decide) 4 rfl)) _ rfl (HF.get 47 rfl)) ?_
            replace HF := HF.put 126 (.int .i64 (j : Int)) (by decide) rfl
            generalize hB44_126 : Act.put _ _ _ = A at HF ⊢
            refine anyC_takeD (i := 47) (v := .int .i64 ((j1 : Nat) : Int)) (some 127) rfl rfl (by kernel_rfl) (by kernel_rfl) (by kernel_rfl) (fun c a w => FINQ c a _ _ w) (KC.out _ M8.out) (by exact yieldsC_subI (wanted_g 38 true 118 rfl rfl (HF.at (by decide) 5 rfl)) rfl (HF.get 0 rfl) rfl _ X8.out) ?_
            replace HF := HF.put 127 (.int .i64 ((j1 : Nat) : Int)) (by decide) rfl
            generalize hB45_127 : Act.put _ _ _ = A at HF ⊢
            refine anyC_takeD (i := 48) (v := .pointer (some ⟨gx, j1, none⟩)) (some 128) rfl rfl (by kernel_rfl) (by kernel_rfl) (by kernel_rfl) (fun c a w => FINQ c a _ _ w) (KC.out _ M8.out) (by exact yieldsC_indexI (wanted_g 38 true 118 rfl rfl (HF.at (by decide) 6 rfl)) rfl (HF.get 2 rfl) (HF.get 0 rfl) HJ1.out) ?_
            replace HF := HF.put 128 (.pointer (some ⟨gx, j1, none⟩)) (by decide) rfl
            generalize hB46_128 : Act.put _ _ _ = A at HF ⊢
            refine anyC_takeD (i := 49) (v := .int .i64 u) (some 129) rfl rfl (by kernel_rfl) (by kernel_rfl) (by kernel_rfl) (fun c a w => FINQ c a _ _ w) (KC.out _ M8.out) (by exact yieldsC_cell (C := (AgR d w2.heap.size w4b.heap.size gz cz gx cx zs xs)) (wanted_g 38 true 118 rfl rfl (HF.at (by decide) 7 rfl)) 3 _ rfl gx j1 (HF.get 0 rfl) (.int .i64 u) _ Try.underlying3 rfl (fun W hW => CX.out W hW)) ?_
            replace HF := HF.put 129 (.int .i64 u) (by decide) rfl
            generalize hB47_129 : Act.put _ _ _ = A at HF ⊢
            refine anyC_takeD (i := 50) (v := .int .i64 (u + 1)) (some 130) rfl rfl (by kernel_rfl) (by kernel_rfl) (by kernel_rfl) (fun c a w => FINQ c a _ _ w) (KC.out _ M8.out) (by exact yieldsC_addI (wanted_g 38 true 118 rfl rfl (HF.at (by decide) 8 rfl)) rfl (HF.get 0 rfl) rfl _ X9.out) ?_
            replace HF := HF.put 130 (.int .i64 (u + 1)) (by decide) rfl
            generalize hB48_130 : Act.put _ _ _ = A at HF ⊢
            refine anyC_oneK (i := 42) (some 122) (by kernel_rfl) rfl (wanted_g 38 true 118 rfl rfl (HF.at (by decide) 9 rfl)) rfl (fun K hK => ?_)
            refine wp_call2 (v0 := .agg d.arr) (v1 := .int .i64 P) rfl (HF.get 7 rfl) (HF.get 6 rfl) (enters_of Try.func26 (by kernel_rfl) rfl) ?_
            refine (y_prev SS.out.ok w8 P).mono ?_
            rw [P4.out]
            rintro e w9 ⟨rfl, h9⟩
            have M9 := Lib.hid (M8.out.trans h9)
            clear h9
            refine hK _ _ (KC.out _ M9.out) ?_
            clear hK K
            replace HF := HF.put 122 (.int .i64 (b4 : Int)) (by decide) rfl
            generalize hB49_122 : Act.put _ _ _ = A at HF ⊢
            refine anyC_takeD (i := 43) (v := .pointer (some ⟨gz, b4, none⟩)) (some 123) rfl rfl (by kernel_rfl) (by kernel_rfl) (by kernel_rfl) (fun c a w => FINQ c a _ _ w) (KC.out _ M9.out) (by exact yieldsC_indexI (wanted_g 38 true 118 rfl rfl (HF.at (by decide) 10 rfl)) rfl (HF.get 9 rfl) (HF.get 0 rfl) hb4) ?_
            replace HF := HF.put 123 (.pointer (some ⟨gz, b4, none⟩)) (by decide) rfl
            generalize hB50_123 : Act.put _ _ _ = A at HF ⊢
            refine anyC_takeD (i := 44) (v := .int .i64 vz) (some 124) rfl rfl (by kernel_rfl) (by kernel_rfl) (by kernel_rfl) (fun c a w => FINQ c a _ _ w) (KC.out _ M9.out) (by exact yieldsC_cell (C := (AgR d w2.heap.size w4b.heap.size gz cz gx cx zs xs)) (wanted_g 38 true 118 rfl rfl (HF.at (by decide) 11 rfl)) 3 _ rfl gz b4 (HF.get 0 rfl) (.int .i64 vz) _ Try.underlying3 rfl (fun W hW => CZ4.out W hW)) ?_
            replace HF := HF.put 124 (.int .i64 vz) (by decide) rfl
            generalize hB51_124 : Act.put _ _ _ = A at HF ⊢
            refine anyC_takeD (i := 51) (v := .bool false) (some 131) rfl rfl (by kernel_rfl) (by kernel_rfl) (by kernel_rfl) (fun c a w => FINQ c a _ _ w) (KC.out _ M9.out) (by exact yieldsC_neqI (wanted_g 38 true 118 rfl rfl (HF.at (by decide) 12 rfl)) rfl (HF.get 0 rfl) (HF.get 3 rfl) false X10.out) ?_
            replace HF := HF.put 131 (.bool false) (by decide) rfl
            generalize hB52_131 : Act.put _ _ _ = A at HF ⊢
            refine anyC_takeD (i := 52) (v := .bool false) (some 132) rfl rfl (by kernel_rfl) (by kernel_rfl) (by kernel_rfl) (fun c a w => FINQ c a _ _ w) (KC.out _ M9.out) (by exact yieldsC_pickT (wanted_g 35 false 115 rfl rfl (HF.at (by decide) 16 rfl)) rfl (HF.get 13 rfl) (HF.get 0 rfl)) ?_
            replace HF := HF.put 132 (.bool false) (by decide) rfl
            generalize hB53_132 : Act.put _ _ _ = A at HF ⊢
            refine anyC_takeD (i := 53) (v := .bool false) (some 133) rfl rfl (by kernel_rfl) (by kernel_rfl) (by kernel_rfl) (fun c a w => FINQ c a _ _ w) (KC.out _ M9.out) (by exact yieldsC_pickF (wanted_none rfl) rfl (HF.get 17 rfl) (HF.get 0 rfl)) ?_
            replace HF := HF.put 133 (.bool false) (by decide) rfl
            generalize hB54_133 : Act.put _ _ _ = A at HF ⊢
            exact anyC_done (by kernel_rfl) (FINE _ _ ⟨(.int .i64 P), (.bool false), (.bool false), (.int .i64 P), (.slice (some ⟨gi, 0, none⟩) ins.length ci), (.int .i64 (ins.length : Int)), (.bool false), (.bool false), (.bool false), (.slice (some ⟨gz, 0, none⟩) n cz), (.agg d.arr), (.int .i64 P), (.int .i64 (j : Int)), (.bool false), (.int .i64 (b4 : Int)), (.pointer (some ⟨gz, b4, none⟩)), (.int .i64 vz), (.bool false), (.bool false), (.bool false), (.bool false), (.slice (some ⟨gz, 0, none⟩) n cz), (.agg d.arr), (.int .i64 P), (.int .i64 (j : Int)), (.int .i64 ((j : Int) + 1)), (.slice (some ⟨gx, 0, none⟩) xs.length cx), (.int .i64 (xs.length : Int)), (.bool bE), (.int .i64 (b3 : Int)), (.pointer (some ⟨gz, b3, none⟩)), (.int .i64 vn), (.bool bE), (.bool false), (.bool false), (.bool false), (.int .i64 (j : Int)), (.bool true), (.bool true), (.slice (some ⟨gz, 0, none⟩) n cz), (.agg d.arr), (.int .i64 P), (.slice (some ⟨gx, 0, none⟩) xs.length cx), (.int .i64 (j : Int)), (.int .i64 ((j1 : Nat) : Int)), (.pointer (some ⟨gx, j1, none⟩)), (.int .i64 u), (.int .i64 (u + 1)), (.int .i64 (b4 : Int)), (.pointer (some ⟨gz, b4, none⟩)), (.int .i64 vz), (.bool false), (.bool false), by rw [← hB54_133, ← hB53_132, ← hB52_131, ← hB51_124, ← hB50_123, ← hB49_122, ← hB48_130, ← hB47_129, ← hB46_128, ← hB45_127, ← hB44_126, ← hB43_125, ← hB42_121, ← hB41_120, ← hB40_119, ← hB39_118, ← hB38_117, ← hB37_116, ← hB36_115, ← hB35_114, ← hB34_113, ← hB33_107, ← hB32_106, ← hB31_105, ← hB30_104, ← hB29_112, ← hB28_111, ← hB27_110, ← hB26_109, ← hB25_108, ← hB24_103, ← hB23_102, ← hB22_101, ← hB21_100, ← hB20_99, ← hB19_98, ← hB18_95, ← hB17_94, ← hB16_93, ← hB15_92, ← hB14_97, ← hB13_96, ← hB12_91, ← hB11_90, ← hB10_89, ← hB9_88, ← hB8_87, ← hB7_86, ← hB6_85, ← hB5_84, ← hB4_83, ← hB3_82, ← hB2_81, ← hB1_80], M9.out⟩)
        · have d1 : decide ((j : Int) < (xs.length : Int)) = false := by simp; omega
          have c14 := (box_cells (ht.block B6.out)).1
          have M7 := Lib.hid (M6.out.trans ht)
          clear ht
          go_wp2_with fail
          refine (lives10_ok _).mono ?_
          rintro e w10 ⟨rfl, h10⟩
          have M8 := Lib.hid (M7.out.trans h10)
          clear h10
          go_wp2_with fail
          go_ret
          exact ⟨rfl, M8.out⟩
end Go.Proofs.Ytcjnkadmiflgaaa
