/-
  Layer 8's statement of what is counted.
-/
import Derived.Test.YtjljkidlhlgefaaChunkCountClo
import Derived.Test.YtjljkidlhlgefaaBeginAt
namespace Go.Proofs.Ytjljkidlhlgefaa
open Go.RowKit Go.Sort Go.Maps Go.Shelf
set_option linter.unusedVariables false
set_option linter.unusedSimpArgs false

theorem counted_call {c : Cfg} (R : c.Ok) (zs : List Int) (H : TblIn c.pg c.st zs.length) (hlen : zs.length ≤ 1000) (hz : OkW zs) (x y : Int) (hx : W64 x) (w : World) (g0 g1 g2 g3 g4 : Nat) (a : Option Addr) (cap : Nat) (al : Option Addr) (capl : Nat) (l : List Ins3) (hO : OkP l) (hll : l.length ≤ 1000) (hY : CtY c al capl l x y g0 g1 g2 g3 g4 w) (hL : IsIns w al l) (hd : g1 ≠ g0 ∧ g2 ≠ g0 ∧ g3 ≠ g0 ∧ g4 ≠ g0 ∧ ∀ b, l ≠ [] → leads al b → b ≠ g0) (hal : ∀ b, l ≠ [] → leads al b → b < w.heap.size) (hw : IsWords w a zs) :
    Calls Try.prog 9 #[.slice a zs.length cap, .func (.func 10) #[] #[.pointer (some ⟨g0, 0, none⟩), .pointer (some ⟨g1, 0, none⟩), .pointer (some ⟨g2, 0, none⟩), .pointer (some ⟨g3, 0, none⟩), .pointer (some ⟨g4, 0, none⟩)]] w (fun e w' => ∃ v1 v2, e = .returned (.tuple #[v1, v2, .int .i64 0]) ∧ BoxB g0 w' true ∧ Turned (fun b => b = g0) w w') := by
  obtain ⟨b0, h0⟩ := hY.h0
  have l0 := lt_of_heap h0
  have l1 := lt_of_heap hY.h1
  have l2 := lt_of_heap hY.h2
  have l3 := lt_of_heap hY.h3
  have l4 := lt_of_heap hY.h4
  have G := good_counted H l x y
  obtain ⟨ws, K', hK', hans⟩ := counted_do H l x y zs rfl hz
  have M := doY_ok a cap zs (fun K => ranOf (countedP c.pg c.st l x y (look K) [])) (some (ws, K')) zs.length w hw hlen hz (fine_of G hz (by omega)) (by omega) hK' 10 #[.pointer (some ⟨g0, 0, none⟩), .pointer (some ⟨g1, 0, none⟩), .pointer (some ⟨g2, 0, none⟩), .pointer (some ⟨g3, 0, none⟩), .pointer (some ⟨g4, 0, none⟩)] (fun b => b = g0)
    (fun w' => CtY c al capl l x y g0 g1 g2 g3 g4 w') (fun w' => BoxB g0 w' true)
    (fun k q => by subst q; exact l0)
    (fun w' w'' y t => by obtain ⟨b, hb⟩ := y.h0; exact y.keep t (by omega) (by omega) (by omega) (by omega) ((t.block g0 (lt_of_heap hb) (by omega)).trans hb))
    (fun w' w'' y t => (t.block g0 (lt_of_heap y) (by omega)).trans y) hY (enters_of Try.func10 (by kernel_rfl) rfl)
    (fun K hK W F p t yy hv hF => counted_clo R H (by omega) F p g0 g1 g2 g3 g4 (look K) al capl l x y hx hO hll W hv (okK_of hK hz) yy (ins_keep hL t (fun ne b hb e => hd.2.2.2.2 b ne hb e)) ⟨hd.1, hd.2.1, hd.2.2.1, hd.2.2.2.1, fun b ne hb => ⟨hd.2.2.2.2 b ne hb, fun q => by have := hF _ q; have := hal b ne hb; omega⟩⟩
      (fun q => by have := hF _ q; omega) (fun q => by have := hF _ q; omega) (fun q => by have := hF _ q; omega) (fun q => by have := hF _ q; omega) (fun q => by have := hF _ q; omega) (hans K hK))
  refine M.mono ?_
  rintro e w' ⟨v1, v2, rfl, _, _, t, _, x⟩
  exact ⟨v1, v2, rfl, x, t⟩

set_option maxRecDepth 100000 in
set_option maxHeartbeats 4000000 in
theorem counted_walk (y0 y1 y2 y3 y4 y5 y6 y7 y8 y9 y10 : Int) (a : Option Addr) (capl : Nat) (l : List Ins3) (x y : Int) (w : World) (f0 : (Lit.int .i64 y0).wf = true) (f1 : (Lit.int .i64 y1).wf = true) (f2 : (Lit.int .i64 y2).wf = true) (f3 : (Lit.int .i64 y3).wf = true) (f4 : (Lit.int .i64 y4).wf = true) (f5 : (Lit.int .i64 y5).wf = true) (f6 : (Lit.int .i64 y6).wf = true) (f7 : (Lit.int .i64 y7).wf = true) (f8 : (Lit.int .i64 y8).wf = true) (f9 : (Lit.int .i64 y9).wf = true) (f10 : (Lit.int .i64 y10).wf = true) (hl : IsIns w a l) (ho : OkP l) (hm : l.length ≤ 9223372036854775807) (ex : (Lit.int .i64 x).wf = true) (ey : (Lit.int .i64 y).wf = true) :
    Calls Try.prog 3 #[.agg #[.int .i64 y0, .int .i64 y1, .int .i64 y2, .int .i64 y3, .int .i64 y4, .int .i64 y5, .int .i64 y6, .int .i64 y7, .int .i64 y8, .int .i64 y9, .int .i64 y10], .slice a l.length capl, .int .i64 x, .int .i64 y] w (Gives w (.bool true)) := by
  obtain ⟨d, S, BEG⟩ := begin_at y0 y1 y2 y3 y4 y5 y6 y7 y8 y9 y10 f0 f1 f2 f3 f4 f5 f6 f7 f8 f9 f10
  have SS := Lib.hid S
  have wds := S.words
  have OP := Lib.hid ho
  have hx : Hid (W64 x) := Lib.hid ⟨wf_lo ex, wf_hi ex⟩
  obtain ⟨w4, e4, ha, hb, hc, hd, m4, s4⟩ := entry4 w (.cells #[.int .i64 y0, .int .i64 y1, .int .i64 y2, .int .i64 y3, .int .i64 y4, .int .i64 y5, .int .i64 y6, .int .i64 y7, .int .i64 y8, .int .i64 y9, .int .i64 y10] 23) (.cells #[.slice a l.length capl] 24) (.cells #[.int .i64 x] 3) (.cells #[.int .i64 y] 3)
  have HA := Lib.hid ha
  have HB := Lib.hid hb
  have HC := Lib.hid hc
  have HD := Lib.hid hd
  have cb := (box_cells hb).1
  have HM := Lib.hid m4
  clear f0 f1 f2 f3 f4 f5 f6 f7 f8 f9 f10 S ho ex ey ha hb hc hd m4
  by_cases hbig : 60 < l.length
  · have d0 : decide ((60 : Int) < (l.length : Int)) = true := by simp; omega
    clear HA HC HD BEG wds
    go_enter Try.func3, Try.ntmps3
    go_wp2_with fail
    refine (lives8_ok _).mono ?_
    rintro e w8 ⟨rfl, h8⟩
    have HM8 := Lib.hid (HM.out.trans h8)
    clear h8
    go_wp2_with fail
    go_ret
    exact ⟨rfl, HM8.out⟩
  · have d0 : decide ((60 : Int) < (l.length : Int)) = false := by simp; omega
    go_enter Try.func3, Try.ntmps3
    go_wp2_with (refine wpList_load_row rfl 23 _ rfl w.heap.size rfl 23 _ _ _ HA.out Try.underlying23 rfl (by kernel_rfl) ?_)
    clear e4 cb
    refine (BEG.out _).mono ?_
    rintro e w5 ⟨g, n, hn, rfl, hrw, m5⟩
    obtain ⟨w6, e6, b1, b2, b3, m6, s6⟩ := rows2 w5 zero24 zero11 d.arr d.cells 28 30
    have hz := zeros_len n
    have wz : Ws w5 g n (zeros n) := Ws.of_rw (base := w4.heap.size) (by rw [hz]; exact hrw)
    have B1 := Lib.hid b1
    have B2 := Lib.hid b2
    obtain ⟨w7, e7, hr7, m7, s7⟩ := entry1 w6 (.cells #[.bool false] 4)
    have m57 := m6.trans m7
    have m47 := m5.trans m57
    have AC := Lib.hid (m47.block HB.out)
    have XC := Lib.hid (m47.block HC.out)
    have YC := Lib.hid (m47.block HD.out)
    have LC := Lib.hid (m7.block b3)
    have WZ := Lib.hid (wz.more m57)
    have M7 := Lib.hid (HM.out.trans m47)
    have RB : Hid (BoxB w6.heap.size w7 false) := Lib.hid hr7
    obtain ⟨cr, fr, lr⟩ := box_cells hr7
    have t8 : Turned (fun b => b = w6.heap.size) w7 (w7.setCell ⟨w6.heap.size, 0, none⟩ (.bool true)) := Turned.setCell (Turned.refl _ w7) ⟨w6.heap.size, 0, none⟩ _ (fun _ => rfl)
    have b8 := boxB_set hr7 true
    have T8 := Lib.hid t8
    have B8 := Lib.hid b8
    have HN := Lib.hid hn
    have hnb : 160 ≤ n ∧ n ≤ 800 := by omega
    have hg5 : g < w5.heap.size := wz.lt
    have HZ := Lib.hid hz
    have HL := Lib.hid (hl.more M7.out)
    have HLL := Lib.hid hl
    have h45 := m5.size
    have h56 := m6.size
    clear b1 b2 b3 hrw hn BEG hz wz HA HB HC HD HM m5 m6 m7 m57 m47 wds hl hr7 t8 b8
    go_wp2_with (first
      | (refine wpList_store_row rfl 28 _ _ rfl w5.heap.size _ rfl rfl 28 zero24 B1.out (by kernel_rfl) rfl (arr_one d) ?_)
      | (refine wpList_store_row rfl 30 _ _ rfl (w5.heap.size + 1) _ rfl rfl 30 zero11 B2.out (by kernel_rfl) rfl (cells_one d) ?_))
    have h7l := lt_of_heap LC.out
    generalize w7.setCell ⟨w6.heap.size, 0, none⟩ (.bool true) = w8 at T8 B8 ⊢
    have K8 : ∀ (b : Nat) (o : Obj), w7.heap[b]? = some o → b ≠ w6.heap.size → w8.heap[b]? = some o := fun b o hb hne => (T8.out.block b (lt_of_heap hb) hne).trans hb
    have hal : ∀ b, l ≠ [] → leads a b → b < w.heap.size := fun b hne hb => by
      obtain ⟨s, o, rfl, hs, _⟩ := HLL.out.resolve_left hne
      have : s = b := by simpa [leads] using hb
      omega
    have hw8 : w7.heap.size ≤ w8.heap.size := T8.out.size
    have hzl := HZ.out
    have hm7 := M7.out.size
    have DO := counted_call SS.out.ok (zeros n) (by rw [hzl]; exact SS.out.tbl HN.out) (by rw [hzl]; omega) (okW_zeros n) x y hx.out w8 w6.heap.size (w.heap.size + 1) w5.heap.size (w.heap.size + 2) (w.heap.size + 3) (some ⟨g, 0, none⟩) n a capl l OP.out (by omega)
      ⟨⟨true, B8.out⟩, K8 _ _ AC.out (by omega), K8 _ _ LC.out (by omega), K8 _ _ XC.out (by omega), K8 _ _ YC.out (by omega)⟩ (ins_keep HL.out T8.out (fun ne b hb e => by have := hal b ne hb; omega)) ⟨by omega, by omega, by omega, by omega, fun b ne hb => by have := hal b ne hb; omega⟩ (fun b ne hb => by have := hal b ne hb; omega) ((WZ.out.keep T8.out (by omega)).words)
    rw [hzl] at DO
    have DO := Lib.hid DO
    have M8 : Hid (More w w8) := Lib.hid (Turned.mono (turned_own (F := fun _ => False) M7.out T8.out (fun b e => .inr (by omega))) (fun _ _ q => q))
    have hb6 : w.heap.size ≤ w6.heap.size := by omega
    clear K8 LC XC YC AC WZ HL HLL hal RB cr fr lr e7 B8
    go_wp2_with fail
    refine DO.out.mono ?_
    rintro e w9 ⟨v1, v2, rfl, b9, t9⟩
    have M9 : Hid (More w w9) := Lib.hid (Turned.mono (turned_own (F := fun _ => False) M8.out t9 (fun b e => .inr (by omega))) (fun _ _ q => q))
    have c9 := (box_cells b9).1
    clear b9 t9 DO
    go_wp2_with fail
    refine (lives8_ok _).mono ?_
    rintro e w10 ⟨rfl, h10⟩
    have M10 := Lib.hid (M9.out.trans h10)
    clear h10
    go_wp2_with fail
    go_ret
    exact ⟨rfl, M10.out⟩
end Go.Proofs.Ytjljkidlhlgefaa
