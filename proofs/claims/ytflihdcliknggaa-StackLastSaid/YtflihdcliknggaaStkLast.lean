/-
  Layer 12's statement that what is pushed is popped, the last one first.
-/
import Derived.Test.YtflihdcliknggaaStkLastW
namespace Go.Proofs.Ytflihdcliknggaa
open Go.RowKit Go.Sort Go.Maps Go.Shelf
set_option linter.unusedVariables false
set_option linter.unusedSimpArgs false

theorem last_do (m : Nat) (hm : m ≤ 60) (l : List Int) (ho : OkW l) (hll : l.length ≤ 60) (g1 g2 g3 g4 cap cap2 : Nat) (ad ad2 : Option Addr) (w : World) (hY : LaB g1 g2 g3 g4 ad cap l (m : Int) 0 false w) (hd : LaD g1 g2 g3 g4 ad l) (hz : IsWords w ad2 (zeros (m + 2))) :
    Calls Try.prog 7 #[.slice ad2 (m + 2) cap2, .func (.func 14) #[] #[.pointer (some ⟨g1, 0, none⟩), .pointer (some ⟨g2, 0, none⟩), .pointer (some ⟨g3, 0, none⟩), .pointer (some ⟨g4, 0, none⟩)]] w (fun e w' => ∃ v1 v2, e = .returned (.tuple #[v1, v2, .int .i64 0]) ∧ Turned (LaS g1 g2) w w' ∧ BoxB g2 w' true) := by
  obtain ⟨H, ⟨Da, ea⟩, ⟨Db, eb⟩, ⟨Dc, ec⟩⟩ := last_ok m hm l ho
  have hl : (zeros (m + 2)).length = m + 2 := zeros_len _
  have G : Good (zeros (m + 2)).length (fun _ => True) (stLastP (m : Int) l (l.take m).length) := by rw [hl]; exact good_stLast H l ho _
  obtain ⟨K', _, hK'⟩ := doP_run (zs := zeros (m + 2)) (sound_stLast (m : Int) l (l.take m).length) G (okW_zeros _) ec ((zeros (m + 2)).length + 1) [] (okKn_nil _) (by simp)
  have hlt : ∀ k, LaO g1 g2 g3 g4 ad l k → k < w.heap.size := by
    rintro k (rfl | rfl | rfl | rfl | q)
    · exact hY.lt.1
    · exact hY.lt.2.1
    · exact hY.lt.2.2.1
    · exact hY.lt.2.2.2
    · exact hY.row.ownL q
  have M := doX_ok ad2 cap2 (zeros (m + 2)) (fun K => ranOf (stLastP (m : Int) l (l.take m).length (look K) [])) (some (applyD (zeros (m + 2)) Dc, K')) (zeros (m + 2)).length w hz (by omega) (okW_zeros _) (fine_of G (okW_zeros _) (by omega)) (by omega) hK' 14 #[.pointer (some ⟨g1, 0, none⟩), .pointer (some ⟨g2, 0, none⟩), .pointer (some ⟨g3, 0, none⟩), .pointer (some ⟨g4, 0, none⟩)] (LaS g1 g2)
    (fun w' => ∃ k r, LaB g1 g2 g3 g4 ad cap l (m : Int) k r w') (fun _ w' => BoxB g2 w' true)
    (fun k q => hlt k (by rcases q with q | q; exact .inl q; exact .inr (.inl q)))
    (fun w' w'' y t => by obtain ⟨k, r, h⟩ := y; exact ⟨k, r, h.keep t (fun k q r => by have := hlt k q; omega)⟩)
    (fun b w' w'' hb y t => kept_one t y (fun q => by have := hY.lt.2.1; omega)) ⟨_, _, hY⟩ (enters_of Try.func14 (by kernel_rfl) rfl)
    (fun K hK W F p t y hv hF => last_clo H (by omega) l ho hll (l.take m).length (by simp; omega) F p g1 g2 g3 g4 cap ad (look K) W hv (okK_of hK (okW_zeros _)) y (fun k q r => by have := hlt k q; have := hF _ r; omega) (fun k q => Nat.lt_of_lt_of_le (hlt k q) t.size) hd
      (fun x D e => (sound_same (sound_stPushes _ _ _ _ _) hK ea e).1) (fun x D e => (sound_same (sound_stLen _ _) hK eb e).1) (fun x D e => (sound_same (sound_stLast _ _ _) hK ec e).1))
  rw [hl] at M
  refine M.mono ?_
  rintro e w' ⟨v1, v2, b, rfl, r1, _, t, _, _, x⟩
  exact ⟨v1, v2, rfl, t, x⟩

set_option maxRecDepth 100000 in
set_option maxHeartbeats 2000000 in
theorem last_walk (a : Option Addr) (cap : Nat) (l : List Int) (x : Int) (w : World) (hl : IsWords w a l) (ho : OkW l) (hm : l.length ≤ 9223372036854775807) (e1 : (Lit.int .i64 x).wf = true) :
    Calls Try.prog 4 #[.slice a l.length cap, .int .i64 x] w (Gives w (.bool true)) := by
  obtain ⟨w2, f2, b1, b2, m2, s2⟩ := entry2 w (.cells #[.slice a l.length cap] 23) (.cells #[.int .i64 x] 3)
  obtain ⟨c1, _, _⟩ := box_cells b1
  obtain ⟨c2, _, _⟩ := box_cells b2
  have M2 := Lib.hid m2
  have LV : Hid (∀ w', Calls Try.prog 6 #[] w' (Gives w' (.bool true))) := Lib.hid lives12_ok
  by_cases hc : l.length ≤ 60 ∧ 0 ≤ x ∧ x ≤ 60
  · obtain ⟨h1, h2, h3⟩ := hc
    obtain ⟨m, rfl⟩ : ∃ m : Nat, x = (m : Int) := ⟨x.toNat, by omega⟩
    have hm60 : m ≤ 60 := by omega
    have d0 : decide (60 < l.length) = false := by simp; omega
    have d1 : decide ((60 : Int) < (l.length : Int)) = false := by simp; omega
    have d2 : decide ((m : Int) < 0) = false := by simp
    have d3 : decide (60 < (m : Int)) = false := by simp; omega
    have d4 : decide (60 < m) = false := by simp; omega
    obtain ⟨w3, f3, b3, m3, s3⟩ := entry1 w2 (.cells #[.int .i64 0] 3)
    rw [s2] at b3 s3
    have s3 : w3.heap.size = w.heap.size + 3 := by omega
    obtain ⟨w4, f4, b4, m4, s4⟩ := entry1 w3 (.cells #[.bool false] 4)
    rw [s3] at b4 s4
    have s4 : w4.heap.size = w.heap.size + 4 := by omega
    obtain ⟨c2', _, _⟩ := box_cells ((m3.trans m4).block b2)
    have n3 := set_noop b3
    have n4 := set_noop b4
    obtain ⟨p3, q3, _⟩ := box_cells b3
    obtain ⟨p4, q4, _⟩ := box_cells b4
    obtain ⟨w5, hmk, bz, m5, s5⟩ : ∃ w5, (Instr.makeSlice 23 (.int .i64 ((m + 2 : Nat) : Int)) (.int .i64 ((m + 2 : Nat) : Int))).run Try.prog w4 = .ok (.slice (some ⟨w4.heap.size, 0, none⟩) (m + 2) (m + 2)) w5 ∧ w5.heap[w4.heap.size]? = some (.cells (rowOf (zeros (m + 2))) 3 (0, 0)) ∧ More w4 w5 ∧ w5.heap.size = w4.heap.size + 1 :=
      ⟨_, run_make_zs (m + 2) (by omega) w4, row_new w4 _ _, (More.refl _).alloc _, by simp⟩
    rw [s4] at hmk bz s5
    have Z5 := ws_zeros w5 (m + 2) (by omega) bz
    have m45 := m4.trans m5
    have m35 := m3.trans m45
    have BB : LaB (w.heap.size + 2) (w.heap.size + 3) w.heap.size (w.heap.size + 1) a cap l (m : Int) 0 false w5 := ⟨m45.block b3, m5.block b4, m35.block b1, m35.block b2, hl.more (m2.trans m35)⟩
    have hd : LaD (w.heap.size + 2) (w.heap.size + 3) w.heap.size (w.heap.size + 1) a l := ⟨by omega, by omega, by omega, by omega, by omega, fun k q => by have := hl.ownL q; omega, fun k q => by have := hl.ownL q; omega⟩
    have DO := Lib.hid (last_do m hm60 l ho h1 (w.heap.size + 2) (w.heap.size + 3) w.heap.size (w.heap.size + 1) cap (m + 2) a (some ⟨w.heap.size + 4, 0, none⟩) w5 BB hd Z5.words)
    have M5 := Lib.hid (M2.out.trans m35)
    have k0 : ((m + 2 : Nat) : Int) = (m : Int) + 2 := by omega
    rw [k0] at hmk
    clear hl ho hm e1 h1 h2 h3 b1 b2 b3 b4 bz Z5 m45 m35 m3 m4 m5 m2 BB hd k0
    go_enter Try.func4, Try.ntmps4
    go_wp2_with fail
    refine DO.out.mono ?_
    rintro e w8 ⟨v1, v2, rfl, t8, B8⟩
    have k4 := (box_cells B8).1
    have M8 : Hid (More w w8) := Lib.hid (turned_own (F' := LaS (w.heap.size + 2) (w.heap.size + 3)) M5.out t8 (fun k q => .inr (by rcases q with q | q <;> omega)))
    clear t8 B8 DO
    go_wp2_with fail
    refine (LV.out _).mono ?_
    rintro e w10 ⟨rfl, h10⟩
    have M10 := Lib.hid (M8.out.trans h10)
    clear h10
    go_wp2_with fail
    go_ret
    exact ⟨rfl, M10.out⟩
  · by_cases h1 : l.length ≤ 60
    · by_cases h2 : 0 ≤ x
      · have d0 : decide (60 < l.length) = false := by simp; omega
        have d1 : decide ((60 : Int) < (l.length : Int)) = false := by simp; omega
        have d2 : decide (x < 0) = false := by simp; omega
        have d3 : decide (60 < x) = true := by simp; omega
        clear hl ho hm e1 hc h1 h2 b1 b2 m2
        go_enter Try.func4, Try.ntmps4
        go_wp2_with fail
        refine (LV.out _).mono ?_
        rintro e w10 ⟨rfl, h10⟩
        have M10 := Lib.hid (M2.out.trans h10)
        clear h10
        go_wp2_with fail
        go_ret
        exact ⟨rfl, M10.out⟩
      · have d0 : decide (60 < l.length) = false := by simp; omega
        have d1 : decide ((60 : Int) < (l.length : Int)) = false := by simp; omega
        have d2 : decide (x < 0) = true := by simp; omega
        clear hl ho hm e1 hc h1 h2 b1 b2 m2
        go_enter Try.func4, Try.ntmps4
        go_wp2_with fail
        refine (LV.out _).mono ?_
        rintro e w10 ⟨rfl, h10⟩
        have M10 := Lib.hid (M2.out.trans h10)
        clear h10
        go_wp2_with fail
        go_ret
        exact ⟨rfl, M10.out⟩
    · have d0 : decide (60 < l.length) = true := by simp; omega
      have d1 : decide ((60 : Int) < (l.length : Int)) = true := by simp; omega
      clear hl ho hm e1 hc h1 b1 b2 m2
      go_enter Try.func4, Try.ntmps4
      go_wp2_with fail
      refine (LV.out _).mono ?_
      rintro e w10 ⟨rfl, h10⟩
      have M10 := Lib.hid (M2.out.trans h10)
      clear h10
      go_wp2_with fail
      go_ret
      exact ⟨rfl, M10.out⟩
end Go.Proofs.Ytflihdcliknggaa
