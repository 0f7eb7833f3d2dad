/-
  The document's own answers of layer 7: a program over words.
-/
import Derived.Test.YtjoeminkdafmaaaViewWords
import Derived.Test.YtjoeminkdafmaaaViewDoes
import Derived.Test.YtjoeminkdafmaaaViewRefRun
namespace Go.Proofs.Ytjoeminkdafmaaa
open Go.RowKit Go.Sort Go.Maps Go.Shelf
set_option linter.unusedVariables false
set_option linter.unusedSimpArgs false

/-- On the way. -/
structure RefDoOn (w wr : World) (zs : List Int) (sem : List KV → Ran) (R : Option (List Int × List KV)) (K : List KV) (v : Value) : Prop where
  okn : OkKn zs K
  res : doP sem zs (zs.length + 1 - K.length) K = R
  row : PRw w.heap.size wr v K
  more : More w wr

theorem PRw.of_block {base : Nat} {w w' : World} {v : Value} {ps : List KV} (h : PRw base w v ps) (hb : ∀ k, v.ownBlock = some k → ∀ ob, w.heap[k]? = some ob → w'.heap[k]? = some ob) : PRw base w' v ps := by
  refine ⟨h.1, ?_⟩
  rcases h.2 with q | ⟨g, cap, cur, rfl, h2, h3, h4⟩
  · exact .inl q
  · exact .inr ⟨g, cap, cur, rfl, h2, hb g rfl _ h3, h4⟩

set_option maxRecDepth 100000 in
set_option maxHeartbeats 8000000 in
theorem rdo_ok (a al : Option Addr) (cap cl : Nat) (zs : List Int) (l : List Ins3) (R : Option (List Int × List KV)) (w : World) (hz : IsWords w a zs) (hL : IsIns w al l) (hlen : zs.length ≤ 1000) (hl : l.length ≤ 1000) (hok : OkW zs) (hP : OkP l) (hR : doP (fun K => runP (look K) l false 0 []) zs (zs.length + 1) [] = R) (hfine : FineSem zs l.length (fun K => runP (look K) l false 0 [])) :
    Calls Try.prog 16 #[.slice a zs.length cap, .slice al l.length cl] w (DidDo w R) := by
  have HZ := Lib.hid hz
  have HL := Lib.hid hL
  have HF := Lib.hid hfine
  have DO0 : Hid (RefDoOn w w zs (fun K => runP (look K) l false 0 []) R [] (.slice none 0 0)) := Lib.hid ⟨okKn_nil zs, hR, PRw.nil _ _, More.refl _⟩
  clear hz hL hfine hR hok hP
  go_enter Try.func16, Try.ntmps16
  go_wp2_with fail
  go_loopw [7, 8] (fun u7 u8 wr => ∃ K : List KV, u8 = .int .i64 K.length ∧ RefDoOn w wr zs (fun K => runP (look K) l false 0 []) R K u7) (fun _ u8 _ => zs.length + 1 - (intOf u8).toNat)
  case atStart => exact ⟨[], rfl, DO0.out⟩
  case round =>
    obtain ⟨K, rfl, hdo⟩ := hrel
    obtain ⟨an, cn, rfl, hpn, _⟩ := hdo.row.reads
    have DO := Lib.hid hdo
    have hKl := hdo.okn.len
    have dK : decide (K.length ≤ zs.length) = true := by simpa using hKl
    have RUN := Lib.hid (rrun_ok an al cn cl K l _ wr hpn (HL.out.more hdo.more) (by omega) hl rfl)
    have HFK := Lib.hid (HF.out K hdo.okn)
    clear hdo hpn DO0
    obtain ⟨r, hs⟩ : ∃ r, runP (look K) l false 0 [] = r := ⟨_, rfl⟩
    rw [hs] at RUN
    have HS := Lib.hid hs
    have hfk := HFK.out
    simp only at hfk
    rw [hs] at hfk
    clear hs
    go_wp2_with fail
    refine RUN.out.mono ?_
    intro e w2 he
    cases r with
    | need x =>
      obtain ⟨rfl, hm2⟩ := he
      have hx0 : 0 ≤ x := hfk.1
      obtain ⟨j, rfl⟩ : ∃ j : Nat, x = j := ⟨x.toNat, by omega⟩
      have HM2 : Hid (More wr w2) := Lib.hid hm2
      clear hm2 RUN
      by_cases hj : j < zs.length
      · obtain ⟨q1, q2, q3, q4⟩ := doP_need DO.out.okn HFK.out HS.out (by omega) DO.out.res
        have d1 : decide ((zs.length : Int) ≤ (j : Int)) = false := by simp; omega
        have d3 : decide (zs.length ≤ j) = false := by simp; omega
        have d2 : decide (0 ≤ (j : Int)) = true := by simp
        obtain ⟨g, o, rfl, hg, hc⟩ := (HZ.out.more (DO.out.more.trans HM2.out)).resolve_left (by intro q; rw [q] at hj; simp at hj)
        have cw : w2.cell? ⟨g, o + j, none⟩ = some (.int .i64 (wAt zs j)) := hc j hj
        have R2 : Hid (PRw w.heap.size w2 (.slice an K.length cn) K) := Lib.hid (DO.out.row.more HM2.out)
        have T2 : Hid (Turned (fun _ => False) w w2) := Lib.hid (DO.out.more.trans HM2.out)
        have NX : Hid (∀ w4 v, PRw w.heap.size w4 v (K ++ [((j : Int), wAt zs j)]) → More w w4 → RefDoOn w w4 zs (fun K => runP (look K) l false 0 []) R (K ++ [((j : Int), wAt zs j)]) v) := Lib.hid fun w4 v h1 h2 => ⟨q1, q2, h1, h2⟩
        clear hc q1 q2 q3 q4 hfk
        generalize wAt zs j = z at cw NX
        go_wp2_with (at_builtin; refine wpList_pair (S := fun _ => False) (wa := w) (ps := K) (j : Int) z rfl _ _ rfl rfl R2.out T2.out (by omega) rfl ?_; intro g4 c4 w4 h4 t4 _; have N4 := Lib.hid (NX.out _ _ h4 t4); clear h4 t4)
        go_roundw
        case rel => exact ⟨K ++ [((j : Int), z)], by rw [List.length_append]; go_num, N4.out⟩
        case measure => simp [intOf]; omega
      · have hn := doP_far DO.out.okn HS.out (by omega) DO.out.res
        subst hn
        have d1 : decide ((zs.length : Int) ≤ (j : Int)) = true := by simp; omega
        have d3 : decide (zs.length ≤ j) = true := by simp; omega
        have FIN : Hid (DidDo w none (.returned (.tuple #[.slice none 0 0, .slice none 0 0, .int .i64 3])) w2) := Lib.hid ⟨rfl, DO.out.more.trans HM2.out⟩
        clear hfk hj
        go_wp2_with fail
        go_ret3
        exact FIN.out
    | done D =>
      obtain ⟨v, rfl, hr, hm2⟩ := he
      obtain ⟨ad, cd, rfl, hpd, hbd⟩ := hr.reads
      have hDl : D.length ≤ 1000 := by have := hfk.2.2; omega
      have d1 : decide ((zs.length : Int) ≤ -1) = false := by simp; omega
      have HD := Lib.hid hpd
      have HO := Lib.hid hfk.1
      have HM2 : Hid (More w w2) := Lib.hid (DO.out.more.trans hm2)
      have R2 : Hid (PRw w.heap.size w2 (.slice an K.length cn) K) := Lib.hid (DO.out.row.more hm2)
      have RES := Lib.hid (doP_done DO.out.okn HS.out DO.out.res)
      have ZW := Lib.hid (HZ.out.more HM2.out)
      clear hr hm2 hpd hfk RUN hbd
      go_wp2_with (at_builtin; refine wpList_words rfl _ _ rfl rfl rfl ZW.out (by omega) ?_; intro a' cap' w3 h3 n3 m3; have RW := Lib.hid h3; have N3 := Lib.hid n3; have M3 := Lib.hid m3; clear h3 n3 m3)
      have NE : Hid (∀ k, leads ad k → D ≠ [] → ¬ owned a' k) := Lib.hid fun k hk h0 q => by
        have := N3.out k q
        obtain ⟨s, o, rfl, hs, _⟩ := HD.out.resolve_left h0
        have hk' : s = k := by simpa [leads] using hk
        omega
      go_loopw [12] (fun u wr2 => ∃ i : Nat, u = .int .i64 i ∧ i ≤ D.length ∧ fitsD zs (D.take i) = true ∧ RowAt wr2 3 ((applyD zs (D.take i)).map (Value.int .i64)) a' cap' ∧ Turned (owned a') w3 wr2) (fun u _ => D.length - (intOf u).toNat)
      case atStart => exact ⟨0, rfl, by omega, rfl, RW.out, Turned.refl _ _⟩
      case round =>
        obtain ⟨i, rfl, hi, hf, hr, ht⟩ := hrel
        have HFI := Lib.hid hf; have HRW := Lib.hid hr; have HT := Lib.hid ht
        clear hf hr ht
        by_cases hlt : i < D.length
        · obtain ⟨⟨k, v⟩, hp⟩ : ∃ p, D[i]? = some p := ⟨_, List.getElem?_eq_getElem hlt⟩
          have hne : D ≠ [] := by intro q; rw [q] at hlt; simp at hlt
          have NE2 : Hid (∀ k, leads ad k → ¬ owned a' k) := Lib.hid fun k hk => NE.out k hk hne
          obtain ⟨s, o, rfl, hs, hc⟩ := ((HD.out.more M3.out).keep HT.out NE2.out).resolve_left hne
          obtain ⟨c0, c1⟩ := hc i _ hp
          simp only at c0 c1
          obtain ⟨hk0, _, _⟩ := HO.out _ (List.mem_of_getElem? hp)
          simp only at hk0
          have HP := Lib.hid hp
          clear hc hp hne
          obtain ⟨j, rfl⟩ : ∃ j : Nat, k = j := ⟨k.toNat, by omega⟩
          have hlen2 := applyD_len (D.take i) zs
          by_cases hj : j < zs.length
          · have e1 : decide ((zs.length : Int) ≤ (j : Int)) = false := by simp; omega
            have e2 : decide (zs.length ≤ j) = false := by simp; omega
            have hrow := HRW.out
            rcases hrow with ⟨rfl, rfl, hx⟩ | ⟨g, cur, rfl, hg, hn, hm, hsz, htk⟩
            · have := congrArg List.length hx; rw [List.length_map, hlen2, List.length_nil] at this; omega
            have HG := Lib.hid hg
            have hjc : j < cur.size := by rw [List.length_map, hlen2] at hn; omega
            have NX : Hid (∀ w5, More wr w5 → fitsD zs (D.take (i + 1)) = true ∧ RowAt (w5.setCell ⟨g, j, none⟩ (.int .i64 v)) 3 ((applyD zs (D.take (i + 1))).map (Value.int .i64)) (some ⟨g, 0, none⟩) cap' ∧ Turned (owned (some ⟨g, 0, none⟩)) w3 (w5.setCell ⟨g, j, none⟩ (.int .i64 v))) := Lib.hid (by
              intro w5 hm5
              rw [take_next HP.out, fitsD_snoc, applyD_snoc, HFI.out]
              refine ⟨by simp; omega, ?_, turned_setCell (turned_own (F' := fun _ => False) HT.out hm5 (fun _ q => q.elim)) (fun _ => rfl) _⟩
              have r2 := rowAt_set (i := j) (.int .i64 v) (HRW.out.keep hm5 (fun _ _ q => q)) (by simp [hlen2]; omega)
              simpa [List.map_set] using r2)
            have C0 := Lib.hid c0; have C1 := Lib.hid c1
            clear hn hm hsz htk hg hlen2
            go_wp2_with fail
            go_still_tail 12, (by kernel_rfl)
            change wpList _ _ _ _ _ wr.drew
            have M5 : Hid (More wr wr.drew) := Lib.hid (More.refl wr).drew
            generalize wr.drew = w5 at M5 ⊢
            have hg5 := M5.out.block HG.out
            have hgl5 := lt_of_heap hg5
            have hu5 : w5.cell? ⟨g, j, none⟩ = some cur[j] := by simp [World.cell?, hg5, hjc]
            have hf5 : w5.frozen? ⟨g, j, none⟩ = false := by simp [World.frozen?, hg5]
            have N5 := Lib.hid (NX.out w5 M5.out)
            clear hg5
            generalize cur[j] = u0 at hu5
            go_wp2_with fail
            go_roundw
            case rel => exact ⟨i + 1, by go_num, by omega, N5.out.1, N5.out.2.1, N5.out.2.2⟩
            case measure => simp [intOf]; omega
          · have hRn : R = none := by rw [RES.out, fitsD_not HP.out (by simp; omega)]; rfl
            subst hRn
            have e1 : decide ((zs.length : Int) ≤ (j : Int)) = true := by simp; omega
            have e2 : decide (zs.length ≤ j) = true := by simp; omega
            have FIN : Hid (DidDo w none (.returned (.tuple #[.slice none 0 0, .slice none 0 0, .int .i64 3])) wr) := Lib.hid ⟨rfl, Turned.mono (turned_own (F := fun _ => False) (HM2.out.trans M3.out) HT.out (fun k q => .inr (by have := N3.out k q; have := HM2.out.size; omega))) (fun _ _ q => q)⟩
            clear hj hlen2
            go_wp2_with fail
            go_ret3
            exact FIN.out
        · obtain rfl : i = D.length := by omega
          have FIN : Hid (DidDo w R (.returned (.tuple #[.slice a' zs.length cap', .slice an K.length cn, .int .i64 0])) wr) := Lib.hid (by
            have hf := HFI.out
            have hrw := HRW.out
            rw [List.take_length] at hf hrw
            rw [RES.out, if_pos hf]
            have hlen2 : (applyD zs D).length = zs.length := applyD_len D zs
            have hown : ∀ k, owned a' k → w.heap.size ≤ k := fun k q => by have := N3.out k q; have := HM2.out.size; omega
            refine ⟨_, _, rfl, ?_, ?_, Turned.mono (turned_own (F := fun _ => False) (HM2.out.trans M3.out) HT.out (fun k q => .inr (hown k q))) (fun _ _ q => q)⟩
            · have := hrw.own (base := w.heap.size) hown
              unfold Rw
              rw [List.length_map, hlen2] at this
              rw [hlen2]; exact this
            · have hlt : ∀ k, (Value.slice an K.length cn).ownBlock = some k → k < w2.heap.size := fun k q => (R2.out.lt k q).2
              refine PRw.of_block (R2.out.more M3.out) fun k q ob ho => ?_
              rw [Turned.block HT.out k (lt_of_heap ho) (fun r => by have := N3.out k r; have := hlt k q; omega)]; exact ho)
          go_wp2_with fail
          go_ret3
          exact FIN.out
end Go.Proofs.Ytjoeminkdafmaaa
