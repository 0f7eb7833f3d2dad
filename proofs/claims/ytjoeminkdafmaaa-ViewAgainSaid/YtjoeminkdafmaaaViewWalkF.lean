/-
  The walk over ViewAgain.
-/
import Derived.Test.YtjoeminkdafmaaaViewWalkB
import Derived.Test.YtjoeminkdafmaaaViewMany
namespace Go.Proofs.Ytjoeminkdafmaaa
open Go.RowKit Go.Sort Go.Maps Go.Shelf
set_option linter.unusedVariables false
set_option linter.unusedSimpArgs false

set_option maxRecDepth 100000 in
set_option maxHeartbeats 16000000 in
theorem again_walk (a0 : Option Addr) (cap0 : Nat) (zs : List Int) (a1 : Option Addr) (cap1 : Nat) (l : List Ins3) (w : World) (h0 : IsWords w a0 zs) (o0 : OkW zs) (m0 : zs.length ≤ 9223372036854775807) (h1 : IsIns w a1 l) (o1 : OkP l) (m1 : l.length ≤ 9223372036854775807) :
    Calls Try.prog 6 #[.slice a0 zs.length cap0, .slice a1 l.length cap1] w (Gives w (.bool true)) := by
  have henter := enters_of Try.func22 (by kernel_rfl) rfl
  have hmf : ∀ (fn : Fn) (first cap : Array Value) (w : World), (Instr.makeFunc fn first cap).run Try.prog w = .ok (.func fn first cap) w := fun _ _ _ _ => rfl
  have M0 : More w (w.alloc (.cells #[.slice a1 l.length cap1] 23)) := (More.refl w).alloc _
  have hb := heap_new w (.cells #[.slice a1 l.length cap1] 23)
  have HM0 := Lib.hid M0
  have HB := Lib.hid hb
  have hsz : w.heap.size < (w.alloc (.cells #[.slice a1 l.length cap1] 23)).heap.size := by simp
  obtain ⟨bc, _, _⟩ := box_cells hb
  clear M0 hb
  by_cases hg : zs.length ≤ 60 ∧ l.length ≤ 100
  · obtain ⟨hk, hl⟩ := hg
    have d0 : decide ((60 : Int) < (zs.length : Int)) = false := by simp; omega
    have d1 : decide ((100 : Int) < (l.length : Int)) = false := by simp; omega
    obtain ⟨R, hR⟩ : ∃ R, doP (fun K => runP (look K) l false 0 []) zs (zs.length + 1) [] = R := ⟨_, rfl⟩
    have D1 := Lib.hid (do_ok a0 cap0 zs (fun K => runP (look K) l false 0 []) R l.length (w.alloc (.cells #[.slice a1 l.length cap1] 23)) (h0.more HM0.out) (by omega) o0 (fine_plays o0 (by omega) o1) (by omega) hR 22 #[.pointer (some ⟨w.heap.size, 0, none⟩)] henter
        (fun K hK W F p m v n => clo_again F p w.heap.size (look K) a1 cap1 l _ W v (m.block HB.out) (h1.more (HM0.out.trans m)) (by omega) (fun h0 k hk hf => by
          have := ins_lt h1 h0 k hk; have := n k hf; omega) o1 (okK_look (okPs_of hK o0 (by omega))) rfl))
    have H0 := Lib.hid h0
    have H1 := Lib.hid h1
    have O0 := Lib.hid o0
    have O1 := Lib.hid o1
    have HR := Lib.hid hR
    clear h0 h1 o0 o1 henter hR
    go_enter Try.func6, Try.ntmps6
    go_wp2_with fail
    refine D1.out.mono ?_
    intro e1 w2 he1
    cases R with
    | none =>
      obtain ⟨rfl, hm2⟩ := he1
      have M2 := Lib.hid (HM0.out.trans hm2)
      clear hm2 D1
      go_wp2_with fail
      refine (lives_ok w2).mono ?_
      rintro e w3 ⟨rfl, hm3⟩
      have M3 := Lib.hid (M2.out.trans hm3)
      clear hm3
      go_wp2_with fail
      go_ret
      exact ⟨rfl, M3.out⟩
    | some r =>
      obtain ⟨xs, K'⟩ := r
      obtain ⟨v1, v2, rfl, r1, q1, hm2⟩ := he1
      obtain ⟨a2, c2, rfl, i1, _⟩ := q1.reads
      have M2 := Lib.hid (HM0.out.trans hm2)
      have bc2 := hm2.cell bc
      have BC2 := Lib.hid bc2
      have RW1 := Lib.hid r1
      have IP1 := Lib.hid i1
      have L2 := Lib.hid (H1.out.more M2.out)
      have DO0 : Hid (RefDoOn w2 w2 zs (fun K => runP (look K) l false 0 []) (some (xs, K')) [] (.slice none 0 0)) := Lib.hid ⟨okKn_nil zs, HR.out, PRw.nil _ _, More.refl _⟩
      clear hm2 r1 q1 i1 D1 bc bc2
      go_wp2_with fail
      go_loopw [8, 9] (fun u8 u9 wr => ∃ K : List KV, u9 = .int .i64 K.length ∧ RefDoOn w2 wr zs (fun K => runP (look K) l false 0 []) (some (xs, K')) K u8) (fun _ u9 _ => zs.length + 1 - (intOf u9).toNat)
      case atStart => exact ⟨[], rfl, DO0.out⟩
      case round =>
        obtain ⟨K, rfl, hdo⟩ := hrel
        obtain ⟨an, cn, rfl, hpn, _⟩ := hdo.row.reads
        have DO := Lib.hid hdo
        have hKl := hdo.okn.len
        have dK : decide (K.length ≤ zs.length) = true := by simpa using hKl
        have bcr := hdo.more.cell BC2.out
        have RUN := Lib.hid (lruns_ok an a1 cn cap1 K l _ wr hpn (L2.out.more hdo.more) (by omega) (by omega) (okPs_of hdo.okn O0.out (by omega)) O1.out rfl)
        have HFK := Lib.hid (fine_plays O0.out (by omega) O1.out K hdo.okn)
        have PN := Lib.hid hpn
        clear hdo hpn DO0
        obtain ⟨r, hs⟩ : ∃ r, runP (look K) l false 0 [] = r := ⟨_, rfl⟩
        rw [hs] at RUN
        have HS := Lib.hid hs
        have hfk := HFK.out
        simp only at hfk
        rw [hs] at hfk
        clear hs
        go_wp2_with fail
        refine RUN.out.mono ?_
        intro e w3 he
        cases r with
        | need x =>
          obtain ⟨rfl, hm3⟩ := he
          have hx0 : 0 ≤ x := hfk.1
          have hxn : look K x = none := hfk.2.2
          obtain ⟨j, rfl⟩ : ∃ j : Nat, x = j := ⟨x.toNat, by omega⟩
          have hj : j < zs.length := by
            by_cases q : j < zs.length
            · exact q
            · have := doP_far DO.out.okn HS.out (by omega) DO.out.res
              cases this
          obtain ⟨q1, q2, q3, q4⟩ := doP_need DO.out.okn HFK.out HS.out (by omega) DO.out.res
          have HM3 : Hid (More wr w3) := Lib.hid hm3
          have XN := Lib.hid hxn
          have NX : Hid (∀ w4 v, PRw w2.heap.size w4 v (K ++ [((j : Int), wAt zs j)]) → More w2 w4 → RefDoOn w2 w4 zs (fun K => runP (look K) l false 0 []) (some (xs, K')) (K ++ [((j : Int), wAt zs j)]) v) := Lib.hid fun w4 v h1 h2 => ⟨q1, q2, h1, h2⟩
          have d2 : decide ((j : Int) < 0) = false := by simp
          clear hm3 RUN q1 q2 q3 q4 hfk hxn
          have d3 : decide (zs.length ≤ j) = false := by simp; omega
          have d4 : decide ((zs.length : Int) ≤ (j : Int)) = false := by simp; omega
          go_wp2_with fail
          go_loopw [14] (fun u14 wr => ∃ k : Nat, u14 = .int .i64 k ∧ k ≤ K.length ∧ More w3 wr) (fun u14 _ => K.length - (intOf u14).toNat)
          case atStart => exact ⟨0, rfl, by omega, More.refl _⟩
          case round =>
            obtain ⟨k, rfl, hk2, hmk⟩ := hrel
            have HMK := Lib.hid hmk
            clear hmk
            by_cases hkl : k < K.length
            · obtain ⟨⟨y, z⟩, hp⟩ : ∃ p, K[k]? = some p := ⟨_, List.getElem?_eq_getElem hkl⟩
              obtain ⟨s, o, rfl, hs, hc⟩ := (PN.out.more (HM3.out.trans HMK.out)).resolve_left (by intro q; rw [q] at hkl; simp at hkl)
              obtain ⟨c0, _⟩ := hc k _ hp
              simp only at c0
              have hne : y ≠ (j : Int) := look_none_iff.1 XN.out _ (List.mem_of_getElem? hp)
              have b0 : (y == (j : Int)) = false := by simpa using hne
              clear hc hp hne
              go_wp2_with fail
              go_roundw
              case rel => exact ⟨k + 1, by go_num, by omega, HMK.out⟩
              case measure => simp [intOf]; omega
            · obtain rfl : k = K.length := by omega
              have M4 : Hid (More w2 wr) := Lib.hid ((DO.out.more.trans HM3.out).trans HMK.out)
              have T4 : Hid (Turned (fun _ => False) w2 wr) := M4
              have R4 : Hid (PRw w2.heap.size wr (.slice an K.length cn) K) := Lib.hid (DO.out.row.more (HM3.out.trans HMK.out))
              obtain ⟨g, o, rfl, hgz, hcz⟩ := (H0.out.more (M2.out.trans M4.out)).resolve_left (by intro q; rw [q] at hj; simp at hj)
              have cw : wr.cell? ⟨g, o + j, none⟩ = some (.int .i64 (wAt zs j)) := hcz j hj
              clear hcz hkl
              generalize wAt zs j = z at cw NX
              go_wp2_with (at_builtin; refine wpList_pair (S := fun _ => False) (wa := w2) (ps := K) (j : Int) z rfl _ _ rfl rfl R4.out T4.out (by omega) rfl ?_; intro g4 c4 w4 h4 t4 _; have N4 := Lib.hid (NX.out _ _ h4 t4); clear h4 t4)
              go_roundw
              case rel => exact ⟨K ++ [((j : Int), z)], by rw [List.length_append]; go_num, N4.out⟩
              case measure => simp [intOf]; omega
        | done D =>
          obtain ⟨v, rfl, hr, hm3⟩ := he
          obtain ⟨ad, cd, rfl, hpd, hbd⟩ := hr.reads
          have hDl : D.length ≤ 1000 := by have := hfk.2.2; omega
          have RES := doP_done DO.out.okn HS.out DO.out.res
          have hfit : fitsD zs D = true := by
            cases q : fitsD zs D with
            | true => rfl
            | false => rw [q] at RES; cases RES
          rw [hfit] at RES
          simp only [if_true, Option.some.injEq, Prod.mk.injEq] at RES
          obtain ⟨rx, rk⟩ := RES
          have hxl : xs.length = zs.length := by rw [rx]; exact applyD_len D zs
          subst rk
          have FIT := Lib.hid hfit
          have RX := Lib.hid rx
          have HD := Lib.hid hpd
          have HO := Lib.hid hfk.1
          have HM3 : Hid (More w2 w3) := Lib.hid (DO.out.more.trans hm3)
          have KN := Lib.hid (PN.out.more hm3)
          have ZW := Lib.hid (H0.out.more (M2.out.trans HM3.out))
          clear hr hm3 hpd hfk RUN hbd hfit rx
          go_wp2_with (at_builtin; refine wpList_words rfl _ _ rfl rfl rfl ZW.out (by omega) ?_; intro a' cap' w4 h4 n4 m4; have RW := Lib.hid h4; have N4 := Lib.hid n4; have M4 := Lib.hid m4; clear h4 n4 m4)
          have NE : Hid (∀ k, leads ad k → D ≠ [] → ¬ owned a' k) := Lib.hid fun k hk h0 q => by
            have := N4.out k q
            obtain ⟨s, o, rfl, hs, _⟩ := HD.out.resolve_left h0
            have hk' : s = k := by simpa [leads] using hk
            omega
          go_loopw [13] (fun u wr => ∃ i : Nat, u = .int .i64 i ∧ i ≤ D.length ∧ RowAt wr 3 ((applyD zs (D.take i)).map (Value.int .i64)) a' cap' ∧ Turned (owned a') w4 wr) (fun u _ => D.length - (intOf u).toNat)
          case atStart => exact ⟨0, rfl, by omega, RW.out, Turned.refl _ _⟩
          case round =>
            obtain ⟨i, rfl, hi, hr, ht⟩ := hrel
            have HRW := Lib.hid hr; have HT := Lib.hid ht
            clear hr ht
            by_cases hlt : i < D.length
            · obtain ⟨⟨k, v⟩, hp⟩ : ∃ p, D[i]? = some p := ⟨_, List.getElem?_eq_getElem hlt⟩
              have hne : D ≠ [] := by intro q; rw [q] at hlt; simp at hlt
              have NE2 : Hid (∀ k, leads ad k → ¬ owned a' k) := Lib.hid fun k hk => NE.out k hk hne
              obtain ⟨s, o, rfl, hs, hc⟩ := ((HD.out.more M4.out).keep HT.out NE2.out).resolve_left hne
              obtain ⟨c0, c1⟩ := hc i _ hp
              simp only at c0 c1
              obtain ⟨hk0, _, _⟩ := HO.out _ (List.mem_of_getElem? hp)
              simp only at hk0
              have hj0 : k < zs.length := by
                have := FIT.out
                unfold fitsD at this
                have := List.all_eq_true.1 this _ (List.mem_of_getElem? hp)
                simpa using this
              have HP := Lib.hid hp
              clear hc hp hne
              obtain ⟨j, rfl⟩ : ∃ j : Nat, k = j := ⟨k.toNat, by omega⟩
              have hlen2 := applyD_len (D.take i) zs
              have hj : j < zs.length := by omega
              have e1 : decide ((zs.length : Int) ≤ (j : Int)) = false := by simp; omega
              have e2 : decide (zs.length ≤ j) = false := by simp; omega
              have e3 : decide ((j : Int) < 0) = false := by simp
              have hrow := HRW.out
              rcases hrow with ⟨rfl, rfl, hx⟩ | ⟨g, cur, rfl, hg, hn, hm, hsz, htk⟩
              · have := congrArg List.length hx; rw [List.length_map, hlen2, List.length_nil] at this; omega
              have HG := Lib.hid hg
              have hjc : j < cur.size := by rw [List.length_map, hlen2] at hn; omega
              have NX : Hid (∀ w5, More wr w5 → RowAt (w5.setCell ⟨g, j, none⟩ (.int .i64 v)) 3 ((applyD zs (D.take (i + 1))).map (Value.int .i64)) (some ⟨g, 0, none⟩) cap' ∧ Turned (owned (some ⟨g, 0, none⟩)) w4 (w5.setCell ⟨g, j, none⟩ (.int .i64 v))) := Lib.hid (by
                intro w5 hm5
                rw [take_next HP.out, applyD_snoc]
                refine ⟨?_, turned_setCell (turned_own (F' := fun _ => False) HT.out hm5 (fun _ q => q.elim)) (fun _ => rfl) _⟩
                have r2 := rowAt_set (i := j) (.int .i64 v) (HRW.out.keep hm5 (fun _ _ q => q)) (by simp [hlen2]; omega)
                simpa [List.map_set] using r2)
              clear hn hm hsz htk hg hlen2
              go_wp2_with fail
              go_still_tail 12, (by kernel_rfl)
              change wpList _ _ _ _ _ wr.drew
              have M5 : Hid (More wr wr.drew) := Lib.hid (More.refl wr).drew
              generalize wr.drew = w5 at M5 ⊢
              have hg5 := M5.out.block HG.out
              have hgl5 := lt_of_heap hg5
              have hu5 : w5.cell? ⟨g, j, none⟩ = some cur[j] := by simp [World.cell?, hg5, hjc]
              have hf5 : w5.frozen? ⟨g, j, none⟩ = false := by simp [World.frozen?, hg5]
              have N5 := Lib.hid (NX.out w5 M5.out)
              clear hg5
              generalize cur[j] = u0 at hu5
              go_wp2_with fail
              go_roundw
              case rel => exact ⟨i + 1, by go_num, by omega, N5.out.1, N5.out.2⟩
              case measure => simp [intOf]; omega
            · obtain rfl : i = D.length := by omega
              have hrw := HRW.out
              rw [List.take_length, ← RX.out] at hrw
              have hown : ∀ k, owned a' k → w2.heap.size ≤ k := fun k q => by have := N4.out k q; have := HM3.out.size; omega
              have M5 : More w2 wr := Turned.mono (turned_own (F := fun _ => False) (HM3.out.trans M4.out) HT.out (fun k q => .inr (hown k q))) (fun _ _ q => q)
              have M5' := Lib.hid (M2.out.trans M5)
              have rown : Rw w2.heap.size wr (.slice a' zs.length cap') xs := by
                have := hrw.own (base := w2.heap.size) hown
                unfold Rw
                rw [List.length_map, hxl] at this
                rw [hxl]; exact this
              have SI : Hid (∀ w5, More wr w5 → Calls Try.prog 17 #[.slice a' zs.length cap', v1] w5 (Gives w5 (.bool true))) := Lib.hid fun w5 m => rows_same xs _ v1 _ _ w5 (by omega) (rown.more m) (RW1.out.more (M5.trans m))
              have KN5 : IsPairs wr an K' := by
                rcases KN.out with h | ⟨s, o, rfl, hs, hc⟩
                · exact .inl h
                · refine (KN.out.more M4.out).keep HT.out (fun k hk q => ?_)
                  have hk' : s = k := by simpa [leads] using hk
                  have := N4.out k q; omega
              have SP := Lib.hid (pairs_same K' an a2 cn c2 wr (by omega) KN5 (IP1.out.more M5))
              clear hrw rown M5 KN5 hlt
              go_wp2_with fail
              refine SP.out.mono ?_
              rintro e w6 ⟨rfl, hm6⟩
              have M6 := Lib.hid (M5'.out.trans hm6)
              have S6 := Lib.hid (SI.out w6 hm6)
              clear hm6
              go_wp2_with fail
              refine S6.out.mono ?_
              rintro e w7 ⟨rfl, hm7⟩
              have M7 := Lib.hid (M6.out.trans hm7)
              clear hm7
              go_wp2_with fail
              refine (lives_ok w7).mono ?_
              rintro e w8 ⟨rfl, hm8⟩
              have M8 := Lib.hid (M7.out.trans hm8)
              clear hm8
              go_wp2_with fail
              go_ret
              exact ⟨rfl, M8.out⟩
  · have d3 : (decide ((60 : Int) < (zs.length : Int)) = true) ∨ (decide ((60 : Int) < (zs.length : Int)) = false ∧ decide ((100 : Int) < (l.length : Int)) = true) := by
      simp; omega
    clear h0 h1 o0 o1 hg henter
    rcases d3 with d0 | ⟨d0, d1⟩
    all_goals
      go_enter Try.func6, Try.ntmps6
      go_wp2_with fail
      refine (lives_ok _).mono ?_
      rintro e w3 ⟨rfl, hm3⟩
      have M3 := Lib.hid (HM0.out.trans hm3)
      clear hm3
      go_wp2_with fail
      go_ret
      exact ⟨rfl, M3.out⟩
end Go.Proofs.Ytjoeminkdafmaaa
