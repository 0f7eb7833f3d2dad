/-
  The walk over SortedOthers.
-/
import Derived.Test.YtcaddbgoeoclnaaSortedLives
import Derived.Test.YtcaddbgoeoclnaaSortedFill
import Derived.StillTailTactics
import Derived.Deep.DeepMust
namespace Go.Proofs.Ytcaddbgoeoclnaa
open Go.RowKit Go.Sort
set_option linter.unusedVariables false
set_option linter.unusedSimpArgs false

set_option maxRecDepth 100000 in
set_option maxHeartbeats 4000000 in
theorem others_walk (a : Option Addr) (len cap : Nat) (f : Nat → Act3) (k : Int) (v : ByteArray) (w : World) (h : IsActs w a len f) (hm : len ≤ 9223372036854775807) (hv : v.size ≤ 9223372036854775807) :
    Calls Try.prog 7 #[.slice a len cap, .int .i64 k, .string v] w (Gives w (.bool true)) := by
  have HA := Lib.hid h
  clear h
  go_enter Try.func7, Try.ntmps7
  go_wp2_with fail
  refine (great_ok a len cap f w HA.out hm).mono ?_
  rintro e w0 ⟨hg, h0⟩
  obtain rfl : w = w0 := h0.symm
  rcases hg with rfl | ⟨rfl, hle⟩
  · go_wp2_with (go_at_call 9; refine (lives_ok _).mono ?_; rintro e w1 ⟨rfl, hM⟩; have HM := Lib.hid hM; clear hM)
    go_ret
    exact ⟨rfl, HM.out⟩
  cases d : decide ((100 : Int) < (v.size : Int)) with
  | true =>
    go_wp2_with (go_at_call 9; refine (lives_ok _).mono ?_; rintro e w1 ⟨rfl, hM⟩; have HM := Lib.hid hM; clear hM)
    go_ret
    exact ⟨rfl, HM.out⟩
  | false =>
    go_wp2_with fail
    refine (new_ok w).mono ?_
    rintro e w1 ⟨F1, p, rfl, m1, M1, n1⟩
    have H1 := Lib.hid m1; have K1 := Lib.hid M1; have N1 := Lib.hid n1
    clear m1 M1 n1
    go_wp2_with fail
    go_loopw [8] (fun i wr => ∃ j F, j ≤ len ∧ i = .int .i64 (j : Nat) ∧ MapAt wr F p (putAll f j) ∧ More w wr ∧ ∀ k, F k → w.heap.size ≤ k) (fun i _ => len - (intOf i).toNat)
    case atStart => exact ⟨0, F1, Nat.zero_le _, rfl, H1.out, K1.out, N1.out⟩
    case round =>
      obtain ⟨j, F, hj, rfl, hmap, hM, hF⟩ := hrel
      have HMAP := Lib.hid hmap; have HM := Lib.hid hM; have HF := Lib.hid hF
      clear hmap hM hF H1 K1 N1
      have hsz := putAll_len f j
      by_cases hlt : j < len
      · obtain ⟨s, o, rfl, hs, hc⟩ := HA.out.resolve_left (by omega)
        obtain ⟨_, x1, x2, _⟩ := hc j hlt
        have y1 := HM.out.cell x1
        have y2 := HM.out.cell x2
        have hs' := Nat.lt_of_lt_of_le hs HM.out.size
        clear x1 x2 hc hs
        have HX : Hid (putAll f (j + 1) = putD (putAll f j) (f j).2.1 (f j).2.2) := Lib.hid rfl
        generalize (f j).2.1 = kj at y1 HX
        generalize (f j).2.2 = vj at y2 HX
        have HX2 : Hid (MapAt wr.drew F p (putAll f j)) := Lib.hid (HMAP.out.more ((More.refl wr).drew))
        have HM2 : Hid (More w wr.drew) := Lib.hid (HM.out.drew)
        go_wp2_with fail
        go_still_tail 11, (by kernel_rfl)
        change wpList _ _ _ _ _ wr.drew
        generalize wr.drew = w2 at HX2 HM2 ⊢
        go_wp2_with fail
        refine (put_ok F p (putAll f j) kj vj w2 HX2.out (by omega)).mono ?_
        rintro e w3 ⟨rfl, F3, m3, t3, n3⟩
        have H3 := Lib.hid m3; have K3 := Lib.hid (more_own HM2.out t3 HF.out); have N3 := Lib.hid (own_on HM2.out.size HF.out n3)
        clear m3 t3 n3
        go_wp2_with fail
        go_roundw
        case rel => exact ⟨j + 1, F3, by omega, by go_num, by rw [HX.out]; exact H3.out, K3.out, N3.out⟩
        case measure => simp [intOf]; omega
      · obtain rfl : j = len := by omega
        clear hlt hj
        have HD := Lib.hid (putAll_has f j)
        have hasc := putAll_asc f j
        obtain ⟨D, hD⟩ : ∃ D, D = putAll f j := ⟨_, rfl⟩
        rw [← hD] at HMAP hsz HD hasc
        clear hD
        go_wp2_with fail
        refine (copy_ok F p D wr HMAP.out).mono ?_
        rintro e w2 ⟨Fc, c, rfl, mc, Mc, nc⟩
        have hdis0 : ∀ x, F x → ¬ Fc x := fun x hx hy => by have := HMAP.out.lt x hx; have := nc x hy; omega
        have HC := Lib.hid mc; have HM2 := Lib.hid (HMAP.out.more Mc); have K2 := Lib.hid (HM.out.trans Mc); have HDIS := Lib.hid hdis0
        have HFC : Hid (∀ x, Fc x → x < w2.heap.size) := Lib.hid mc.lt
        clear mc Mc nc hdis0 HM HMAP
        go_wp2_with fail
        refine (put_ok F p D k v w2 HM2.out (by omega)).mono ?_
        rintro e w3 ⟨rfl, F3, m3, t3, n3⟩
        have H3 := Lib.hid m3; have K3 := Lib.hid (more_own K2.out t3 HF.out); have N3 := Lib.hid (own_on K2.out.size HF.out n3)
        have HC3 := Lib.hid (HC.out.keep t3 (fun x hx hy => HDIS.out x hy hx))
        have hdis3 : ∀ x, F3 x → ¬ Fc x := fun x hx hy => by
          rcases n3 x hx with q | q
          · exact HDIS.out x q hy
          · have := HFC.out x hy; omega
        have HDIS3 := Lib.hid hdis3
        clear m3 t3 n3 hdis3 HC HM2 K2 HDIS HFC
        -- what the map holds now
        have L3 : Hid (look (putD D k v) k = some v) := Lib.hid (by rw [look_putD hasc]; simp)
        have N3' : Hid ((putD D k v).length = if (look D k).isSome then D.length else D.length + 1) := Lib.hid (len_putD hasc k v)
        have O3 : Hid (∀ x, x ≠ k → look (putD D k v) x = look D x) := Lib.hid (fun x hx => by rw [look_putD hasc, if_neg hx])
        have A3 : Hid (Asc (putD D k v)) := Lib.hid (asc_putD hasc k v)
        obtain ⟨E, hE⟩ : ∃ E, E = putD D k v := ⟨_, rfl⟩
        rw [← hE] at H3 L3 N3' O3 A3
        clear hE
        go_wp2_with fail
        refine (get_ok F3 p E k w3 H3.out).mono ?_
        rw [L3.out]
        rintro e w4 ⟨rfl, q4, rfl⟩
        have H4 := Lib.hid (H3.out.more (more_drewN w3 q4)); have C4 := Lib.hid (HC3.out.more (more_drewN w3 q4)); have K4 : Hid (More w (w3.drewN q4)) := Lib.hid (K3.out.drewN q4)
        clear H3 HC3 K3
        generalize w3.drewN q4 = w4 at H4 C4 K4 ⊢
        have b1 : (v.toList == v.toList) = true := by simp
        have hll : E.length ≤ D.length + 1 := by have := N3'.out; split at this <;> omega
        have b2 : ((E.length : Int) == (D.length : Int) + 1) = (look D k).isNone := by
          have := N3'.out
          cases q : look D k with
          | none => rw [q] at this; simp at this; simp; omega
          | some u => rw [q] at this; simp at this; simp; omega
        simp only [Option.getD_some, Option.isSome_some]
        obtain ⟨nE, hnE⟩ : ∃ n, n = E.length := ⟨_, rfl⟩
        obtain ⟨nD, hnD⟩ : ∃ n, n = D.length := ⟨_, rfl⟩
        rw [← hnE, ← hnD] at b2
        rw [← hnE, ← hnD] at hll
        rw [← hnD] at hsz
        have CL := Lib.hid (fun w h => len_ok F3 p E w h)
        have CLD := Lib.hid (fun w h => len_ok Fc c D w h)
        rw [← hnE] at CL
        rw [← hnD] at CLD
        clear hnE hnD
        generalize (look D k).isNone = b at b2 ⊢
        go_wp2_with (go_at_call 20; first | (refine (CL.out _ H4.out).mono ?_; rintro e w5 ⟨rfl, rfl⟩) | (refine (CLD.out _ C4.out).mono ?_; rintro e w5 ⟨rfl, rfl⟩))
        go_loopw [13] (fun i wr => ∃ t : Nat, t ≤ j ∧ i = .int .i64 (t : Nat) ∧ MapAt wr F3 p E ∧ MapAt wr Fc c D ∧ More w wr) (fun i _ => j - (intOf i).toNat)
        case atStart => exact ⟨0, Nat.zero_le _, rfl, H4.out, C4.out, K4.out⟩
        case round =>
          obtain ⟨t, ht, rfl, he, hd, hM⟩ := hrel
          have HE := Lib.hid he; have HDD := Lib.hid hd; have HM := Lib.hid hM
          clear he hd hM H4 C4 K4
          by_cases hlt : t < j
          · obtain ⟨s, o, rfl, hs, hc⟩ := HA.out.resolve_left (by omega)
            obtain ⟨_, x1, _, _⟩ := hc t hlt
            have XX := Lib.hid x1
            have hsome := HD.out t hlt
            have OO : Hid ((f t).2.1 ≠ k → look E (f t).2.1 = look D (f t).2.1) := Lib.hid (O3.out _)
            have hE2 : (look E (f t).2.1).isSome = true := by
              by_cases q : (f t).2.1 = k
              · rw [q, L3.out]; rfl
              · rw [OO.out q]; exact hsome
            clear x1 hc
            generalize (f t).2.1 = kt at XX hsome OO hE2
            obtain ⟨u, hu⟩ := Option.isSome_iff_exists.1 hsome
            obtain ⟨z, hz⟩ := Option.isSome_iff_exists.1 hE2
            have HU := Lib.hid hu; have HZ := Lib.hid hz
            clear hsome hE2 hu hz
            have y1 := HM.out.cell XX.out
            have hs' := Nat.lt_of_lt_of_le hs HM.out.size
            go_wp2_with fail
            refine (get_ok Fc c D kt _ HDD.out).mono ?_
            rw [HU.out]
            rintro e w6 ⟨rfl, q6, rfl⟩
            have HE6 := Lib.hid (HE.out.more (more_drewN wr q6)); have HD6 := Lib.hid (HDD.out.more (more_drewN wr q6)); have M6 : Hid (More w (wr.drewN q6)) := Lib.hid (HM.out.drewN q6)
            clear HE HDD HM y1 hs'
            generalize wr.drewN q6 = w6 at HE6 HD6 M6 ⊢
            have y1 := M6.out.cell XX.out
            have hs' := Nat.lt_of_lt_of_le hs M6.out.size
            go_wp2_with fail
            refine (get_ok F3 p E kt _ HE6.out).mono ?_
            rw [HZ.out]
            rintro e w7 ⟨rfl, q7, rfl⟩
            have HE7 := Lib.hid (HE6.out.more (more_drewN w6 q7)); have HD7 := Lib.hid (HD6.out.more (more_drewN w6 q7)); have M7 : Hid (More w (w6.drewN q7)) := Lib.hid (M6.out.drewN q7)
            clear HE6 HD6 M6 y1 hs'
            generalize w6.drewN q7 = w7 at HE7 HD7 M7 ⊢
            have y1 := M7.out.cell XX.out
            have hs' := Nat.lt_of_lt_of_le hs M7.out.size
            simp only [Option.getD_some, Option.isSome_some]
            by_cases hk : kt = k
            · have d1 : (kt != k) = false := by simpa using hk
              clear hk
              go_wp2_with fail
              all_goals go_roundw
              case rel => exact ⟨t + 1, by omega, by go_num, HE7.out, HD7.out, M7.out⟩
              case measure => simp [intOf]; omega
            · have d1 : (kt != k) = true := by simpa using hk
              have huz : u = z := by
                have := OO.out hk
                rw [HU.out, HZ.out] at this
                simpa using this.symm
              subst huz
              clear hk
              have b3 : (u.toList == u.toList) = true := by simp
              go_wp2_with fail
              all_goals go_roundw
              case rel => exact ⟨t + 1, by omega, by go_num, HE7.out, HD7.out, M7.out⟩
              case measure => simp [intOf]; omega
          · obtain rfl : t = j := by omega
            clear hlt ht
            go_wp2_with fail
            refine (cut_ok F3 p E k _ HE.out).mono ?_
            rw [L3.out]
            rintro e w6 ⟨rfl, F6, m6, t6, n6⟩
            have H6 := Lib.hid m6; have K6 := Lib.hid (more_own HM.out t6 N3.out)
            have hsz6 := HM.out.size
            have N6 : Hid (∀ x, F6 x → w.heap.size ≤ x) := Lib.hid (own_on hsz6 N3.out n6)
            clear m6 t6 n6 HE HDD HM
            have L6 : Hid (look (cutD E k) k = none) := Lib.hid (by rw [look_cutD]; simp)
            obtain ⟨G, hG⟩ : ∃ G, G = cutD E k := ⟨_, rfl⟩
            rw [← hG] at H6 L6
            clear hG
            go_wp2_with fail
            refine (get_ok F6 p G k _ H6.out).mono ?_
            rw [L6.out]
            rintro e w7 ⟨rfl, q7, rfl⟩
            have H7 := Lib.hid (H6.out.more (more_drewN w6 q7)); have K7 : Hid (More w (w6.drewN q7)) := Lib.hid (K6.out.drewN q7)
            clear H6 K6
            generalize w6.drewN q7 = w7 at H7 K7 ⊢
            simp only [Option.getD_none, Option.isSome_none]
            have CC := Lib.hid (cut_ok F6 p G k w7 H7.out)
            rw [L6.out] at CC
            go_wp2_with fail
            refine CC.out.mono ?_
            rintro e w8 ⟨rfl, F8, m8, t8, n8⟩
            have K8 := Lib.hid (more_own K7.out t8 N6.out)
            clear m8 t8 n8 H7 K7
            simp only [Option.isSome_none]
            go_wp2_with (go_at_call 9; refine (lives_ok _).mono ?_; rintro e w9 ⟨rfl, hM⟩; have HM9 := Lib.hid (K8.out.trans hM); clear hM)
            go_ret
            exact ⟨rfl, HM9.out⟩
end Go.Proofs.Ytcaddbgoeoclnaa
