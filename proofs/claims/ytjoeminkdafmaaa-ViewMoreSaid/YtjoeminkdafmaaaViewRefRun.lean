/-
  The document's own answers of layer 7: a run.
-/
import Derived.Test.YtjoeminkdafmaaaViewPut
namespace Go.Proofs.Ytjoeminkdafmaaa
open Go.RowKit Go.Sort Go.Maps
set_option linter.unusedVariables false
set_option linter.unusedSimpArgs false

/-- What a run answers. -/
def RanR (w : World) (R : Ran) (e : Ending) (w' : World) : Prop :=
  match R with
  | .need a => e = .returned (.tuple #[.int .i64 a, .slice none 0 0]) ∧ More w w'
  | .done D => ∃ v, e = .returned (.tuple #[.int .i64 (-1), v]) ∧ PRw w.heap.size w' v D ∧ More w w'
/-- The document's run on its way. -/
structure RefOn (w wr : World) (K : List KV) (l : List Ins3) (R : Ran) (i : Nat) (x : Int) (v : Value) : Prop where
  ex : ∃ D, PRw w.heap.size wr v D ∧ Asc D ∧ runP (look K) (l.drop i) false x D = R ∧ D.length ≤ i
  more : More w wr
theorem RefOn.step {w wr w' : World} {K : List KV} {l : List Ins3} {R : Ran} {j : Nat} {y : Int} {v' : Value} {D : List KV} (hm : More w wr) (t : More wr w') (hr : PRw wr.heap.size w' v' D) (hA : Asc D) (hR : runP (look K) (l.drop j) false y D = R) (hl : D.length ≤ j) : RefOn w w' K l R j y v' :=
  ⟨⟨D, hr.mono hm.size, hA, hR, hl⟩, hm.trans t⟩

set_option maxRecDepth 100000 in
set_option maxHeartbeats 4000000 in
theorem rrun_ok (ak al : Option Addr) (ck cl : Nat) (K : List KV) (l : List Ins3) (R : Ran) (w : World) (hK : IsPairs w ak K) (hL : IsIns w al l) (hk : K.length ≤ 1000) (hl : l.length ≤ 1000) (hR : runP (look K) l false 0 [] = R) :
    Calls Try.prog 11 #[.slice ak K.length ck, .slice al l.length cl] w (RanR w R) := by
  have ON0 : Hid (RefOn w w K l R 0 0 (.slice none 0 0)) := Lib.hid ⟨⟨[], PRw.nil _ _, asc_nil, hR, Nat.le_refl _⟩, More.refl _⟩
  have HK := Lib.hid hK
  have HL := Lib.hid hL
  clear hK hL hR
  go_enter Try.func11, Try.ntmps11
  go_wp2_with fail
  go_loopw [6, 7, 8] (fun u6 u7 u8 wr => ∃ (x : Int) (i : Nat), u6 = .int .i64 x ∧ u8 = .int .i64 i ∧ i ≤ l.length + 1 ∧ RefOn w wr K l R i x u7) (fun _ _ u8 _ => l.length + 1 - (intOf u8).toNat)
  case atStart => exact ⟨0, 0, rfl, rfl, by omega, ON0.out⟩
  case round =>
    obtain ⟨x, i, rfl, rfl, hi, hon⟩ := hrel
    clear ON0
    obtain ⟨⟨D, hr, hA, hR, hDl⟩, hm⟩ := hon
    obtain ⟨ad, cd, rfl, hd, hdb⟩ := hr.reads
    have HR := Lib.hid hr; have HA := Lib.hid hA; have RN := Lib.hid hR; have HM := Lib.hid hm; have HD := Lib.hid hd
    have hlen := hi
    clear hr hA hR hd hm hdb
    by_cases hlt : i < l.length
    · obtain ⟨⟨k, b, c⟩, ht⟩ : ∃ t, l[i]? = some t := ⟨_, List.getElem?_eq_getElem hlt⟩
      obtain ⟨s, o, rfl, hs, hc⟩ := (HL.out.more HM.out).resolve_left (by intro q; rw [q] at hlt; simp at hlt)
      obtain ⟨c0, c1, c2⟩ := hc i _ ht
      simp only at c0 c1 c2
      have HT := Lib.hid ht
      clear hc ht
      by_cases k0 : k = 0
      · subst k0
        have WD := Lib.hid (rword_ok ak ad ck cd K D b wr (HK.out.more HM.out) HD.out (by omega) (by omega))
        cases hw : wordV (look K) D b with
        | none =>
          rw [hw] at WD
          have FIN : Hid (RanR w R (.returned (.tuple #[.int .i64 b, .slice none 0 0])) wr) := Lib.hid (by rw [step0_none HT.out rfl hw RN.out]; exact ⟨rfl, HM.out⟩)
          clear hw
          go_wp2_with fail
          refine WD.out.mono ?_
          rintro e w' ⟨rfl, rfl⟩
          go_wp2_with fail
          go_ret2
          exact FIN.out
        | some y =>
          rw [hw] at WD
          have NX : Hid (RefOn w wr K l R (i + 1) y (.slice ad D.length cd)) := Lib.hid ⟨⟨D, HR.out, HA.out, step0_some HT.out rfl hw RN.out, by omega⟩, HM.out⟩
          clear hw
          go_wp2_with fail
          refine WD.out.mono ?_
          rintro e w' ⟨rfl, rfl⟩
          go_wp2_with fail
          go_roundw
          case rel => exact ⟨y, i + 1, rfl, by go_num, by omega, NX.out⟩
          case measure => simp [intOf]; omega
      by_cases k1 : k = 1
      · subst k1
        by_cases hb : b < 0
        · have NX : Hid (RefOn w wr K l R (i + 1) x (.slice ad D.length cd)) := Lib.hid (by
            have := step1 HT.out rfl RN.out
            unfold writeV at this; rw [if_pos hb] at this
            exact ⟨⟨D, HR.out, HA.out, this, by omega⟩, HM.out⟩)
          have d : decide (0 ≤ b) = false := by simp; omega
          clear hb
          go_wp2_with fail
          go_roundw
          case rel => exact ⟨x, i + 1, rfl, by go_num, by omega, NX.out⟩
          case measure => simp [intOf]; omega
        · have P := Lib.hid (rput_ok ad cd D b c wr HD.out HA.out (by omega))
          have NX : Hid (∀ w' v, PRw wr.heap.size w' v (putD D b c) → More wr w' → RefOn w w' K l R (i + 1) x v) := Lib.hid fun w' v h t => by
            have := step1 HT.out rfl RN.out
            unfold writeV at this; rw [if_neg hb] at this
            exact RefOn.step HM.out t h (asc_putD HA.out b c) this (by have := len_putD_le HA.out b c; omega)
          have d : decide (0 ≤ b) = true := by simp; omega
          clear hb
          go_wp2_with fail
          refine P.out.mono ?_
          rintro e w' ⟨v, rfl, hp, ht⟩
          have N2 := Lib.hid (NX.out w' v hp ht)
          clear hp ht
          go_wp2_with fail
          go_roundw
          case rel => exact ⟨x, i + 1, rfl, by go_num, by omega, N2.out⟩
          case measure => simp [intOf]; omega
      by_cases k2 : k = 2
      · subst k2
        by_cases hb : b < 0
        · have NX : Hid (RefOn w wr K l R (i + 1) x (.slice ad D.length cd)) := Lib.hid (by
            have := step2 HT.out rfl RN.out
            unfold writeV at this; rw [if_pos hb] at this
            exact ⟨⟨D, HR.out, HA.out, this, by omega⟩, HM.out⟩)
          have d : decide (0 ≤ b) = false := by simp; omega
          clear hb
          go_wp2_with fail
          go_roundw
          case rel => exact ⟨x, i + 1, rfl, by go_num, by omega, NX.out⟩
          case measure => simp [intOf]; omega
        · have P := Lib.hid (rput_ok ad cd D b x wr HD.out HA.out (by omega))
          have NX : Hid (∀ w' v, PRw wr.heap.size w' v (putD D b x) → More wr w' → RefOn w w' K l R (i + 1) x v) := Lib.hid fun w' v h t => by
            have := step2 HT.out rfl RN.out
            unfold writeV at this; rw [if_neg hb] at this
            exact RefOn.step HM.out t h (asc_putD HA.out b x) this (by have := len_putD_le HA.out b x; omega)
          have d : decide (0 ≤ b) = true := by simp; omega
          clear hb
          go_wp2_with fail
          refine P.out.mono ?_
          rintro e w' ⟨v, rfl, hp, ht⟩
          have N2 := Lib.hid (NX.out w' v hp ht)
          clear hp ht
          go_wp2_with fail
          go_roundw
          case rel => exact ⟨x, i + 1, rfl, by go_num, by omega, N2.out⟩
          case measure => simp [intOf]; omega
      by_cases k3 : k = 3
      · subst k3
        have WD := Lib.hid (rword_ok ak ad ck cd K D x wr (HK.out.more HM.out) HD.out (by omega) (by omega))
        cases hw : wordV (look K) D x with
        | none =>
          rw [hw] at WD
          have FIN : Hid (RanR w R (.returned (.tuple #[.int .i64 x, .slice none 0 0])) wr) := Lib.hid (by rw [step3_none HT.out rfl hw RN.out]; exact ⟨rfl, HM.out⟩)
          clear hw
          go_wp2_with fail
          refine WD.out.mono ?_
          rintro e w' ⟨rfl, rfl⟩
          go_wp2_with fail
          go_ret2
          exact FIN.out
        | some y =>
          rw [hw] at WD
          have NX : Hid (RefOn w wr K l R (i + 1) y (.slice ad D.length cd)) := Lib.hid ⟨⟨D, HR.out, HA.out, step3_some HT.out rfl hw RN.out, by omega⟩, HM.out⟩
          clear hw
          go_wp2_with fail
          refine WD.out.mono ?_
          rintro e w' ⟨rfl, rfl⟩
          go_wp2_with fail
          go_roundw
          case rel => exact ⟨y, i + 1, rfl, by go_num, by omega, NX.out⟩
          case measure => simp [intOf]; omega
      by_cases k4 : k = 4
      · subst k4
        by_cases hx : x = c
        · have NX : Hid (RefOn w wr K l R (i + 2) x (.slice ad D.length cd)) := Lib.hid ⟨⟨D, HR.out, HA.out, step4_yes HT.out rfl hx RN.out, by omega⟩, HM.out⟩
          have b1 : (x == c) = true := by simpa using hx
          clear hx
          go_wp2_with fail
          go_roundw
          case rel => exact ⟨x, i + 2, rfl, by go_num, by omega, NX.out⟩
          case measure => simp [intOf]; omega
        · have NX : Hid (RefOn w wr K l R (i + 1) x (.slice ad D.length cd)) := Lib.hid ⟨⟨D, HR.out, HA.out, step4_no HT.out rfl hx RN.out, by omega⟩, HM.out⟩
          have b1 : (x == c) = false := by simpa using hx
          clear hx
          go_wp2_with fail
          go_roundw
          case rel => exact ⟨x, i + 1, rfl, by go_num, by omega, NX.out⟩
          case measure => simp [intOf]; omega
      have NX : Hid (RefOn w wr K l R (i + 1) x (.slice ad D.length cd)) := Lib.hid ⟨⟨D, HR.out, HA.out, step5 HT.out k0 k1 k2 k3 k4 RN.out, by omega⟩, HM.out⟩
      have b0 : (k == 0) = false := by simpa using k0
      have b1 : (k == 1) = false := by simpa using k1
      have b2 : (k == 2) = false := by simpa using k2
      have b3 : (k == 3) = false := by simpa using k3
      have b4 : (k == 4) = false := by simpa using k4
      clear k0 k1 k2 k3 k4
      go_wp2_with fail
      go_roundw
      case rel => exact ⟨x, i + 1, rfl, by go_num, by omega, NX.out⟩
      case measure => simp [intOf]; omega
    · have FIN : Hid (RanR w R (.returned (.tuple #[.int .i64 (-1), .slice ad D.length cd])) wr) := Lib.hid (by
        have := RN.out
        rw [runP_past _ _ _ _ _ (by omega)] at this
        subst this
        exact ⟨_, rfl, HR.out, HM.out⟩)
      go_wp2_with fail
      go_ret2
      exact FIN.out
end Go.Proofs.Ytjoeminkdafmaaa
