/-
  The document's own answers of layer 7: put; and a run.
-/
import Derived.Test.YtjoeminkdafmaaaViewRef
import Derived.StillTailTactics
namespace Go.Proofs.Ytjoeminkdafmaaa
open Go.RowKit Go.Sort Go.Maps
set_option linter.unusedVariables false
set_option linter.unusedSimpArgs false

/-- Is there one that is no less among the first i? -/
def anyGe (D : List KV) (a : Int) (i : Nat) : Bool := (D.take i).any fun p => decide (a ≤ p.1)
/-- What put has told of the first i. -/
def outAt (D : List KV) (a x : Int) (i : Nat) : List KV := less (D.take i) a ++ (if anyGe D a i then (a, x) :: more (D.take i) a else [])
theorem take_snoc' {D : List KV} {i : Nat} {p : KV} (h : D[i]? = some p) : D.take (i + 1) = D.take i ++ [p] := by rw [List.take_add_one, h]; rfl
theorem outAt_zero (D : List KV) (a x : Int) : outAt D a x 0 = [] := rfl
theorem anyGe_zero (D : List KV) (a : Int) : anyGe D a 0 = false := rfl
theorem less_snoc (L : List KV) (p : KV) (a : Int) : less (L ++ [p]) a = less L a ++ (if p.1 < a then [p] else []) := by
  unfold less; rw [List.filter_append, List.filter_cons]
  by_cases h : p.1 < a
  · rw [if_pos (by simpa using h), if_pos h]; rfl
  · rw [if_neg (by simpa using h), if_neg h]; rfl
theorem more_snoc (L : List KV) (p : KV) (a : Int) : more (L ++ [p]) a = more L a ++ (if a < p.1 then [p] else []) := by
  unfold more; rw [List.filter_append, List.filter_cons]
  by_cases h : a < p.1
  · rw [if_pos (by simpa using h), if_pos h]; rfl
  · rw [if_neg (by simpa using h), if_neg h]; rfl
theorem anyGe_snoc {D : List KV} {i : Nat} {p : KV} (h : D[i]? = some p) (a : Int) : anyGe D a (i + 1) = (anyGe D a i || decide (a ≤ p.1)) := by
  unfold anyGe; rw [take_snoc' h, List.any_append]; simp
theorem no_more {D : List KV} {a : Int} {i : Nat} (h : anyGe D a i = false) : more (D.take i) a = [] := by
  unfold anyGe at h
  rw [List.any_eq_false] at h
  exact filter_none fun p hp => by have := h p hp; simp at this; simp; omega
theorem out_less {D : List KV} {a x : Int} {i : Nat} {p : KV} (h : D[i]? = some p) (hg : anyGe D a i = false) (hp : p.1 < a) : outAt D a x (i + 1) = outAt D a x i ++ [p] ∧ anyGe D a (i + 1) = false := by
  have e : anyGe D a (i + 1) = false := by rw [anyGe_snoc h, hg]; simp; omega
  refine ⟨?_, e⟩
  unfold outAt
  rw [e, hg, take_snoc' h, less_snoc, if_pos hp]
  simp
theorem out_first {D : List KV} {a x : Int} {i : Nat} {p : KV} (h : D[i]? = some p) (hg : anyGe D a i = false) (hp : a ≤ p.1) : outAt D a x (i + 1) = outAt D a x i ++ [(a, x)] ++ (if a < p.1 then [p] else []) ∧ anyGe D a (i + 1) = true := by
  have e : anyGe D a (i + 1) = true := by rw [anyGe_snoc h, hg]; simpa using hp
  refine ⟨?_, e⟩
  unfold outAt
  rw [e, hg, take_snoc' h, less_snoc, more_snoc, no_more hg, if_neg (by omega)]
  simp
theorem out_later {D : List KV} (hA : Asc D) {a x : Int} {i : Nat} {p : KV} (h : D[i]? = some p) (hg : anyGe D a i = true) : a < p.1 ∧ outAt D a x (i + 1) = outAt D a x i ++ [p] ∧ anyGe D a (i + 1) = true := by
  have hp : a < p.1 := by
    unfold anyGe at hg
    rw [List.any_eq_true] at hg
    obtain ⟨q, hq, hqa⟩ := hg
    obtain ⟨j, hj⟩ := List.getElem?_of_mem hq
    have hji : j < i := by have := (List.getElem?_eq_some_iff.1 hj).1; simp at this; omega
    rw [List.getElem?_take, if_pos hji] at hj
    have hlt : q.1 < p.1 := by
      obtain ⟨l1, e1⟩ := List.getElem?_eq_some_iff.1 hj
      obtain ⟨l2, e2⟩ := List.getElem?_eq_some_iff.1 h
      have := List.pairwise_iff_getElem.1 hA j i l1 l2 hji
      rw [e1, e2] at this; exact this
    simp at hqa; omega
  have e : anyGe D a (i + 1) = true := by rw [anyGe_snoc h, hg]; rfl
  refine ⟨hp, ?_, e⟩
  unfold outAt
  rw [e, hg, take_snoc' h, less_snoc, more_snoc, if_neg (by omega), if_pos hp]
  simp
theorem out_all {D : List KV} {a x : Int} (hg : anyGe D a D.length = true) : outAt D a x D.length = putD D a x := by
  unfold outAt putD; rw [hg, List.take_length]; rfl
theorem out_none {D : List KV} {a x : Int} (hg : anyGe D a D.length = false) : outAt D a x D.length ++ [(a, x)] = putD D a x := by
  have := no_more hg
  rw [List.take_length] at this
  unfold outAt putD; rw [hg, List.take_length, this]; simp
theorem outAt_len (D : List KV) (a x : Int) (i : Nat) : (outAt D a x i).length ≤ D.length + 1 := by
  unfold outAt
  have h1 : (less (D.take i) a).length + (more (D.take i) a).length ≤ (D.take i).length := by
    unfold less more
    generalize D.take i = L
    induction L with
    | nil => simp
    | cons p L ih =>
      rw [List.filter_cons, List.filter_cons]
      by_cases q : p.1 < a
      · have : ¬ a < p.1 := by omega
        simp [q, this]; omega
      · by_cases r : a < p.1
        · simp [q, r]; omega
        · simp [q, r]; omega
  have h2 : (D.take i).length ≤ D.length := by simp; omega
  split <;> simp <;> omega

set_option maxRecDepth 100000 in
set_option maxHeartbeats 4000000 in
theorem rput_ok (ad : Option Addr) (cd : Nat) (D : List KV) (a x : Int) (w : World) (hD : IsPairs w ad D) (hA : Asc D) (hd : D.length ≤ 100000) :
    Calls Try.prog 25 #[.slice ad D.length cd, .agg #[.int .i64 a, .int .i64 x]] w fun e w' => ∃ v, e = .returned v ∧ PRw w.heap.size w' v (putD D a x) ∧ More w w' := by
  have hb := heap_new w (.cells #[.int .i64 a, .int .i64 x] 47)
  have M0 : More w (w.alloc (.cells #[.int .i64 a, .int .i64 x] 47)) := (More.refl w).alloc _
  have hD1 := hD.more M0
  have HM0 := Lib.hid M0
  have HA := Lib.hid hA
  clear hD hA M0
  go_enter Try.func25, Try.ntmps25
  go_wp2_with fail
  have hsz : w.heap.size < (w.alloc (.cells #[.int .i64 a, .int .i64 x] 47)).heap.size := by simp
  generalize w.alloc (.cells #[.int .i64 a, .int .i64 x] 47) = wa at hb hD1 HM0 hsz ⊢
  generalize hbz : w.heap.size = bp at hb hsz ⊢
  have HBZ := Lib.hid hbz
  have HB := Lib.hid hb
  have HD := Lib.hid hD1
  clear hbz hb hD1
  go_loopw [5, 6, 7] (fun u5 u6 u7 wr => ∃ i : Nat, i ≤ D.length ∧ u7 = .int .i64 i ∧ u6 = .bool (anyGe D a i) ∧ PRw wa.heap.size wr u5 (outAt D a x i) ∧ More wa wr) (fun _ _ u7 _ => D.length - (intOf u7).toNat)
  case atStart => exact ⟨0, by omega, rfl, rfl, PRw.nil _ _, More.refl _⟩
  case round =>
    obtain ⟨i, hi, rfl, rfl, hr, hm⟩ := hrel
    have HR := Lib.hid hr; have HM := Lib.hid hm
    obtain ⟨p0, p1, _, pl⟩ := cell_of (hm.block HB.out)
    clear hr hm
    by_cases hlt : i < D.length
    · obtain ⟨⟨k, v⟩, hp⟩ : ∃ p, D[i]? = some p := ⟨_, List.getElem?_eq_getElem hlt⟩
      obtain ⟨s, o, rfl, hs, hc⟩ := HD.out.resolve_left (by intro q; rw [q] at hlt; simp at hlt)
      obtain ⟨ca0, ca1⟩ := hc i _ hp
      simp only at ca0 ca1
      have c0 := HM.out.cell ca0
      have c1 := HM.out.cell ca1
      have hs' := Nat.lt_of_lt_of_le hs HM.out.size
      have CA0 := Lib.hid ca0
      have CA1 := Lib.hid ca1
      have HP := Lib.hid hp
      have HL := outAt_len D a x i
      clear hc hp ca0 ca1 hs
      cases hg : anyGe D a i with
      | true =>
        obtain ⟨q1, q2, q3⟩ := out_later HA.out (x := x) HP.out hg
        have b1 : (k != a) = true := by simp at q1 ⊢; omega
        have b2 : (k == a) = false := by simp at q1 ⊢; omega
        have Q2 := Lib.hid q2; have Q3 := Lib.hid q3
        clear hg q1 q2 q3
        clear p0 p1 pl c0 c1
        obtain ⟨p0, p1, _, pl⟩ := cell_of (HM.out.block HB.out)
        have c0 := HM.out.cell CA0.out; have c1 := HM.out.cell CA1.out
        go_wp2_with fail
        go_quiet (fail)
        have HR2 := Lib.hid (HR.out.more (more_drewN wr nq)); have HM2 : Hid (More wa (wr.drewN nq)) := Lib.hid (HM.out.trans (more_drewN wr nq))
        clear HR HM
        generalize wr.drewN nq = wr2 at HR2 HM2 ⊢
        have c0 := HM2.out.cell CA0.out; have c1 := HM2.out.cell CA1.out
        obtain ⟨p0, p1, _, pl⟩ := cell_of (HM2.out.block HB.out)
        go_wp2_with fail
        go_quiet (fail)
        have HR3 := Lib.hid (HR2.out.more (more_drewN wr2 nq)); have HM3 : Hid (More wa (wr2.drewN nq)) := Lib.hid (HM2.out.trans (more_drewN wr2 nq))
        clear HR2 HM2
        generalize wr2.drewN nq = wr3 at HR3 HM3 ⊢
        have c0 := HM3.out.cell CA0.out; have c1 := HM3.out.cell CA1.out
        obtain ⟨p0, p1, _, pl⟩ := cell_of (HM3.out.block HB.out)
        go_wp2_with (at_builtin; refine wpList_pair (S := fun _ => False) (wa := wa) k v rfl _ _ rfl rfl HR3.out HM3.out (by omega) rfl ?_; intro g1 k1 w1 h1 t1 _; have H1 := Lib.hid h1; have T1 : Hid (More wa w1) := Lib.hid t1; clear h1 t1)
        go_roundw
        case rel => exact ⟨i + 1, by omega, by go_num, by rw [Q3.out], by rw [Q2.out]; exact H1.out, T1.out⟩
        case measure => simp [intOf]; omega
      | false =>
        by_cases hk : k < a
        · obtain ⟨q2, q3⟩ := out_less HP.out (x := x) hg hk
          have b1 : (k != a) = true := by simp; omega
          have b2 : (k == a) = false := by simp; omega
          have b3 : decide (a ≤ k) = false := by simp; omega
          have Q2 := Lib.hid q2; have Q3 := Lib.hid q3
          clear hg q2 q3 hk
          go_wp2_with fail
          go_quiet (fail)
          have HR2 := Lib.hid (HR.out.more (more_drewN wr nq)); have HM2 : Hid (More wa (wr.drewN nq)) := Lib.hid (HM.out.trans (more_drewN wr nq))
          clear HR HM
          generalize wr.drewN nq = wr2 at HR2 HM2 ⊢
          have c0 := HM2.out.cell CA0.out; have c1 := HM2.out.cell CA1.out
          obtain ⟨p0, p1, _, pl⟩ := cell_of (HM2.out.block HB.out)
          go_wp2_with fail
          go_quiet (fail)
          have HR3 := Lib.hid (HR2.out.more (more_drewN wr2 nq)); have HM3 : Hid (More wa (wr2.drewN nq)) := Lib.hid (HM2.out.trans (more_drewN wr2 nq))
          clear HR2 HM2
          generalize wr2.drewN nq = wr3 at HR3 HM3 ⊢
          have c0 := HM3.out.cell CA0.out; have c1 := HM3.out.cell CA1.out
          obtain ⟨p0, p1, _, pl⟩ := cell_of (HM3.out.block HB.out)
          go_wp2_with (at_builtin; refine wpList_pair (S := fun _ => False) (wa := wa) k v rfl _ _ rfl rfl HR3.out HM3.out (by omega) rfl ?_; intro g1 k1 w1 h1 t1 _; have H1 := Lib.hid h1; have T1 : Hid (More wa w1) := Lib.hid t1; clear h1 t1)
          go_roundw
          case rel => exact ⟨i + 1, by omega, by go_num, by rw [Q3.out], by rw [Q2.out]; exact H1.out, T1.out⟩
          case measure => simp [intOf]; omega
        · obtain ⟨q2, q3⟩ := out_first HP.out (x := x) hg (by simp; omega)
          have b3 : decide (a ≤ k) = true := by simp; omega
          by_cases hka : k = a
          · rw [if_neg (by simp; omega), List.append_nil] at q2
            have b1 : (k != a) = false := by simpa using hka
            have b2 : (k == a) = true := by simpa using hka
            have Q2 := Lib.hid q2; have Q3 := Lib.hid q3
            clear hg q2 q3 hk hka
            go_wp2_with fail
            go_quiet (fail)
            have HR2 := Lib.hid (HR.out.more (more_drewN wr nq)); have HM2 : Hid (More wa (wr.drewN nq)) := Lib.hid (HM.out.trans (more_drewN wr nq))
            clear HR HM
            generalize wr.drewN nq = wr2 at HR2 HM2 ⊢
            have c0 := HM2.out.cell CA0.out; have c1 := HM2.out.cell CA1.out
            obtain ⟨p0, p1, _, pl⟩ := cell_of (HM2.out.block HB.out)
            go_wp2_with (at_builtin; refine wpList_pair (S := fun _ => False) (wa := wa) a x rfl _ _ rfl rfl HR2.out HM2.out (by omega) rfl ?_; intro g1 k1 w3 h1 t1 _; have HR3 := Lib.hid h1; have HM3 : Hid (More wa w3) := Lib.hid t1; clear h1 t1; clear p0 p1 pl c0 c1; have c0 := HM3.out.cell CA0.out; have c1 := HM3.out.cell CA1.out; obtain ⟨p0, p1, _, pl⟩ := cell_of (HM3.out.block HB.out))
            go_quiet (fail)
            have HR4 := Lib.hid (HR3.out.more (more_drewN w3 nq)); have HM4 : Hid (More wa (w3.drewN nq)) := Lib.hid (HM3.out.trans (more_drewN w3 nq))
            clear HR3 HM3
            generalize w3.drewN nq = w4 at HR4 HM4 ⊢
            have c0 := HM4.out.cell CA0.out; have c1 := HM4.out.cell CA1.out
            obtain ⟨p0, p1, _, pl⟩ := cell_of (HM4.out.block HB.out)
            go_wp2_with fail
            go_roundw
            case rel => exact ⟨i + 1, by omega, by go_num, by rw [Q3.out], by rw [Q2.out]; exact HR4.out, HM4.out⟩
            case measure => simp [intOf]; omega
          · rw [if_pos (by simp; omega)] at q2
            have b1 : (k != a) = true := by simpa using hka
            have b2 : (k == a) = false := by simpa using hka
            have Q2 := Lib.hid q2; have Q3 := Lib.hid q3
            clear hg q2 q3 hk hka
            go_wp2_with fail
            go_quiet (fail)
            have HR2 := Lib.hid (HR.out.more (more_drewN wr nq)); have HM2 : Hid (More wa (wr.drewN nq)) := Lib.hid (HM.out.trans (more_drewN wr nq))
            clear HR HM
            generalize wr.drewN nq = wr2 at HR2 HM2 ⊢
            have c0 := HM2.out.cell CA0.out; have c1 := HM2.out.cell CA1.out
            obtain ⟨p0, p1, _, pl⟩ := cell_of (HM2.out.block HB.out)
            go_wp2_with (at_builtin; refine wpList_pair (S := fun _ => False) (wa := wa) a x rfl _ _ rfl rfl HR2.out HM2.out (by omega) rfl ?_; intro g1 k1 w3 h1 t1 _; have HR3 := Lib.hid h1; have HM3 : Hid (More wa w3) := Lib.hid t1; clear h1 t1; clear p0 p1 pl c0 c1; have c0 := HM3.out.cell CA0.out; have c1 := HM3.out.cell CA1.out; obtain ⟨p0, p1, _, pl⟩ := cell_of (HM3.out.block HB.out))
            go_quiet (fail)
            have HR4 := Lib.hid (HR3.out.more (more_drewN w3 nq)); have HM4 : Hid (More wa (w3.drewN nq)) := Lib.hid (HM3.out.trans (more_drewN w3 nq))
            clear HR3 HM3
            generalize w3.drewN nq = w4 at HR4 HM4 ⊢
            have c0 := HM4.out.cell CA0.out; have c1 := HM4.out.cell CA1.out
            obtain ⟨p0, p1, _, pl⟩ := cell_of (HM4.out.block HB.out)
            go_wp2_with (at_builtin; refine wpList_pair (S := fun _ => False) (wa := wa) k v rfl _ _ rfl rfl HR4.out HM4.out (by simp; omega) rfl ?_; intro g2 k2 w5 h2 t2 _; rw [List.length_append, List.length_singleton] at h2; have H5 := Lib.hid h2; have T5 : Hid (More wa w5) := Lib.hid t2; clear h2 t2)
            go_roundw
            case rel => exact ⟨i + 1, by omega, by go_num, by rw [Q3.out], by rw [Q2.out]; exact H5.out, T5.out⟩
            case measure => simp [intOf]; omega
    · obtain rfl : i = D.length := by omega
      cases hg : anyGe D a D.length with
      | true =>
        have FIN : Hid (PRw w.heap.size wr u5 (putD D a x) ∧ More w wr) := Lib.hid ⟨by have := HR.out; rw [out_all hg] at this; exact this.mono (by have := HBZ.out; omega), HM0.out.trans HM.out⟩
        clear hg
        go_wp2_with fail
        go_ret
        exact ⟨_, rfl, FIN.out⟩
      | false =>
        have HO := Lib.hid (out_none (x := x) hg)
        have HL := outAt_len D a x D.length
        clear hg
        go_wp2_with (at_builtin; refine wpList_pair (S := fun _ => False) (wa := wa) a x rfl _ _ rfl rfl HR.out HM.out (by omega) rfl ?_; intro g1 k1 w1 h1 t1 _; have H1 := Lib.hid h1; have T1 := Lib.hid t1; clear h1 t1)
        have FIN : Hid (∀ v', v' = Value.slice (some ⟨g1, 0, none⟩) ((outAt D a x D.length).length + 1) k1 → PRw w.heap.size w1 v' (putD D a x) ∧ More w w1) := Lib.hid (fun v' e => ⟨by have := H1.out; rw [HO.out] at this; subst e; exact this.mono (by have := HBZ.out; omega), HM0.out.trans T1.out⟩)
        go_ret
        exact ⟨_, rfl, FIN.out _ rfl⟩
end Go.Proofs.Ytjoeminkdafmaaa
