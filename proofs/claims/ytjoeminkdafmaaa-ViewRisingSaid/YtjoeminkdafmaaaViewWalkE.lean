/-
  The walk over ViewRising.
-/
import Derived.Test.YtjoeminkdafmaaaViewRiseD
import Derived.Test.YtjoeminkdafmaaaViewWalkA
import Derived.Deep.RegionHeld3
namespace Go.Proofs.Ytjoeminkdafmaaa
open Go.RowKit Go.Sort Go.Maps Go.Shelf
set_option linter.unusedVariables false
set_option linter.unusedSimpArgs false

def insCells (l : List Ins3) : List Value := l.flatMap fun t => [.int .i64 t.1, .int .i64 t.2.1, .int .i64 t.2.2]
theorem insCells_snoc (l : List Ins3) (t : Ins3) : insCells (l ++ [t]) = insCells l ++ [.int .i64 t.1, .int .i64 t.2.1, .int .i64 t.2.2] := by simp [insCells]
theorem insCells_cons (t : Ins3) (l : List Ins3) : insCells (t :: l) = .int .i64 t.1 :: .int .i64 t.2.1 :: .int .i64 t.2.2 :: insCells l := by simp [insCells]
theorem insCells_get : ∀ (l : List Ins3) (i : Nat) (t : Ins3), l[i]? = some t → (insCells l)[i * 3]? = some (.int .i64 t.1) ∧ (insCells l)[i * 3 + 1]? = some (.int .i64 t.2.1) ∧ (insCells l)[i * 3 + 2]? = some (.int .i64 t.2.2)
  | [], i, t, h => by cases h
  | u :: l, 0, t, h => by
    simp at h; subst h
    rw [insCells_cons]; exact ⟨rfl, rfl, rfl⟩
  | u :: l, i + 1, t, h => by
    have := insCells_get l i t (by simpa using h)
    rw [insCells_cons, show (i + 1) * 3 = i * 3 + 1 + 1 + 1 by omega]
    exact this
theorem ins_info : ∃ i : TypeInfo, Try.prog.info? 50 = some i ∧ i.zero = some (.agg #[.int .i64 0, .int .i64 0, .int .i64 0]) ∧ i.size = 3 ∧ i.bytes = 24 := by
  have h1 : (Try.prog.info? 50).map (·.size) = some 3 := by kernel_rfl
  have h2 : (Try.prog.info? 50).bind (·.zero) = some (.agg #[.int .i64 0, .int .i64 0, .int .i64 0]) := by kernel_rfl
  have h3 : (Try.prog.info? 50).map (·.bytes) = some 24 := by kernel_rfl
  cases q : Try.prog.info? 50 with
  | none => rw [q] at h1; simp at h1
  | some i => rw [q] at h1 h2 h3; exact ⟨i, rfl, by simpa using h2, by simpa using h1, by simpa using h3⟩
/-- v is a row of steps of the call's own, in a block from base on. -/
def IRw (base : Nat) (w : World) (v : Value) (l : List Ins3) : Prop := w.ownsRow base 50 3 v l.length (insCells l)
theorem IRw.reads {base : Nat} {w : World} {v : Value} {l : List Ins3} (h : IRw base w v l) : ∃ a cap, v = .slice a l.length cap ∧ IsIns w a l := by
  rcases h.2 with ⟨rfl, h0⟩ | ⟨g, cap, cur, rfl, hb, hg, _, _, hs, ht⟩
  · have : l = [] := List.length_eq_zero_iff.1 h0
    subst this
    exact ⟨none, 0, rfl, .inl rfl⟩
  · refine ⟨_, cap, rfl, .inr ⟨g, 0, rfl, lt_of_heap hg, fun i t hi => ?_⟩⟩
    have hl : (insCells l).length = l.length * 3 := h.1
    have hcell : ∀ j u, (insCells l)[j]? = some u → w.cell? ⟨g, 0 + j, none⟩ = some u := fun j u hj => by
      have hj' : j < l.length * 3 := by have := (List.getElem?_eq_some_iff.1 hj).1; rw [hl] at this; exact this
      have e : cur.toList[j]? = some u := by
        have h1 : (cur.toList.take (l.length * 3))[j]? = some u := by rw [ht]; exact hj
        rw [List.getElem?_take, if_pos (by omega)] at h1
        exact h1
      simp [World.cell?, hg]
      simpa using e
    obtain ⟨p0, p1, p2⟩ := insCells_get l i t hi
    exact ⟨hcell _ _ p0, by have := hcell _ _ p1; rwa [← Nat.add_assoc] at this, by have := hcell _ _ p2; rwa [← Nat.add_assoc] at this⟩

set_option maxRecDepth 100000 in
set_option maxHeartbeats 8000000 in
theorem rising_walk (a0 : Option Addr) (cap0 : Nat) (ps : List KV) (a1 : Option Addr) (cap1 : Nat) (l : List KV) (w : World) (h0 : IsPairs w a0 ps) (o0 : OkPs ps) (m0 : ps.length ≤ 9223372036854775807) (h1 : IsPairs w a1 l) (o1 : OkPs l) (m1 : l.length ≤ 9223372036854775807) :
    Calls Try.prog 8 #[.slice a0 ps.length cap0, .slice a1 l.length cap1] w (Gives w (.bool true)) := by
  by_cases hg : ps.length ≤ 60 ∧ l.length ≤ 100
  · obtain ⟨hk, hl⟩ := hg
    have d0 : decide ((60 : Int) < (ps.length : Int)) = false := by simp; omega
    have d1 : decide ((100 : Int) < (l.length : Int)) = false := by simp; omega
    obtain ⟨i0, hi0, hz0, hz1, hz2⟩ := ins_info
    have HW : Hid (More w w) := More.refl w
    have H0 := Lib.hid h0
    have H1 := Lib.hid h1
    have O0 := Lib.hid o0
    have O1 := Lib.hid o1
    clear h0 h1 o0 o1
    go_enter Try.func8, Try.ntmps8
    go_wp2_with fail
    go_loopw [5, 6] (fun u5 u6 wr => ∃ i : Nat, u6 = .int .i64 i ∧ i ≤ l.length ∧ IRw w.heap.size wr u5 (insOf (l.take i)) ∧ More w wr) (fun _ u6 _ => l.length - (intOf u6).toNat)
    case atStart => exact ⟨0, rfl, by omega, World.ownsRow_nil w _ _ 3, HW.out⟩
    case round =>
      obtain ⟨i, rfl, hi, hr, hm⟩ := hrel
      have HR := Lib.hid hr; have HM := Lib.hid hm
      clear hr hm
      by_cases hlt : i < l.length
      · have hp := pairAt_get hlt
        obtain ⟨s, o, rfl, hs, hc⟩ := (H1.out.more HM.out).resolve_left (by intro q; rw [q] at hlt; simp at hlt)
        obtain ⟨c0, c1⟩ := hc i _ hp
        have HP := Lib.hid hp
        have hlen : (insOf (l.take i)).length = i := by simp [insOf]; omega
        have hown : wr.ownsRow w.heap.size 50 3 u5 i (insCells (insOf (l.take i))) := by have := HR.out; unfold IRw at this; rw [hlen] at this; exact this
        have HO := Lib.hid hown
        have hsz : w.heap.size ≤ wr.heap.size := HM.out.size
        have AG : Hid (u5.ownBlock ≠ some s) := Lib.hid fun e => by
          have := (hown.lt s e).1
          obtain ⟨s', o', e', hs', _⟩ := H1.out.resolve_left (by intro q; rw [q] at hlt; simp at hlt)
          cases e'; omega
        have NX : Hid (∀ w1 v, w1.ownsRow w.heap.size 50 3 v (i + 1) (insCells (insOf (l.take i)) ++ [.int .i64 1, .int .i64 (pairAt l i).1, .int .i64 (pairAt l i).2]) → IRw w.heap.size w1 v (insOf (l.take (i + 1)))) := Lib.hid fun w1 v h => by
          unfold IRw
          rw [show insOf (l.take (i + 1)) = insOf (l.take i) ++ [(1, (pairAt l i).1, (pairAt l i).2)] by rw [take_next HP.out]; simp [insOf], List.length_append, hlen, insCells_snoc]
          exact h
        clear hc hp hown
        generalize pairAt l i = pr at c0 c1 NX
        obtain ⟨x, y⟩ := pr
        simp only at c0 c1 NX
        go_wp2_with fail
        go_region_held3 (fun w' => w'.cell? ⟨s, o + i * 2, none⟩ = some (.int .i64 x) ∧ w'.cell? ⟨s, o + i * 2 + 1, none⟩ = some (.int .i64 y))
          (first
            | go_keep
            | (go_split_ands
               refine ⟨?_, ?_⟩
               · (rw [hgrow.cell_far _ (by simp; omega) (Ne.symm AG.out)]; assumption)
               · (rw [hgrow.cell_far _ (by simp; omega) (Ne.symm AG.out)]; assumption)))
          ((refine step_append_lies _ (by rfl) _ _ _ (by rfl) w.heap.size 50 i0 _ 3 24 Try.underlying23 hi0 hz0 hz1 hz2 rfl (by omega) u5 i _ (by rfl) ((HO.out.alloc _).drew)
              ⟨wr.heap.size, 0, none⟩ 1 1 [.int .i64 1, .int .i64 x, .int .i64 y] (by rfl) (by rfl) (World.news_of_block (cs := #[.int .i64 1, .int .i64 x, .int .i64 y]) (t := 50) (fr := (0, 0)) (heap_alloc_new wr _)) (by simp [Value.oneCell'])
              (by omega) (by simp only [maxLen]; omega) (by omega) (by simp; omega) (wr.heap.size + 1) (by simp) ?_; intro gg cap w1 hown1 hgrow hat hlt))
        have M1 := Lib.hid (more_of_grown ((HM.out.alloc _).drew) (HO.out.alloc _) hgrow)
        have N1 := Lib.hid (NX.out _ _ hown1)
        clear hown1 hgrow hat
        go_wp2_with fail
        exact ⟨⟨i + 1, by go_num, by omega, N1.out, M1.out⟩, by simp [intOf]; omega⟩
      · obtain rfl : i = l.length := by omega
        have hr2 := HR.out
        rw [List.take_length] at hr2
        obtain ⟨ai, ci, rfl, hii⟩ := hr2.reads
        have hil : (insOf l).length = l.length := by simp [insOf]
        have okI : OkP (insOf l) := fun t ht => by
          obtain ⟨p, hp, rfl⟩ := List.mem_map.1 ht
          exact O1.out p hp
        have RUN := lruns_ok a0 ai cap0 ci ps (insOf l) (.done (wroteD l)) wr (H0.out.more HM.out) hii (by omega) (by omega) O0.out okI (runP_writes _ 0 l [])
        rw [hil] at RUN
        have RUN := Lib.hid RUN
        have hDl : (wroteD l).length ≤ 1000 := by
          have := runP_fine (okK_look O0.out) (insOf l) false 0 [] (insOf l).length okI (by unfold W64; omega) okD_nil asc_nil (by simp)
          rw [runP_writes] at this
          have := this.2.2
          unfold wroteD; omega
        clear hr2 hii okI hlt
        simp only [hil]
        go_wp2_with fail
        refine RUN.out.mono ?_
        rintro e w3 ⟨v, rfl, hr3, hm3⟩
        obtain ⟨ad, cd, rfl, hd, _⟩ := hr3.reads
        have HD := Lib.hid hd
        have M3 := Lib.hid (HM.out.trans hm3)
        have L3 := Lib.hid (H1.out.more M3.out)
        have AT : Hid (∀ (i : Nat) (p : KV), (wroteD l)[i]? = some p → 0 ≤ p.1 ∧ ∃ j : Nat, lastIx l p.1 l.length = j ∧ j < l.length ∧ (pairAt l j).2 = p.2) := Lib.hid fun i p h => wrote_at h
        have RI : Hid (∀ (i : Nat) (p q : KV), (wroteD l)[i]? = some p → (wroteD l)[i + 1]? = some q → p.1 < q.1) := Lib.hid fun i p q h h' => wrote_rise h h'
        have FO : Hid (∀ k, k < l.length → foundAt (wroteD l) (pairAt l k).1 (wroteD l).length = true) := Lib.hid fun k h => found_all h
        clear hr3 hd hm3 RUN HR
        generalize wroteD l = D at HD AT RI FO hDl ⊢
        go_wp2_with fail
        go_loopw [9] (fun u9 wr => ∃ i : Nat, u9 = .int .i64 i ∧ i ≤ D.length ∧ More w3 wr) (fun u9 _ => D.length - (intOf u9).toNat)
        case atStart => exact ⟨0, rfl, by omega, More.refl _⟩
        case round =>
          obtain ⟨i, rfl, hi, hmw⟩ := hrel
          have HMW := Lib.hid hmw
          clear hmw
          by_cases hlt : i < D.length
          · obtain ⟨⟨x, y⟩, hp⟩ : ∃ p, D[i]? = some p := ⟨_, List.getElem?_eq_getElem hlt⟩
            obtain ⟨sd, od, rfl, hsd, hcd⟩ := HD.out.resolve_left (by intro q; rw [q] at hlt; simp at hlt)
            obtain ⟨x0, x1⟩ := hcd i _ hp
            have X0 := Lib.hid x0; have X1 := Lib.hid x1
            obtain ⟨hx0, j, hj1, hj2, hj3⟩ := AT.out i _ hp
            simp only at hx0 hj1 hj3
            have HJ1 := Lib.hid hj1; have HJ3 := Lib.hid hj3; have HP := Lib.hid hp
            obtain ⟨sl, ol, rfl, hsl, hcl⟩ := L3.out.resolve_left (by intro q; rw [q] at hj2; simp at hj2)
            have CL : Hid (∀ k, k < l.length → w3.cell? ⟨sl, ol + k * 2, none⟩ = some (.int .i64 (pairAt l k).1) ∧ w3.cell? ⟨sl, ol + k * 2 + 1, none⟩ = some (.int .i64 (pairAt l k).2)) := Lib.hid fun k hk => hcl k _ (pairAt_get hk)
            have CD := Lib.hid hcd
            clear x0 x1 hj1 hj3 hp hcd hcl
            go_wp2_with fail
            go_loopw [10, 11] (fun u10 u11 wr => ∃ k : Nat, u11 = .int .i64 k ∧ k ≤ l.length ∧ u10 = .int .i64 (lastIx l x k) ∧ More w3 wr) (fun _ u11 _ => l.length - (intOf u11).toNat)
            case atStart => exact ⟨0, rfl, by omega, rfl, HMW.out⟩
            case round =>
              obtain ⟨k, rfl, hk2, rfl, hmk⟩ := hrel
              have HMK := Lib.hid hmk
              clear hmk
              by_cases hkl : k < l.length
              · obtain ⟨y0, _⟩ := CL.out k hkl
                have Y0 := Lib.hid y0
                have LS := Lib.hid (lastIx_succ l x k)
                clear y0
                generalize (pairAt l k).1 = z at Y0 LS
                have cz := HMK.out.cell Y0.out
                have cx := HMK.out.cell X0.out
                have lz := lt_of_cell cz
                have lx := lt_of_cell cx
                by_cases hzx : z = x
                · have b0 : (z == x) = true := by simpa using hzx
                  have LE : Hid (lastIx l x (k + 1) = (k : Int)) := Lib.hid (by rw [LS.out, if_pos hzx])
                  clear hzx
                  go_wp2_with fail
                  go_quiet (fail)
                  have HN := Lib.hid (HMK.out.trans (more_drewN wr nq))
                  generalize wr.drewN nq = wq at HN ⊢
                  go_wp2_with fail
                  go_roundw
                  case rel => exact ⟨k + 1, by go_num, by omega, by rw [LE.out], HN.out⟩
                  case measure => simp [intOf]; omega
                · have b0 : (z == x) = false := by simpa using hzx
                  have LE : Hid (lastIx l x (k + 1) = lastIx l x k) := Lib.hid (by rw [LS.out, if_neg hzx])
                  clear hzx
                  generalize lastIx l x k = lk at LE ⊢
                  go_wp2_with fail
                  go_quiet (fail)
                  have HN := Lib.hid (HMK.out.trans (more_drewN wr nq))
                  generalize wr.drewN nq = wq at HN ⊢
                  go_wp2_with fail
                  go_roundw
                  case rel => exact ⟨k + 1, by go_num, by omega, by rw [LE.out], HN.out⟩
                  case measure => simp [intOf]; omega
              · obtain rfl : k = l.length := by omega
                rw [HJ1.out]
                obtain ⟨_, y1⟩ := CL.out j hj2
                rw [HJ3.out] at y1
                have cy := HMK.out.cell y1
                have cx0 := HMK.out.cell X0.out
                have cx1 := HMK.out.cell X1.out
                have ly := lt_of_cell cy
                have lx := lt_of_cell cx0
                have e1 : decide (x < 0) = false := by simp; omega
                have e2 : decide ((j : Int) < 0) = false := by simp
                have e3 : (y != y) = false := by simp
                clear y1
                cases i with
                | zero =>
                  simp only [Nat.zero_mul, Nat.add_zero] at cx0 cx1
                  go_wp2_with fail
                  go_quiet (fail)
                  have HN := Lib.hid (HMK.out.trans (more_drewN wr nq))
                  generalize wr.drewN nq = wq at HN ⊢
                  go_wp2_with fail
                  go_roundw
                  case rel => exact ⟨1, by go_num, by omega, HN.out⟩
                  case measure => simp [intOf]; omega
                | succ i' =>
                  obtain ⟨⟨x', y'⟩, hp'⟩ : ∃ p, D[i']? = some p := ⟨_, List.getElem?_eq_getElem (by omega)⟩
                  have hr' := RI.out i' _ _ hp' HP.out
                  simp only at hr'
                  have cx' := HMK.out.cell (CD.out i' _ hp').1
                  simp only at cx'
                  have e4 : decide (x ≤ x') = false := by simp; omega
                  clear hr' hp'
                  go_wp2_with fail
                  go_quiet (fail)
                  have HN := Lib.hid (HMK.out.trans (more_drewN wr nq))
                  generalize wr.drewN nq = wq at HN ⊢
                  go_wp2_with fail
                  go_roundw
                  case rel => exact ⟨i' + 1 + 1, by go_num, by omega, HN.out⟩
                  case measure => simp [intOf]; omega
          · obtain rfl : i = D.length := by omega
            clear hlt
            go_wp2_with fail
            go_loopw [12] (fun u12 wr => ∃ k : Nat, u12 = .int .i64 k ∧ k ≤ l.length ∧ More w3 wr) (fun u12 _ => l.length - (intOf u12).toNat)
            case atStart => exact ⟨0, rfl, by omega, HMW.out⟩
            case round =>
              obtain ⟨k, rfl, hk2, hmk⟩ := hrel
              have HMK := Lib.hid hmk
              clear hmk
              by_cases hkl : k < l.length
              · obtain ⟨sl, ol, rfl, hsl, hcl⟩ := L3.out.resolve_left (by intro q; rw [q] at hkl; simp at hkl)
                have Y0 := Lib.hid (hcl k _ (pairAt_get hkl)).1
                have FK := Lib.hid (FO.out k hkl)
                clear hcl
                generalize (pairAt l k).1 = z at Y0 FK
                have cz := HMK.out.cell Y0.out
                have lz := lt_of_cell cz
                have FZ := Lib.hid (foundAt_zero D z)
                go_wp2_with fail
                go_loopw [13, 14] (fun u13 u14 wr => ∃ i : Nat, u14 = .int .i64 i ∧ i ≤ D.length ∧ u13 = .bool (foundAt D z i) ∧ More w3 wr) (fun _ u14 _ => D.length - (intOf u14).toNat)
                case atStart => exact ⟨0, rfl, by omega, by rw [FZ.out], HMK.out⟩
                case round =>
                  obtain ⟨i, rfl, hi2, rfl, hmi⟩ := hrel
                  have HMI := Lib.hid hmi
                  clear hmi
                  by_cases hil2 : i < D.length
                  · obtain ⟨⟨x, y⟩, hp⟩ : ∃ p, D[i]? = some p := ⟨_, List.getElem?_eq_getElem hil2⟩
                    obtain ⟨sd, od, rfl, hsd, hcd⟩ := HD.out.resolve_left (by intro q; rw [q] at hil2; simp at hil2)
                    have cx := HMI.out.cell (hcd i _ hp).1
                    have cz2 := HMI.out.cell Y0.out
                    simp only at cx
                    have lx := lt_of_cell cx
                    have lz2 := lt_of_cell cz2
                    have FN := Lib.hid (foundAt_succ (a := z) hp)
                    clear hcd hp
                    cases hf : foundAt D z i with
                    | true =>
                      have FE : Hid (foundAt D z (i + 1) = true) := Lib.hid (by rw [FN.out, hf]; rfl)
                      clear hf
                      go_wp2_with fail
                      go_quiet (fail)
                      have HN := Lib.hid (HMI.out.trans (more_drewN wr nq))
                      generalize wr.drewN nq = wq at HN ⊢
                      go_wp2_with fail
                      go_roundw
                      case rel => exact ⟨i + 1, by go_num, by omega, by rw [FE.out], HN.out⟩
                      case measure => simp [intOf]; omega
                    | false =>
                      cases hb : (x == z) with
                      | true =>
                        have FE : Hid (foundAt D z (i + 1) = true) := Lib.hid (by rw [FN.out, hf]; simpa using hb)
                        clear hf
                        go_wp2_with fail
                        go_quiet (fail)
                        have HN := Lib.hid (HMI.out.trans (more_drewN wr nq))
                        generalize wr.drewN nq = wq at HN ⊢
                        go_wp2_with fail
                        go_roundw
                        case rel => exact ⟨i + 1, by go_num, by omega, by rw [FE.out], HN.out⟩
                        case measure => simp [intOf]; omega
                      | false =>
                        have FE : Hid (foundAt D z (i + 1) = false) := Lib.hid (by rw [FN.out, hf]; simpa using hb)
                        clear hf
                        go_wp2_with fail
                        go_quiet (fail)
                        have HN := Lib.hid (HMI.out.trans (more_drewN wr nq))
                        generalize wr.drewN nq = wq at HN ⊢
                        go_wp2_with fail
                        go_roundw
                        case rel => exact ⟨i + 1, by go_num, by omega, by rw [FE.out], HN.out⟩
                        case measure => simp [intOf]; omega
                  · obtain rfl : i = D.length := by omega
                    rw [FK.out]
                    go_wp2_with fail
                    go_roundw
                    case rel => exact ⟨k + 1, by go_num, by omega, HMI.out⟩
                    case measure => simp [intOf]; omega
              · obtain rfl : k = l.length := by omega
                have M4 := Lib.hid (M3.out.trans HMK.out)
                clear hkl
                go_wp2_with fail
                refine (lives_ok wr).mono ?_
                rintro e w5 ⟨rfl, hm5⟩
                have M5 := Lib.hid (M4.out.trans hm5)
                clear hm5
                go_wp2_with fail
                go_ret
                exact ⟨rfl, M5.out⟩
  · have d3 : (decide ((60 : Int) < (ps.length : Int)) = true) ∨ (decide ((60 : Int) < (ps.length : Int)) = false ∧ decide ((100 : Int) < (l.length : Int)) = true) := by
      simp; omega
    clear h0 h1 o0 o1 hg
    rcases d3 with d0 | ⟨d0, d1⟩
    all_goals
      go_enter Try.func8, Try.ntmps8
      go_wp2_with fail
      refine (lives_ok w).mono ?_
      rintro e w3 ⟨rfl, hm3⟩
      have M3 := Lib.hid hm3
      clear hm3
      go_wp2_with fail
      go_ret
      exact ⟨rfl, M3.out⟩
end Go.Proofs.Ytjoeminkdafmaaa
