/-
  The walk over SortedOrder.
-/
import Derived.Test.YtcaddbgoeoclnaaSortedLives
import Derived.Test.YtcaddbgoeoclnaaSortedFill
import Derived.StillTailTactics
import Derived.Deep.DeepMust
namespace Go.Proofs.Ytcaddbgoeoclnaa
open Go.RowKit Go.Sort
set_option linter.unusedVariables false
set_option linter.unusedSimpArgs false

/-- Two maps, apart, in memory of the call's own. -/
structure Two (w wr : World) (F : Nat → Prop) (p : Nat) (D : List KV) (G : Nat → Prop) (r : Nat) (E : List KV) : Prop where
  a : MapAt wr F p D
  b : MapAt wr G r E
  apart : ∀ x, F x → ¬ G x
  new : ∀ x, F x → w.heap.size ≤ x
  new2 : ∀ x, G x → w.heap.size ≤ x
  more : More w wr
theorem Two.step {w wr w' : World} {F G : Nat → Prop} {p r : Nat} {D E : List KV} (h : Two w wr F p D G r E) (m : More wr w') : Two w w' F p D G r E :=
  ⟨h.a.more m, h.b.more m, h.apart, h.new, h.new2, h.more.trans m⟩
theorem Two.did {w wr w' : World} {F F' G : Nat → Prop} {p r : Nat} {D D' E : List KV} (h : Two w wr F p D G r E) (m : MapAt w' F' p D') (t : Turned F wr w') (n : ∀ x, F' x → F x ∨ wr.heap.size ≤ x) : Two w w' F' p D' G r E :=
  ⟨m, h.b.keep t (fun x hx hy => h.apart x hy hx), fun x hx hy => by
    rcases n x hx with q | q
    · exact h.apart x q hy
    · have := h.b.lt x hy; omega, own_on h.more.size h.new n, h.new2, more_own h.more t h.new⟩
theorem Two.swap {w wr : World} {F G : Nat → Prop} {p r : Nat} {D E : List KV} (h : Two w wr F p D G r E) : Two w wr G r E F p D :=
  ⟨h.b, h.a, fun x hx hy => h.apart x hy hx, h.new2, h.new, h.more⟩

set_option maxRecDepth 100000 in
set_option maxHeartbeats 4000000 in
theorem order_walk (a : Option Addr) (len cap : Nat) (f : Nat → Act3) (w : World) (h : IsActs w a len f) (hm : len ≤ 9223372036854775807) :
    Calls Try.prog 6 #[.slice a len cap] w (Gives w (.bool true)) := by
  have HA := Lib.hid h
  clear h
  go_enter Try.func6, Try.ntmps6
  go_wp2_with fail
  refine (great_ok a len cap f w HA.out hm).mono ?_
  rintro e w0 ⟨hg, h0⟩
  obtain rfl : w = w0 := h0.symm
  rcases hg with rfl | ⟨rfl, hle⟩
  · go_wp2_with (go_at_call 9; refine (lives_ok _).mono ?_; rintro e w1 ⟨rfl, hM⟩; have HM := Lib.hid hM; clear hM)
    go_ret
    exact ⟨rfl, HM.out⟩
  clear h0
  go_wp2_with fail
  refine (new_ok w).mono ?_
  rintro e w1 ⟨F1, p, rfl, m1, M1, n1⟩
  have H1 := Lib.hid m1; have K1 := Lib.hid M1; have N1 := Lib.hid n1
  clear m1 M1 n1
  go_wp2_with fail
  refine (new_ok w1).mono ?_
  rintro e w2 ⟨F2, r, rfl, m2, M2, n2⟩
  have T0 : Two w w2 F1 p [] F2 r [] := ⟨H1.out.more M2, m2, fun x hx hy => by have := H1.out.lt x hx; have := n2 x hy; omega, N1.out, fun x hx => Nat.le_trans K1.out.size (n2 x hx), K1.out.trans M2⟩
  have T := Lib.hid T0
  clear m2 M2 n2 T0 H1 K1 N1
  go_wp2_with fail
  go_loopw [5] (fun i wr => ∃ j F G, j ≤ len ∧ i = .int .i64 (j : Nat) ∧ Two w wr F p (putAll f j) G r (putBack f len j)) (fun i _ => len - (intOf i).toNat)
  case atStart => exact ⟨0, F1, F2, Nat.zero_le _, rfl, T.out⟩
  case round =>
    obtain ⟨j, F, G, hj, rfl, ht⟩ := hrel
    have HT := Lib.hid ht
    clear ht T
    have hsz := putAll_len f j
    have hsz2 := putBack_len f len j
    by_cases hlt : j < len
    · obtain ⟨s, o, rfl, hs, hc⟩ := HA.out.resolve_left (by omega)
      obtain ⟨_, x1, x2, _⟩ := hc j hlt
      obtain ⟨z0, z1, z2, _⟩ := hc (len - 1 - j) (by omega)
      have HX : Hid (putAll f (j + 1) = putD (putAll f j) (f j).2.1 (f j).2.2) := Lib.hid rfl
      have HB : Hid (putBack f len (j + 1) = if (look (putBack f len j) (f (len - 1 - j)).2.1).isSome then putBack f len j else putD (putBack f len j) (f (len - 1 - j)).2.1 (f (len - 1 - j)).2.2) := Lib.hid rfl
      generalize (f j).2.1 = kj at x1 HX
      generalize (f j).2.2 = vj at x2 HX
      generalize (f (len - 1 - j)).1 = gj at z0
      generalize (f (len - 1 - j)).2.1 = kb at z1 HB
      generalize (f (len - 1 - j)).2.2 = vb at z2 HB
      have X0 := Lib.hid z0; have X1 := Lib.hid z1; have X2 := Lib.hid z2
      have y1 := HT.out.more.cell x1
      have y2 := HT.out.more.cell x2
      have hs' := Nat.lt_of_lt_of_le hs HT.out.more.size
      clear x1 x2 z0 z1 z2 hc
      generalize hB : putBack f len j = B at HT hsz2 HB
      have HB0 := Lib.hid hB
      clear hB
      have T1 : Hid (Two w wr.drew F p (putAll f j) G r B) := Lib.hid (HT.out.step ((More.refl wr).drew))
      go_wp2_with fail
      go_still_tail 11, (by kernel_rfl)
      change wpList _ _ _ _ _ wr.drew
      generalize wr.drew = w2 at T1 ⊢
      clear HT
      go_wp2_with fail
      refine (put_ok F p (putAll f j) kj vj w2 T1.out.a (by omega)).mono ?_
      rintro e w3 ⟨rfl, F3, m3, t3, n3⟩
      have T3 := Lib.hid (T1.out.did m3 t3 n3)
      have y0 := T3.out.more.cell X0.out
      have y1 := T3.out.more.cell X1.out
      have y2 := T3.out.more.cell X2.out
      have hs' := Nat.lt_of_lt_of_le hs T3.out.more.size
      clear m3 t3 n3 T1
      go_wp2_with fail
      refine (get_ok G r B kb _ (T3.out.step ((More.refl _).alloc _)).b).mono ?_
      rintro e w4 ⟨rfl, q, rfl⟩
      have T4 : Hid (Two w ((w3.alloc (.cells #[.int .i64 gj, .int .i64 kb, .string vb] 32)).drewN q) F3 p (putD (putAll f j) kj vj) G r B) := Lib.hid (T3.out.step (((More.refl _).alloc _).drewN q))
      have hb : ((w3.alloc (.cells #[.int .i64 gj, .int .i64 kb, .string vb] 32)).drewN q).heap[w3.heap.size]? = some (.cells #[.int .i64 gj, .int .i64 kb, .string vb] 32 (0, 0)) := heap_new w3 _
      have u1 : ((w3.alloc (.cells #[.int .i64 gj, .int .i64 kb, .string vb] 32)).drewN q).cell? ⟨w3.heap.size, 1, none⟩ = some (.int .i64 kb) := by unfold World.cell?; rw [hb]; rfl
      have u2 : ((w3.alloc (.cells #[.int .i64 gj, .int .i64 kb, .string vb] 32)).drewN q).cell? ⟨w3.heap.size, 2, none⟩ = some (.string vb) := by unfold World.cell?; rw [hb]; rfl
      clear hb y0 y1 y2 T3 hs'
      generalize (w3.alloc (.cells #[.int .i64 gj, .int .i64 kb, .string vb] 32)).drewN q = w4 at T4 u1 u2 ⊢
      generalize w3.heap.size = z at u1 u2 ⊢
      cases hk : look B kb with
      | some u =>
        rw [hk] at HB
        have HB : Hid (putBack f len (j + 1) = B) := Lib.hid (by rw [HB.out]; rfl)
        simp only [Option.getD_some, Option.isSome_some]
        go_wp2_with fail
        go_roundw
        case rel => exact ⟨j + 1, F3, G, by omega, by go_num, by rw [HX.out, HB.out]; exact T4.out⟩
        case measure => simp [intOf]; omega
      | none =>
        rw [hk] at HB
        have HB : Hid (putBack f len (j + 1) = putD B kb vb) := Lib.hid (by rw [HB.out]; rfl)
        simp only [Option.getD_none, Option.isSome_none]
        go_wp2_with fail
        refine (put_ok G r B kb vb _ T4.out.b (by omega)).mono ?_
        rintro e w5 ⟨rfl, G5, m5, t5, n5⟩
        have T5 := Lib.hid ((T4.out.swap.did m5 t5 n5).swap)
        clear m5 t5 n5 T4 u1 u2
        go_wp2_with fail
        go_roundw
        case rel => exact ⟨j + 1, F3, G5, by omega, by go_num, by rw [HX.out, HB.out]; exact T5.out⟩
        case measure => simp [intOf]; omega
    · obtain rfl : j = len := by omega
      have hasc := putAll_asc f j
      have hsame := same_back f j
      rw [← hsame] at HT
      obtain ⟨D, hD⟩ : ∃ D, D = putAll f j := ⟨_, rfl⟩
      rw [← hD] at HT hsz hasc
      clear hD hsame hsz2 hlt hj
      have HASC := Lib.hid hasc
      clear hasc
      go_wp2_with fail
      go_loopw [9] (fun i wr => ∃ t : Nat, t ≤ D.length ∧ i = .int .i64 (t : Nat) ∧ Two w wr F p D G r D) (fun i _ => D.length - (intOf i).toNat)
      case atStart => exact ⟨0, Nat.zero_le _, rfl, HT.out⟩
      case round =>
        obtain ⟨t, ht, rfl, hT⟩ := hrel
        have T6 := Lib.hid hT
        clear hT HT
        go_wp2_with fail
        refine (len_ok F p D _ T6.out.a).mono ?_
        rintro e w6 ⟨rfl, h6⟩
        obtain rfl : w6 = wr := h6
        by_cases hlt : t < D.length
        · obtain ⟨q, hq⟩ : ∃ q, D[t]? = some q := ⟨_, List.getElem?_eq_getElem hlt⟩
          have HQ := Lib.hid hq
          clear hq
          obtain ⟨qk, qv⟩ := q
          go_wp2_with fail
          refine (at_ok F p D t (qk, qv) _ T6.out.a HQ.out).mono ?_
          rintro e w7 ⟨rfl, n7, rfl⟩
          have T7 : Hid (Two w (w6.drewN n7) F p D G r D) := Lib.hid (T6.out.step (more_drewN _ n7))
          clear T6
          generalize w6.drewN n7 = w7 at T7 ⊢
          simp only
          go_wp2_with fail
          refine (at_ok G r D t (qk, qv) _ T7.out.b HQ.out).mono ?_
          rintro e w8 ⟨rfl, n8, rfl⟩
          have T8 : Hid (Two w (w7.drewN n8) F p D G r D) := Lib.hid (T7.out.step (more_drewN _ n8))
          clear T7
          generalize w7.drewN n8 = w8 at T8 ⊢
          simp only
          have b1 : (qv.toList != qv.toList) = false := by simp
          by_cases ht0 : t = 0
          · subst ht0
            go_wp2_with fail
            go_roundw
            case rel => exact ⟨1, by omega, by go_num, T8.out⟩
            case measure => simp [intOf]; omega
          · obtain ⟨x, hx⟩ : ∃ q, D[t - 1]? = some q := ⟨_, List.getElem?_eq_getElem (by omega)⟩
            have hlt2 : x.1 < qk := by
              have h1 := HASC.out
              have h2 := HQ.out
              unfold Asc at h1
              rw [List.pairwise_iff_getElem] at h1
              rw [List.getElem?_eq_getElem hlt] at h2
              rw [List.getElem?_eq_getElem (by omega)] at hx
              have := h1 (t - 1) t (by omega) hlt (by omega)
              simp at h2 hx
              rw [h2, hx] at this
              exact this
            have HXX := Lib.hid hx
            clear hx
            obtain ⟨xk, xv⟩ := x
            simp only at hlt2
            have d1 : decide (qk ≤ xk) = false := by simp; omega
            have d2 : decide ((0 : Int) < (t : Int)) = true := by simp; omega
            have CA : Hid (∀ w' i, MapAt w' F p D → i = ((t - 1 : Nat) : Int) → Calls Try.prog 18 #[.pointer (some ⟨p, 0, none⟩), .int .i64 i] w' fun e w'' => e = .returned (.tuple #[.int .i64 xk, .string xv, .bool true]) ∧ ∃ n, w'' = w'.drewN n) :=
              Lib.hid (fun w' i h e => by subst e; exact at_ok F p D (t - 1) (xk, xv) w' h HXX.out)
            clear hlt2
            go_wp2_with fail
            refine (CA.out _ _ T8.out.a (by first | omega | (rw [IntKind.wrap_i64]; omega))).mono ?_
            rintro e w9 ⟨rfl, n9, rfl⟩
            have T9 : Hid (Two w (w8.drewN n9) F p D G r D) := Lib.hid (T8.out.step (more_drewN _ n9))
            clear T8
            generalize w8.drewN n9 = w9 at T9 ⊢
            go_wp2_with fail
            go_roundw
            case rel => exact ⟨t + 1, by omega, by go_num, T9.out⟩
            case measure => simp [intOf]; omega
        · obtain rfl : t = D.length := by omega
          have CL := Lib.hid (fun F p w h => len_ok F p D w h)
          have KM := Lib.hid T6.out.more
          clear hlt ht
          generalize D.length = n at CL hsz ⊢
          go_wp2_with (go_at_call 20; first | (refine (CL.out _ _ _ T6.out.a).mono ?_; rintro e w7 ⟨rfl, rfl⟩) | (refine (CL.out _ _ _ T6.out.b).mono ?_; rintro e w7 ⟨rfl, rfl⟩))
          refine (lives_ok _).mono ?_
          rintro e w9 ⟨rfl, hM⟩
          have HM9 := Lib.hid (T6.out.more.trans hM)
          clear hM
          go_wp2_with fail
          go_ret
          exact ⟨rfl, HM9.out⟩
end Go.Proofs.Ytcaddbgoeoclnaa
