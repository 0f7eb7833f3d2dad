/-
  The walk over ViewDoes.
-/
import Derived.Test.YtjoeminkdafmaaaViewRefDo
import Derived.Test.YtjoeminkdafmaaaViewWalkA
namespace Go.Proofs.Ytjoeminkdafmaaa
open Go.RowKit Go.Sort Go.Maps Go.Shelf
set_option linter.unusedVariables false
set_option linter.unusedSimpArgs false

theorem okPs_of {zs : List Int} {K : List KV} (h : OkKn zs K) (hz : OkW zs) (hl : zs.length ≤ 1000) : OkPs K := fun p hp => by
  obtain ⟨h0, h1, h2⟩ := h.at' p hp
  exact ⟨W64.small h0 h1 (by omega), by rw [h2]; exact wAt_ok hz _⟩
theorem fine_plays {zs : List Int} (hz : OkW zs) (hl : zs.length ≤ 1000) {l : List Ins3} (hP : OkP l) : FineSem zs l.length (fun K => runP (look K) l false 0 []) := fun K hK =>
  runP_fine (okK_look (okPs_of hK hz hl)) l false 0 [] l.length hP (by unfold W64; omega) okD_nil asc_nil (by simp)
theorem doP_ok {sem : List KV → Ran} {ws : List Int} {b : Nat} (hf : FineSem ws b sem) : ∀ (n : Nat) (K : List KV) (xs : List Int) (K' : List KV), OkKn ws K → doP sem ws n K = some (xs, K') → xs.length = ws.length ∧ OkKn ws K'
  | 0, K, xs, K', _, h => by cases h
  | n + 1, K, xs, K', hK, h => by
    unfold doP at h
    have hfk := hf K hK
    cases hs : sem K with
    | need a =>
      rw [hs] at h hfk
      simp only at h
      split at h
      · rename_i ha
        exact doP_ok hf n _ xs K' (okKn_snoc hK hfk.1 ha hfk.2.2) h
      · cases h
    | done D =>
      rw [hs] at h
      simp only at h
      split at h
      · cases h; exact ⟨applyD_len D ws, hK⟩
      · cases h
/-- What both answer is the same. -/
theorem do_both {w1 w1' w2 w2' : World} {R : Option (List Int × List KV)} {e1 e2 : Ending} (h1 : DidDo w1 R e1 w1') (h2 : DidDo w2 R e2 w2') (m : More w1' w2) (n : Nat) (hn : ∀ xs K, R = some (xs, K) → xs.length ≤ n ∧ K.length ≤ n) :
    ∃ (v1 u1 : Value) (f : Int) (xs : List Int) (ps : List KV) (a2 b2 : Option Addr) (c2 d2 : Nat), e1 = .returned (.tuple #[v1, .slice a2 ps.length c2, .int .i64 f]) ∧ e2 = .returned (.tuple #[u1, .slice b2 ps.length d2, .int .i64 f]) ∧ Rw w1.heap.size w2' v1 xs ∧ Rw w2.heap.size w2' u1 xs ∧ IsPairs w2' a2 ps ∧ IsPairs w2' b2 ps ∧ xs.length ≤ n ∧ ps.length ≤ n := by
  cases R with
  | none => exact ⟨_, _, 3, [], [], none, none, 0, 0, h1.1, h2.1, Rw.nil _ _, Rw.nil _ _, .inl rfl, .inl rfl, by simp, by simp⟩
  | some r =>
    obtain ⟨xs, K⟩ := r
    obtain ⟨v1, v2, r1, p1, q1, m1⟩ := h1
    obtain ⟨u1, u2, r2, p2, q2, m2⟩ := h2
    obtain ⟨a2, c2, rfl, i1, _⟩ := q1.reads
    obtain ⟨b2, d2, rfl, i2, _⟩ := q2.reads
    exact ⟨v1, u1, 0, xs, K, a2, b2, c2, d2, r1, r2, p1.more (m.trans m2), p2, i1.more (m.trans m2), i2, (hn xs K rfl).1, (hn xs K rfl).2⟩
theorem didDo_more {w w' : World} {R : Option (List Int × List KV)} {e : Ending} (h : DidDo w R e w') : More w w' := by
  cases R with
  | none => exact h.2
  | some r => obtain ⟨_, _, _, _, _, m⟩ := h; exact m
theorem didDo_shape {w w' : World} {R : Option (List Int × List KV)} {e : Ending} (h : DidDo w R e w') : ∃ v1 a n c f, e = .returned (.tuple #[v1, .slice a n c, .int .i64 f]) := by
  cases R with
  | none => exact ⟨_, _, _, _, _, h.1⟩
  | some r =>
    obtain ⟨v1, v2, r1, p1, q1, m1⟩ := h
    obtain ⟨a2, c2, rfl, i1, _⟩ := q1.reads
    exact ⟨_, _, _, _, _, r1⟩

theorem isWords_row {w : World} {zs : List Int} {a : Option Addr} {cap : Nat} (h : RowAt w 3 (zs.map (Value.int .i64)) a cap) : IsWords w a zs := by
  by_cases h0 : zs = []
  · exact .inl h0
  · obtain ⟨g, rfl, hg, hc, _⟩ := h.reads (by simp; exact List.length_pos_iff.2 h0)
    refine .inr ⟨g, 0, rfl, hg, fun i hi => ?_⟩
    rw [Nat.zero_add]
    refine hc i _ ?_
    rw [List.getElem?_map, List.getElem?_eq_getElem hi]
    simp [List.getD, hi]

set_option maxRecDepth 100000 in
set_option maxHeartbeats 4000000 in
theorem does_walk (a0 : Option Addr) (cap0 : Nat) (zs : List Int) (a1 : Option Addr) (cap1 : Nat) (l : List Ins3) (w : World) (h0 : IsWords w a0 zs) (o0 : OkW zs) (m0 : zs.length ≤ 9223372036854775807) (h1 : IsIns w a1 l) (o1 : OkP l) (m1 : l.length ≤ 9223372036854775807) :
    Calls Try.prog 4 #[.slice a0 zs.length cap0, .slice a1 l.length cap1] w (Gives w (.bool true)) := by
  have henter := enters_of Try.func14 (by kernel_rfl) rfl
  have hmf : ∀ (fn : Fn) (first cap : Array Value) (w : World), (Instr.makeFunc fn first cap).run Try.prog w = .ok (.func fn first cap) w := fun _ _ _ _ => rfl
  have M0 : More w (w.alloc (.cells #[.slice a1 l.length cap1] 23)) := (More.refl w).alloc _
  have hb := heap_new w (.cells #[.slice a1 l.length cap1] 23)
  have HM0 := Lib.hid M0
  have HB := Lib.hid hb
  have hsz : w.heap.size < (w.alloc (.cells #[.slice a1 l.length cap1] 23)).heap.size := by simp
  obtain ⟨bc, _, _⟩ := box_cells hb
  clear M0 hb
  by_cases hk : zs.length ≤ 200
  · have d0 : decide ((200 : Int) < (zs.length : Int)) = false := by simp; omega
    by_cases hl : l.length ≤ 200
    · have d1 : decide ((200 : Int) < (l.length : Int)) = false := by simp; omega
      obtain ⟨R, hR⟩ : ∃ R, doP (fun K => runP (look K) l false 0 []) zs (zs.length + 1) [] = R := ⟨_, rfl⟩
      have HN : Hid (∀ xs K, R = some (xs, K) → xs.length ≤ 1000 ∧ K.length ≤ 1000) := Lib.hid fun xs K e => by
        have := doP_ok (fine_plays o0 (by omega) o1) _ _ xs K (okKn_nil zs) (hR.trans e)
        exact ⟨by rw [this.1]; omega, by have := this.2.len; omega⟩
      have D1 : Hid (∀ a cap w1, More (w.alloc (.cells #[.slice a1 l.length cap1] 23)) w1 → IsWords w1 a zs → Calls Try.prog 13 #[.slice a zs.length cap, .func (.func 14) #[] #[.pointer (some ⟨w.heap.size, 0, none⟩)]] w1 (DidDo w1 R)) := Lib.hid fun a cap w1 hm hz =>
        do_ok a cap zs (fun K => runP (look K) l false 0 []) R l.length w1 hz (by omega) o0 (fine_plays o0 (by omega) o1) (by omega) hR _ _ henter
          (fun K hK W F p m v n => clo_does F p w.heap.size (look K) a1 cap1 l _ W v ((hm.trans m).block HB.out) (h1.more ((HM0.out.trans hm).trans m)) (by omega) (fun h0 k hk hf => by
            have := ins_lt h1 h0 k hk; have := n k hf; have := (HM0.out.trans hm).size; omega) o1 (okK_look (okPs_of hK o0 (by omega))) rfl)
      have D2 : Hid (∀ w1, More w w1 → Calls Try.prog 16 #[.slice a0 zs.length cap0, .slice a1 l.length cap1] w1 (DidDo w1 R)) := Lib.hid fun w1 hm =>
        rdo_ok a0 a1 cap0 cap1 zs l R w1 (h0.more hm) (h1.more hm) (by omega) (by omega) o0 o1 hR (fine_plays o0 (by omega) o1)
      have H0 := Lib.hid h0
      clear h0 h1 o0 o1 hR henter
      go_enter Try.func4, Try.ntmps4
      go_wp2_with (at_builtin; refine wpList_words (w := w.alloc (.cells #[.slice a1 l.length cap1] 23)) (a := a0) (cap := cap0) (zs := zs) rfl _ _ rfl (by rw [World.size_alloc]; rfl) rfl (H0.out.more HM0.out) (by omega) ?_; intro a' cap' w1 h1 _ m1; have R1 := Lib.hid h1; have M1 := Lib.hid m1; clear h1 m1)
      have IW : Hid (IsWords w1 a' zs) := Lib.hid (isWords_row R1.out)
      refine (D1.out a' cap' w1 M1.out IW.out).mono ?_
      intro e1 w2 he1
      obtain ⟨v1, y1, n1, z1, f1, rfl⟩ := didDo_shape he1
      have M2 : Hid (More w w2) := Lib.hid ((HM0.out.trans M1.out).trans (didDo_more he1))
      have HE1 := Lib.hid he1
      have bc2 := ((M1.out.trans (didDo_more he1))).cell bc
      clear he1
      go_wp2_with fail
      refine (D2.out w2 M2.out).mono ?_
      intro e2 w3 he2
      obtain ⟨v, u, f, xs, ps, b1, b2, c1, c2, e1, rfl, r1, r2, q1, q2, hx, hp⟩ := do_both HE1.out he2 (More.refl w2) 1000 HN.out
      cases e1
      have M3 := Lib.hid (M2.out.trans (didDo_more he2))
      have SI := Lib.hid (rows_same xs v1 u _ _ w3 (by omega) r1 r2)
      have SP : Hid (∀ w4, More w3 w4 → Calls Try.prog 12 #[.slice y1 ps.length z1, .slice b2 ps.length c2] w4 (Gives w4 (.bool true))) := Lib.hid fun w4 m => pairs_same ps y1 b2 z1 c2 w4 (by omega) (q1.more m) (q2.more m)
      clear he2 q1 q2 r1 r2 D1 D2 HE1 IW R1
      have b0 : (f1 == f1) = true := by simp
      go_wp2_with fail
      refine SI.out.mono ?_
      rintro e w4 ⟨rfl, hm4⟩
      have M4 := Lib.hid (M3.out.trans hm4)
      have S4 := Lib.hid (SP.out w4 hm4)
      clear hm4
      go_wp2_with fail
      refine S4.out.mono ?_
      rintro e w5 ⟨rfl, hm5⟩
      have M5 := Lib.hid (M4.out.trans hm5)
      clear hm5
      go_wp2_with fail
      refine (lives_ok w5).mono ?_
      rintro e w6 ⟨rfl, hm6⟩
      have M6 := Lib.hid (M5.out.trans hm6)
      clear hm6
      go_wp2_with fail
      go_ret
      exact ⟨rfl, M6.out⟩
    · have d1 : decide ((200 : Int) < (l.length : Int)) = true := by simp; omega
      clear h0 h1 o0 o1 hl hk henter
      go_enter Try.func4, Try.ntmps4
      go_wp2_with fail
      refine (lives_ok _).mono ?_
      rintro e w3 ⟨rfl, hm3⟩
      have M3 := Lib.hid (HM0.out.trans hm3)
      clear hm3
      go_wp2_with fail
      go_ret
      exact ⟨rfl, M3.out⟩
  · have d0 : decide ((200 : Int) < (zs.length : Int)) = true := by simp; omega
    clear h0 h1 o0 o1 hk henter
    go_enter Try.func4, Try.ntmps4
    go_wp2_with fail
    refine (lives_ok _).mono ?_
    rintro e w3 ⟨rfl, hm3⟩
    have M3 := Lib.hid (HM0.out.trans hm3)
    clear hm3
    go_wp2_with fail
    go_ret
    exact ⟨rfl, M3.out⟩
end Go.Proofs.Ytjoeminkdafmaaa
