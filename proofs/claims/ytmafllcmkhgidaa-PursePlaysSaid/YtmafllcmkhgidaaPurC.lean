/-
  The landed package purse: List, All, Has.
-/
import Derived.Test.YtmafllcmkhgidaaPurB
namespace Go.Proofs.Ytmafllcmkhgidaa
open Go.RowKit
set_option linter.unusedVariables false
set_option linter.unusedSimpArgs false

def listC (P : Nat → List Int) (c : Int) : List Int := if clsB c then P c.toNat else []
set_option maxHeartbeats 1000000 in
theorem p_List (f : Nat → Value) (P : Nat → List Int) (c : Int) (w : World) (h : Pu w f P) (hL : ∀ k, k < 5 → (P k).length ≤ 1000000) :
    Calls Try.prog 22 #[.agg (puA f), .int .i64 c] w (GaveInts w (listC P c)) := by
  obtain ⟨w1, e1, hl1, m1, s1⟩ := en1 w (.cells (puA f) 27)
  have L0 := Lib.hid hl1
  have M1 := Lib.hid m1
  have HP := Lib.hid (h.more m1)
  clear m1 h s1
  cases hc : clsB c with
  | false =>
    have C := Lib.hid (fun W => p_class c W)
    rw [hc] at C
    have FIN : listC P c = [] := by simp [listC, hc]
    rw [FIN]
    clear hc FIN hl1 HP
    go_enter Try.func22, Try.ntmps22
    go_wp2_with fail
    refine (C.out w1).mono ?_
    rintro e w2 ⟨rfl, h2⟩
    have M2 := Lib.hid (M1.out.trans h2)
    clear h2
    go_wp2_with fail
    go_ret
    exact ⟨_, rfl, Rw.nil _ _, M2.out⟩
  | true =>
    obtain ⟨k, rfl, hk⟩ := clsB_nat hc
    have C := Lib.hid (fun W => p_class k W)
    rw [hc] at C
    have FIN : listC P k = P k := by simp [listC, hc]
    rw [FIN]
    have hm := Lib.hid hk
    have hl := hL k hk
    obtain ⟨a, cap, hf, _, _⟩ := HP.out k hk
    have X : Hid (∀ W, More w1 W → W.cell? ⟨w.heap.size, k, none⟩ = some (.slice a (P k).length cap) ∧ Rd W (.slice a (P k).length cap) (P k)) := Lib.hid fun W hW => ⟨(puA_cell (hW.block L0.out) hk).trans (by rw [hf]), by rw [← hf]; exact (HP.out.more hW) k hk⟩
    have HL := Lib.hid hl
    generalize (P k).length = n at X
    clear hc FIN hl1 HP hf hl hL
    go_enter Try.func22, Try.ntmps22
    go_wp2_with fail
    refine (C.out w1).mono ?_
    rintro e w2 ⟨rfl, h2⟩
    have M2 := Lib.hid (M1.out.trans h2)
    obtain ⟨x1, x2⟩ := X.out w2 h2
    have X2 := Lib.hid x2
    clear h2 x2
    go_wp2_with (at_builtin
                 refine wpList_pushes (wa := w) (xs := []) rfl _ _ rfl rfl (Rw.nil _ _) M2.out (by have := HL.out; simp; omega) rfl X2.out ?_
                 intro v' w3 r3 m3
                 have R3 := Lib.hid r3
                 have M3 := Lib.hid m3
                 clear r3 m3)
    go_ret
    exact ⟨_, rfl, by simpa using R3.out, M3.out⟩

/-- All of the first n classes. -/
def allTo (P : Nat → List Int) : Nat → List Int
  | 0 => []
  | n + 1 => allTo P n ++ P n
theorem allTo_len {P : Nat → List Int} (hL : ∀ k, k < 5 → (P k).length ≤ 100000) : ∀ n, n ≤ 5 → (allTo P n).length ≤ n * 100000
  | 0, _ => by simp [allTo]
  | n + 1, h => by have := allTo_len hL n (by omega); have := hL n (by omega); rw [allTo, List.length_append]; omega
theorem run_index_sl {P : Program} {t e : TypeId} {n : Nat} {cs : Array Value} {i : Nat} {v : Value} {q : TypeId} (W : World) (hu : P.underlying t = some (.array n e)) (he : P.underlying e = some (.slice q)) (hz : (P.info? e).map (·.size) = some 1)
    (hi : i < n) (hv : cs[i]? = some v) : (Instr.index t (.agg cs) (.int .i64 i)).run P W = .ok v W := by
  have hagg : (isAgg e).run P W = .ok false W := by
    unfold isAgg
    rw [Sem.run_bind, run_underlying he W]
    rfl
  cases hq : P.info? e with
  | none => simp [hq] at hz
  | some d =>
    have hs : d.size = 1 := by simpa [hq] using hz
    have hin : (0 : Int) ≤ (i : Int) ∧ (i : Int) < (n : Int) := by omega
    simp [Instr.index, asIntOf, Sem.run_bind, run_underlying hu W, hin, part, hagg, sizeOf, typeInfo, hq, hs, hv]
    intro q; omega
set_option maxHeartbeats 1000000 in
theorem p_All (f : Nat → Value) (P : Nat → List Int) (w : World) (h : Pu w f P) (hL : ∀ k, k < 5 → (P k).length ≤ 100000) :
    Calls Try.prog 15 #[.agg (puA f)] w (GaveInts w (allTo P 5)) := by
  obtain ⟨w1, e1, hl1, m1, s1⟩ := en1 w (.cells (puA f) 27)
  have L0 := Lib.hid hl1
  have M1 := Lib.hid m1
  have HP := Lib.hid (h.more m1)
  have HL := Lib.hid hL
  clear m1 h s1 hl1 hL
  go_enter Try.func15, Try.ntmps15
  go_wp2_with (refine wpList_load_row rfl 25 _ rfl _ rfl 27 _ _ _ L0.out Try.underlying25 rfl (by kernel_rfl) ?_)
  go_loopw [8, 3] (fun i v wr => ∃ k : Nat, k ≤ 5 ∧ i = .int .i64 k ∧ Rw w1.heap.size wr v (allTo P k) ∧ More w1 wr) (fun i _ _ => 5 - (intOf i).toNat)
  case atStart => exact ⟨0, by omega, rfl, Rw.nil _ _, More.refl _⟩
  case round =>
    obtain ⟨k, hk, rfl, hr, ht⟩ := hrel
    by_cases hlt : k < 5
    · have hx : ∀ W, (Instr.index 25 (.agg (puA f)) (.int .i64 k)).run Try.prog W = .ok (f k) W := fun W => run_index_sl W Try.underlying25 Try.underlying24 (by kernel_rfl) hlt (puA_at f hlt)
      have R := Lib.hid hr
      have HT := Lib.hid ht
      have X2 := Lib.hid ((HP.out.more ht) k hlt)
      have HB : Hid ((allTo P k).length + (P k).length ≤ 1000000) := Lib.hid (by have := allTo_len HL.out k (by omega); have := HL.out k hlt; omega)
      clear hr ht
      go_wp2_with (at_builtin
                   refine wpList_pushes (wa := w1) rfl _ _ rfl rfl R.out HT.out HB.out rfl X2.out ?_
                   intro v' w3 r3 m3
                   have R3 := Lib.hid r3
                   have M3 := Lib.hid m3
                   clear r3 m3)
      go_roundw
      case rel => exact ⟨k + 1, by omega, by go_num, R3.out, M3.out⟩
      case measure => simp [intOf]; omega
    · obtain rfl : k = 5 := by omega
      have FIN := Lib.hid (hr.mono (show w.heap.size ≤ w1.heap.size from M1.out.size))
      have M2 := Lib.hid (M1.out.trans ht)
      clear hr ht
      go_wp2_with fail
      go_ret
      exact ⟨_, rfl, FIN.out, M2.out⟩

/-! ### Has -/
def hasD (xs : List Int) (a : Int) : Bool := xs.any (fun x => x == a)
theorem hasD_le {xs : List Int} {a : Int} {k : Nat} (h : ∀ j, j < k → xs.getD j 0 ≠ a) (hk : k = xs.length) : hasD xs a = false := by
  unfold hasD
  rw [List.any_eq_false]
  intro x hx
  obtain ⟨j, hj, rfl⟩ := List.mem_iff_getElem.1 hx
  have := h j (by omega)
  simp [List.getD, hj] at this
  simpa using this
theorem hasD_at {xs : List Int} {a : Int} {k : Nat} (hk : k < xs.length) (h : xs.getD k 0 = a) : hasD xs a = true := by
  unfold hasD
  rw [List.any_eq_true]
  exact ⟨xs[k], List.getElem_mem hk, by simp [List.getD, hk] at h; simpa using h⟩
set_option maxHeartbeats 1000000 in
theorem p_index (xs : List Int) (a : Int) (v : Value) (w : World) (h : Rd w v xs) (hL : xs.length ≤ 1000000) :
    Calls Try.prog 25 #[v, .int .i64 a] w (fun e w' => ∃ i : Int, e = .returned (.int .i64 i) ∧ decide (0 ≤ i) = hasD xs a ∧ More w w') := by
  obtain ⟨b, cap, rfl, hc, hx⟩ := h.cell
  have H1 := Lib.hid hx
  have HL := Lib.hid hL
  clear h hx hL
  go_enter Try.func25, Try.ntmps25
  go_wp2_with fail
  go_loopw [8] (fun i wr => ∃ k : Nat, k ≤ xs.length ∧ i = .int .i64 k ∧ (∀ j, j < k → xs.getD j 0 ≠ a) ∧ More w wr) (fun i _ => xs.length - (intOf i).toNat)
  case atStart => exact ⟨0, Nat.zero_le _, rfl, (fun j hj => by omega), More.refl _⟩
  case round =>
    obtain ⟨k, hk, rfl, hn, ht⟩ := hrel
    by_cases hlt : k < xs.length
    · obtain ⟨g, rfl, hc2⟩ := H1.out k hlt
      have x1 := ht.cell hc2
      have HN := Lib.hid hn
      have HT := Lib.hid ht
      obtain ⟨z, hz⟩ : ∃ z, xs.getD k 0 = z := ⟨_, rfl⟩
      rw [hz] at x1
      have HZ := Lib.hid hz
      have hh := HL.out
      clear hc2 hn ht hz
      by_cases e : a = z
      · have d0 : (a == z) = true := by simp [e]
        have FIN := Lib.hid (hasD_at hlt (HZ.out.trans e.symm))
        clear e
        go_wp2_with fail
        go_ret
        exact ⟨_, rfl, by rw [FIN.out]; simp, HT.out⟩
      · have d0 : (a == z) = false := by simp [e]
        have NE := Lib.hid e
        clear e
        go_wp2_with fail
        go_roundw
        case rel => exact ⟨k + 1, by omega, by go_num, (fun j hj => by
          by_cases q : j = k
          · subst q; rw [HZ.out]; exact fun q => NE.out q.symm
          · exact HN.out j (by omega)), HT.out⟩
        case measure => simp [intOf]; omega
    · have FIN := Lib.hid (hasD_le hn (show k = xs.length by omega))
      have HT := Lib.hid ht
      clear hn ht
      go_wp2_with fail
      go_ret
      exact ⟨_, rfl, by rw [FIN.out]; rfl, HT.out⟩
theorem p_contains (xs : List Int) (a : Int) (v : Value) (w : World) (h : Rd w v xs) (hL : xs.length ≤ 1000000) :
    Calls Try.prog 24 #[v, .int .i64 a] w (Gives w (.bool (hasD xs a))) := by
  have H := Lib.hid (p_index xs a v w h hL)
  obtain ⟨b, cap, rfl, _, _⟩ := h.cell
  clear h hL
  go_enter Try.func24, Try.ntmps24
  go_wp2_with fail
  refine H.out.mono ?_
  rintro e w2 ⟨i, rfl, hi, h2⟩
  have M2 := Lib.hid h2
  have HI := Lib.hid hi
  clear h2 hi
  go_wp2_with fail
  go_ret
  exact ⟨by rw [← HI.out]; rfl, M2.out⟩

def hasTo (P : Nat → List Int) (a : Int) : Nat → Bool
  | 0 => false
  | n + 1 => hasTo P a n || hasD (P n) a
theorem hasTo_in {P : Nat → List Int} {a : Int} {k : Nat} (h : hasD (P k) a = true) : ∀ n, k < n → hasTo P a n = true
  | 0, q => by omega
  | n + 1, q => by
    rw [hasTo]
    by_cases e : k = n
    · subst e; rw [h]; simp
    · rw [hasTo_in h n (by omega)]; rfl
theorem hasTo_all (P : Nat → List Int) (a : Int) : ∀ n, hasTo P a n = hasD (allTo P n) a
  | 0 => rfl
  | n + 1 => by rw [hasTo, allTo, hasTo_all P a n]; simp [hasD]
set_option maxHeartbeats 1000000 in
theorem p_Has (f : Nat → Value) (P : Nat → List Int) (a : Int) (w : World) (h : Pu w f P) (hL : ∀ k, k < 5 → (P k).length ≤ 100000) :
    Calls Try.prog 12 #[.agg (puA f), .int .i64 a] w (Gives w (.bool (hasD (allTo P 5) a))) := by
  rw [← hasTo_all]
  obtain ⟨w1, e1, hl1, m1, s1⟩ := en1 w (.cells (puA f) 27)
  have L0 := Lib.hid hl1
  have M1 := Lib.hid m1
  have HP := Lib.hid (h.more m1)
  have HL := Lib.hid hL
  clear m1 h s1 hl1 hL
  go_enter Try.func12, Try.ntmps12
  go_wp2_with (refine wpList_load_row rfl 25 _ rfl _ rfl 27 _ _ _ L0.out Try.underlying25 rfl (by kernel_rfl) ?_)
  go_loopw [9] (fun i wr => ∃ k : Nat, k ≤ 5 ∧ i = .int .i64 k ∧ hasTo P a k = false ∧ More w1 wr) (fun i _ => 5 - (intOf i).toNat)
  case atStart => exact ⟨0, by omega, rfl, rfl, More.refl _⟩
  case round =>
    obtain ⟨k, hk, rfl, hr, ht⟩ := hrel
    by_cases hlt : k < 5
    · have hx : ∀ W, (Instr.index 25 (.agg (puA f)) (.int .i64 k)).run Try.prog W = .ok (f k) W := fun W => run_index_sl W Try.underlying25 Try.underlying24 (by kernel_rfl) hlt (puA_at f hlt)
      have R := Lib.hid hr
      have HT := Lib.hid ht
      have C := Lib.hid (p_contains (P k) a (f k) wr ((HP.out.more ht) k hlt) (by have := HL.out k hlt; omega))
      clear hr ht
      go_wp2_with fail
      refine C.out.mono ?_
      rintro e w3 ⟨rfl, h3⟩
      have M3 := Lib.hid (HT.out.trans h3)
      have UP : Hid (hasD (P k) a = true → hasTo P a 5 = true) := Lib.hid fun e => hasTo_in e 5 hlt
      clear h3
      cases hb : hasD (P k) a with
      | true =>
        have FIN := Lib.hid (UP.out hb)
        clear hb
        go_wp2_with fail
        go_ret
        exact ⟨by rw [FIN.out]; rfl, M1.out.trans M3.out⟩
      | false =>
        have FIN : Hid (hasTo P a (k + 1) = false) := Lib.hid (by rw [hasTo, R.out, hb]; rfl)
        clear hb
        go_wp2_with fail
        go_roundw
        case rel => exact ⟨k + 1, by omega, by go_num, FIN.out, M3.out⟩
        case measure => simp [intOf]; omega
    · obtain rfl : k = 5 := by omega
      have FIN := Lib.hid hr
      have M2 := Lib.hid (M1.out.trans ht)
      clear hr ht
      go_wp2_with fail
      go_ret
      exact ⟨by rw [FIN.out]; rfl, M2.out⟩
end Go.Proofs.Ytmafllcmkhgidaa
