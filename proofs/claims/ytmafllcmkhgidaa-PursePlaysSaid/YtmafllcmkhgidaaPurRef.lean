/-
  The document's own purse: List, All, Has, Push.
-/
import Derived.Test.YtmafllcmkhgidaaPurRefD
namespace Go.Proofs.Ytmafllcmkhgidaa
open Go.RowKit Go.Shelf
set_option linter.unusedVariables false
set_option linter.unusedSimpArgs false

theorem r_class (c : Int) (w : World) : Calls Try.prog 20 #[.int .i64 c] w (Gives w (.bool (clsB c))) := by
  by_cases h0 : 0 ≤ c
  · have d0 : decide (0 ≤ c) = true := by simp [h0]
    go_enter Try.func20, Try.ntmps20
    go_wp2_with fail
    go_ret
    exact ⟨by simp [clsB, d0], More.refl _⟩
  · have d0 : decide (0 ≤ c) = false := by simp; omega
    go_enter Try.func20, Try.ntmps20
    go_wp2_with fail
    go_ret
    exact ⟨by simp [clsB, d0], More.refl _⟩

/-- The document's own answers. -/
def listR (its : List It) (c : Int) : List Int := (its.filter (fun p => p.1 == c)).map (·.2)
theorem listR_take (its : List It) (c : Int) {k : Nat} {p : It} (h : its[k]? = some p) : listR (its.take (k + 1)) c = if p.1 = c then listR (its.take k) c ++ [p.2] else listR (its.take k) c := by
  have e : its.take (k + 1) = its.take k ++ [p] := by rw [List.take_add_one, h]; rfl
  rw [e]
  unfold listR
  rw [List.filter_append, List.map_append]
  by_cases q : p.1 = c <;> simp [q]
theorem listR_len (its : List It) (c : Int) : (listR its c).length ≤ its.length := by
  unfold listR
  rw [List.length_map]
  exact List.length_filter_le _ _

set_option maxHeartbeats 1000000 in
theorem r_List (v : Value) (its : List It) (c : Int) (w : World) (h : IR 0 w v its) (hl : its.length ≤ 1000000) :
    Calls Try.prog 21 #[.agg #[v], .int .i64 c] w (GaveInts w (listR its c)) := by
  obtain ⟨w1, e1, hl1, m1, s1⟩ := en1 w (.cells #[v] 30)
  have M1 := Lib.hid m1
  obtain ⟨a, cap, rfl, _, _, hr⟩ := (h.more m1).at
  have c0 : w1.cell? ⟨w.heap.size, 0, none⟩ = some (.slice a its.length cap) := by simp [World.cell?, hl1]
  have H1 := Lib.hid hr
  have C0 := Lib.hid c0
  have HL := Lib.hid hl
  clear m1 h s1 hl1 hr hl
  go_enter Try.func21, Try.ntmps21
  go_wp2_with fail
  go_loopw [6, 5] (fun i v wr => ∃ k : Nat, k ≤ its.length ∧ i = .int .i64 k ∧ Rw w1.heap.size wr v (listR (its.take k) c) ∧ More w1 wr) (fun i _ _ => its.length - (intOf i).toNat)
  case atStart => exact ⟨0, Nat.zero_le _, rfl, Rw.nil _ _, More.refl _⟩
  case round =>
    obtain ⟨k, hk, rfl, hr, ht⟩ := hrel
    have x0 := ht.cell C0.out
    by_cases hlt : k < its.length
    · obtain ⟨p, hp⟩ : ∃ p, its[k]? = some p := ⟨_, List.getElem?_eq_getElem hlt⟩
      obtain ⟨g, rfl, hc1, hc2⟩ := H1.out k p hp
      have x1 := ht.cell hc1
      have x2 := ht.cell hc2
      have NX := Lib.hid (listR_take its c hp)
      have R := Lib.hid hr
      have HT := Lib.hid ht
      have HLL := Lib.hid (show (listR (its.take k) c).length ≤ 1000000 by have h1 := listR_len (its.take k) c; rw [List.length_take] at h1; have := HL.out; omega)
      obtain ⟨p1, p2⟩ := p
      simp only at x1 x2 NX
      have hh := HL.out
      clear hp hc1 hc2 hr ht
      by_cases e : p1 = c
      · have d0 : (p1 == c) = true := by simp [e]
        have d1 : decide (p1 = c) = true := by simp [e]
        have NX := Lib.hid (NX.out.trans (if_pos e))
        clear e
        go_wp2_with (at_builtin
                     refine wpList_push p2 rfl _ _ rfl rfl R.out HT.out HLL.out rfl ?_
                     intro v' w3 r3 m3
                     have R3 := Lib.hid r3
                     have M3 := Lib.hid m3
                     clear r3 m3)
        go_roundw
        case rel => exact ⟨k + 1, by omega, by go_num, by rw [NX.out]; exact R3.out, M3.out⟩
        case measure => simp [intOf]; omega
      · have d0 : (p1 == c) = false := by simp [e]
        have d1 : decide (p1 = c) = false := by simp [e]
        have NX := Lib.hid (NX.out.trans (if_neg e))
        clear e
        go_wp2_with fail
        go_roundw
        case rel => exact ⟨k + 1, by omega, by go_num, by rw [NX.out]; exact R.out, HT.out⟩
        case measure => simp [intOf]; omega
    · obtain rfl : k = its.length := by omega
      have FIN := Lib.hid (hr.mono (show w.heap.size ≤ w1.heap.size from M1.out.size))
      rw [List.take_length] at FIN
      have M2 := Lib.hid (M1.out.trans ht)
      clear hr ht
      go_wp2_with fail
      go_ret
      exact ⟨_, rfl, FIN.out, M2.out⟩

def allR (its : List It) : Nat → List Int
  | 0 => []
  | n + 1 => allR its n ++ listR its n
theorem allR_len (its : List It) : ∀ n, (allR its n).length ≤ n * its.length
  | 0 => by simp [allR]
  | n + 1 => by rw [allR, List.length_append, Nat.succ_mul]; have := allR_len its n; have := listR_len its n; omega
set_option maxHeartbeats 1000000 in
theorem r_All (v : Value) (its : List It) (w : World) (h : IR 0 w v its) (hl : its.length ≤ 100000) :
    Calls Try.prog 23 #[.agg #[v]] w (GaveInts w (allR its 5)) := by
  obtain ⟨w1, e1, hl1, m1, s1⟩ := en1 w (.cells #[v] 30)
  have M1 := Lib.hid m1
  have B1 := Lib.hid hl1
  have C := Lib.hid (fun c W (hW : More w1 W) => r_List v its c W ((h.more m1).more hW) (by omega))
  have HL := Lib.hid hl
  clear m1 h s1 hl1 hl
  go_enter Try.func23, Try.ntmps23
  go_wp2_with fail
  go_loopw [4, 3] (fun i v wr => ∃ k : Nat, k ≤ 5 ∧ i = .int .i64 k ∧ Rw w1.heap.size wr v (allR its k) ∧ More w1 wr) (fun i _ _ => 5 - (intOf i).toNat)
  case atStart => exact ⟨0, Nat.zero_le _, rfl, Rw.nil _ _, More.refl _⟩
  case round =>
    obtain ⟨k, hk, rfl, hr, ht⟩ := hrel
    by_cases hlt : k < 5
    · have R := Lib.hid hr
      have HT := Lib.hid ht
      have HB : Hid ((allR its k).length + (listR its k).length ≤ 1000000) := Lib.hid (by have := allR_len its k; have := listR_len its k; have := HL.out; have : k * its.length ≤ 5 * its.length := Nat.mul_le_mul_right _ (by omega); omega)
      have BW := Lib.hid (ht.block B1.out)
      clear hr ht
      go_wp2_with (refine wpList_load_row rfl 30 _ rfl w.heap.size rfl 30 _ _ _ BW.out Try.underlying30 rfl (by kernel_rfl) ?_)
      refine (C.out k wr HT.out).mono ?_
      rintro e w3 ⟨v3, rfl, h3, m3⟩
      have R3 := Lib.hid (Rd.of_rw h3)
      have M3 := Lib.hid (HT.out.trans m3)
      have R := Lib.hid (R.out.more m3)
      clear h3 m3
      go_wp2_with (at_builtin
                   refine wpList_pushes (wa := w1) rfl _ _ rfl rfl R.out M3.out HB.out rfl R3.out ?_
                   intro v' w5 r5 m5
                   have R5 := Lib.hid r5
                   have M5 := Lib.hid m5
                   clear r5 m5)
      go_roundw
      case rel => exact ⟨k + 1, by omega, by go_num, R5.out, M5.out⟩
      case measure => simp [intOf]; omega
    · obtain rfl : k = 5 := by omega
      have FIN := Lib.hid (hr.mono (show w.heap.size ≤ w1.heap.size from M1.out.size))
      have M2 := Lib.hid (M1.out.trans ht)
      clear hr ht
      go_wp2_with fail
      go_ret
      exact ⟨_, rfl, FIN.out, M2.out⟩

def hasR (its : List It) (a : Int) : Bool := its.any (fun p => p.2 == a)
theorem hasR_no {its : List It} {a : Int} (h : ∀ (j : Nat) (p : It), its[j]? = some p → p.2 ≠ a) : hasR its a = false := by
  unfold hasR
  rw [List.any_eq_false]
  intro p hp
  obtain ⟨j, hj, rfl⟩ := List.mem_iff_getElem.1 hp
  simpa using h j _ (List.getElem?_eq_getElem hj)
theorem hasR_at {its : List It} {a : Int} {k : Nat} {p : It} (hk : its[k]? = some p) (h : p.2 = a) : hasR its a = true := by
  unfold hasR
  rw [List.any_eq_true]
  exact ⟨p, List.mem_of_getElem? hk, by simpa using h⟩
set_option maxHeartbeats 1000000 in
theorem r_Has (v : Value) (its : List It) (c : Int) (w : World) (h : IR 0 w v its) (hl : its.length ≤ 1000000) :
    Calls Try.prog 13 #[.agg #[v], .int .i64 c] w (Gives w (.bool (hasR its c))) := by
  obtain ⟨w1, e1, hl1, m1, s1⟩ := en1 w (.cells #[v] 30)
  have M1 := Lib.hid m1
  obtain ⟨a, cap, rfl, _, _, hr⟩ := (h.more m1).at
  have c0 : w1.cell? ⟨w.heap.size, 0, none⟩ = some (.slice a its.length cap) := by simp [World.cell?, hl1]
  have H1 := Lib.hid hr
  have C0 := Lib.hid c0
  have HL := Lib.hid hl
  clear m1 h s1 hl1 hr hl
  go_enter Try.func13, Try.ntmps13
  go_wp2_with fail
  go_loopw [5] (fun i wr => ∃ k : Nat, k ≤ its.length ∧ i = .int .i64 k ∧ (∀ (j : Nat) (p : It), j < k → its[j]? = some p → p.2 ≠ c) ∧ More w1 wr) (fun i _ => its.length - (intOf i).toNat)
  case atStart => exact ⟨0, Nat.zero_le _, rfl, (fun j p hj => by omega), More.refl _⟩
  case round =>
    obtain ⟨k, hk, rfl, hr, ht⟩ := hrel
    have x0 := ht.cell C0.out
    by_cases hlt : k < its.length
    · obtain ⟨p, hp⟩ : ∃ p, its[k]? = some p := ⟨_, List.getElem?_eq_getElem hlt⟩
      obtain ⟨g, rfl, hc1, hc2⟩ := H1.out k p hp
      have x2 := ht.cell hc2
      have HP := Lib.hid hp
      have R := Lib.hid hr
      have HT := Lib.hid ht
      have hh := HL.out
      obtain ⟨p1, p2⟩ := p
      simp only at x2
      clear hp hc1 hc2 hr ht
      by_cases e : p2 = c
      · have d0 : (p2 == c) = true := by simp [e]
        have d1 : decide (p2 = c) = true := by simp [e]
        have FIN := Lib.hid (hasR_at HP.out e)
        clear e
        go_wp2_with fail
        go_ret
        exact ⟨by rw [FIN.out]; rfl, M1.out.trans HT.out⟩
      · have d0 : (p2 == c) = false := by simp [e]
        have d1 : decide (p2 = c) = false := by simp [e]
        have NE := Lib.hid e
        clear e
        go_wp2_with fail
        go_roundw
        case rel => exact ⟨k + 1, by omega, by go_num, (fun j p hj hp => by
          by_cases q : j = k
          · subst q
            have := hp.symm.trans HP.out
            cases this; exact NE.out
          · exact R.out j p (by omega) hp), HT.out⟩
        case measure => simp [intOf]; omega
    · have FIN := Lib.hid (hasR_no (its := its) (a := c) (fun j p hp => hr j p (by have := (List.getElem?_eq_some_iff.1 hp).1; omega) hp))
      have HT := Lib.hid ht
      have hh := HL.out
      clear hr ht
      go_wp2_with fail
      go_ret
      exact ⟨by rw [FIN.out]; rfl, M1.out.trans HT.out⟩
end Go.Proofs.Ytmafllcmkhgidaa
