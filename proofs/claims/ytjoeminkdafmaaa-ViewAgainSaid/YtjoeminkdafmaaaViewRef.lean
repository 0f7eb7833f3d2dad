/-
  The document's own answers of layer 7: find, word, put.
-/
import Derived.Test.YtjoeminkdafmaaaPairs
import Derived.RegionTactic
import Derived.Deep.QuietTactic
import Derived.BigQuiet
namespace Go.Proofs.Ytjoeminkdafmaaa
open Go.RowKit Go.Sort Go.Maps
set_option linter.unusedVariables false
set_option linter.unusedSimpArgs false

/-- What find tells. -/
def Found (l : List KV) (a : Int) (e : Ending) : Prop := (∃ i p, l[i]? = some p ∧ look l a = some p.2 ∧ e = .returned (.int .i64 (i : Nat))) ∨ (look l a = none ∧ e = .returned (.int .i64 (-1)))
theorem look_at {l : List KV} {i : Nat} {p : KV} (h : l[i]? = some p) (hn : ∀ (j : Nat) (q : KV), j < i → l[j]? = some q → q.1 ≠ p.1) : look l p.1 = some p.2 := by
  induction l generalizing i with
  | nil => cases h
  | cons q l ih =>
    rw [look_cons]
    cases i with
    | zero => simp at h; subst h; rw [if_pos rfl]
    | succ i =>
      rw [if_neg (hn 0 q (by omega) rfl)]
      exact ih (by simpa using h) fun j r hj hr => hn (j + 1) r (by omega) (by simpa using hr)
theorem look_past {l : List KV} {a : Int} (hn : ∀ (j : Nat) (q : KV), l[j]? = some q → q.1 ≠ a) : look l a = none := look_none fun p hp => by
  obtain ⟨j, hj⟩ := List.getElem?_of_mem hp
  exact hn j p hj

set_option maxRecDepth 100000 in
set_option maxHeartbeats 1000000 in
theorem rfind_ok (al : Option Addr) (cap : Nat) (l : List KV) (a : Int) (w : World) (h : IsPairs w al l) (hlen : l.length ≤ 1000000) :
    Calls Try.prog 33 #[.slice al l.length cap, .int .i64 a] w fun e w' => Found l a e ∧ w' = w := by
  have HP := Lib.hid h
  clear h
  go_enter Try.func33, Try.ntmps33
  go_wp2_with fail
  go_loop [5] (fun u => ∃ i : Nat, u = .int .i64 i ∧ i ≤ l.length ∧ ∀ j q, j < i → l[j]? = some q → q.1 ≠ a) (fun u => l.length - (intOf u).toNat)
  case atStart => exact ⟨0, rfl, by omega, fun j q hj => by omega⟩
  case round =>
    obtain ⟨i, rfl, hi, hn⟩ := hrel
    have HN := Lib.hid hn
    clear hn
    by_cases hlt : i < l.length
    · obtain ⟨⟨k, v⟩, hp⟩ : ∃ p, l[i]? = some p := ⟨_, List.getElem?_eq_getElem hlt⟩
      obtain ⟨s, o, rfl, hs, hc⟩ := HP.out.resolve_left (by intro q; rw [q] at hlt; simp at hlt)
      obtain ⟨c0, _⟩ := hc i _ hp
      have HPI := Lib.hid hp
      clear hc hp
      by_cases hk : k = a
      · subst hk
        have FIN : Hid (Found l k (.returned (.int .i64 (i : Nat)))) := Lib.hid (.inl ⟨i, (k, v), HPI.out, look_at HPI.out HN.out, rfl⟩)
        go_wp2_with fail
        go_ret
        exact ⟨FIN.out, rfl⟩
      · have b : (k == a) = false := by simpa using hk
        have NX : Hid (∀ j q, j < i + 1 → l[j]? = some q → q.1 ≠ a) := Lib.hid fun j q hj hq => by
          by_cases e : j = i
          · subst e; rw [HPI.out] at hq; cases hq; exact hk
          · exact HN.out j q (by omega) hq
        clear hk
        go_wp2_with fail
        go_round
        case rel => exact ⟨i + 1, by go_num, by omega, NX.out⟩
        case measure => simp [intOf]; omega
    · have FIN : Hid (Found l a (.returned (.int .i64 (-1)))) := Lib.hid (.inr ⟨look_past fun j q hq => HN.out j q (by have := (List.getElem?_eq_some_iff.1 hq).1; omega) hq, rfl⟩)
      go_wp2_with fail
      go_ret
      exact ⟨FIN.out, rfl⟩

set_option maxRecDepth 100000 in
set_option maxHeartbeats 1000000 in
theorem rword_ok (ak ad : Option Addr) (ck cd : Nat) (K D : List KV) (a : Int) (w : World) (hK : IsPairs w ak K) (hD : IsPairs w ad D) (hk : K.length ≤ 1000000) (hd : D.length ≤ 1000000) :
    Calls Try.prog 24 #[.slice ak K.length ck, .slice ad D.length cd, .int .i64 a] w fun e w' => e = .returned (.tuple #[.int .i64 ((wordV (look K) D a).getD 0), .bool (wordV (look K) D a).isSome]) ∧ w' = w := by
  by_cases ha : a < 0
  · have e : wordV (look K) D a = some 0 := by unfold wordV; rw [if_pos ha]
    rw [e]
    have d : decide (a < 0) = true := by simp; omega
    clear ha e hK hD
    go_enter Try.func24, Try.ntmps24
    go_wp2_with fail
    go_ret2
    exact ⟨rfl, rfl⟩
  · have e : wordV (look K) D a = (look D a).or (look K a) := by unfold wordV; rw [if_neg ha]
    rw [e]
    obtain ⟨r, hr⟩ : ∃ r, r = (look D a).or (look K a) := ⟨_, rfl⟩
    rw [← hr]
    have HR := Lib.hid hr
    clear hr
    have d : decide (a < 0) = false := by simp; omega
    have FD := Lib.hid (rfind_ok ad cd D a w hD hd)
    have FK := Lib.hid (rfind_ok ak ck K a w hK hk)
    have HK := Lib.hid hK
    have HD := Lib.hid hD
    clear ha e hK hD
    go_enter Try.func24, Try.ntmps24
    go_wp2_with fail
    refine FD.out.mono ?_
    rintro e w' ⟨⟨i, p, hp, hl, rfl⟩ | ⟨hl, rfl⟩, rfl⟩
    · have hlt : i < D.length := (List.getElem?_eq_some_iff.1 hp).1
      obtain ⟨s, o, rfl, hs, hc⟩ := HD.out.resolve_left (by intro q; rw [q] at hlt; simp at hlt)
      obtain ⟨_, c1⟩ := hc i _ hp
      obtain rfl : r = some p.2 := by rw [HR.out, hl]; rfl
      clear hc hp hl
      go_wp2_with fail
      go_ret2
      exact ⟨rfl, rfl⟩
    · have HL := Lib.hid hl
      clear hl
      go_wp2_with fail
      refine FK.out.mono ?_
      rintro e w2 ⟨⟨i, p, hp, hl, rfl⟩ | ⟨hl, rfl⟩, rfl⟩
      · have hlt : i < K.length := (List.getElem?_eq_some_iff.1 hp).1
        obtain ⟨s, o, rfl, hs, hc⟩ := HK.out.resolve_left (by intro q; rw [q] at hlt; simp at hlt)
        obtain ⟨_, c1⟩ := hc i _ hp
        obtain rfl : r = some p.2 := by rw [HR.out, HL.out, hl]; rfl
        clear hc hp hl
        go_wp2_with fail
        go_ret2
        exact ⟨rfl, rfl⟩
      · obtain rfl : r = none := by rw [HR.out, HL.out, hl]; rfl
        clear hl
        go_wp2_with fail
        go_ret2
        exact ⟨rfl, rfl⟩
end Go.Proofs.Ytjoeminkdafmaaa
