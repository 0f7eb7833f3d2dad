/-
  The landed package view: Do.
-/
import Derived.Test.YtflihdcliknggaaViewRuns
import Derived.Test.YtflihdcliknggaaViewDoD
import Derived.Test.YtflihdcliknggaaInts
import Derived.Shelf.SlicesG.Clone
namespace Go.Proofs.Ytflihdcliknggaa
open Go.RowKit Go.Sort Go.Maps Go.Shelf
set_option linter.unusedVariables false
set_option linter.unusedSimpArgs false

/-- A slice of integers: it is empty, or leads to its elements. -/
def IsWords (w : World) (a : Option Addr) (zs : List Int) : Prop :=
  zs = [] ∨ ∃ s o, a = some ⟨s, o, none⟩ ∧ s < w.heap.size ∧ ∀ i, i < zs.length → w.cell? ⟨s, o + i, none⟩ = some (.int .i64 (zs.getD i 0))
theorem IsWords.more {w w' : World} {a : Option Addr} {zs : List Int} (h : IsWords w a zs) (t : More w w') : IsWords w' a zs := by
  rcases h with h | ⟨s, o, rfl, hl, hc⟩
  · exact .inl h
  · exact .inr ⟨s, o, rfl, Nat.lt_of_lt_of_le hl t.size, fun i hi => t.cell (hc i hi)⟩
theorem clone_words (a : Option Addr) (cap : Nat) (zs : List Int) (w : World) (h : IsWords w a zs) (hl : zs.length ≤ 1000000) :
    Calls Try.prog 18 #[.slice a zs.length cap] w fun e w' => ∃ a' cap', e = .returned (.slice a' zs.length cap') ∧ RowAt w' 3 (zs.map (Value.int .i64)) a' cap' ∧ (∀ k, owned a' k → w.heap.size ≤ k) ∧ More w w' := by
  have fin : ∀ {v' : Value} {w' : World}, w'.ownsRow w.heap.size 3 1 v' zs.length (zs.map (Value.int .i64)) → Below w.heap.size w w' → ∃ a' cap', Ending.returned v' = .returned (.slice a' zs.length cap') ∧ RowAt w' 3 (zs.map (Value.int .i64)) a' cap' ∧ (∀ k, owned a' k → w.heap.size ≤ k) ∧ More w w' := by
    intro v' w' ho hb
    obtain ⟨a', cap', rfl, hr, hn, _⟩ := RowAt.of_own ho
    exact ⟨a', cap', rfl, hr, hn, more_of_below hb⟩
  cases a with
  | none =>
    obtain rfl : zs = [] := by
      rcases h with h | ⟨s, o, h, _⟩
      · exact h
      · cases h
    refine (AnyG.slices_Clone_int_nil Try.lCloneN 0 cap w).mono ?_
    rintro e w' ⟨rfl, rfl⟩
    exact ⟨none, 0, rfl, RowAt.nil _ _, (fun k hk => by cases hk), More.refl _⟩
  | some b =>
    by_cases h0 : zs = []
    · subst h0
      refine (AnyG.slices_Clone_int_zero Try.lCloneN b cap w).mono ?_
      rintro e w' ⟨v', rfl, ho, _, hb⟩
      exact fin ho hb
    · obtain ⟨s, o, e, hs, hc⟩ := h.resolve_left h0
      cases e
      refine (AnyG.slices_Clone_int Try.lCloneN s o zs.length cap zs w (Nat.le_refl _) (by omega) hc).mono ?_
      rintro e w' ⟨v', rfl, ho, _, hb⟩
      rw [List.take_length] at ho
      exact fin ho hb

/-- What finish, and Do, answer: the words, what was needed; or ErrRange. -/
def Finished (w : World) (zs : List Int) (D : List KV) (a : Option Addr) (cap : Nat) (vn : Value) (e : Ending) (w' : World) : Prop :=
  Turned (owned a) w w' ∧ ((fitsD zs D = true ∧ e = .returned (.tuple #[.slice a zs.length cap, vn, .int .i64 0]) ∧ RowAt w' 3 ((applyD zs D).map (Value.int .i64)) a cap) ∨
    (fitsD zs D = false ∧ e = .returned (.tuple #[.slice none 0 0, .slice none 0 0, .int .i64 3])))

set_option maxRecDepth 100000 in
set_option maxHeartbeats 4000000 in
theorem finish_ok (zs : List Int) (D : List KV) (a ad an : Option Addr) (cap cd n cn : Nat) (w : World) (hr : RowAt w 3 (zs.map (Value.int .i64)) a cap) (hd : IsPairs w ad D) (hl : D.length ≤ 1000000) (hz : zs.length ≤ 1000000) (hD : OkD D) (hne : ∀ k, leads ad k → ¬ owned a k) :
    Calls Try.prog 20 #[.slice a zs.length cap, .slice an n cn, .slice ad D.length cd] w (Finished w zs D a cap (.slice an n cn)) := by
  have HR := Lib.hid hr; have HD := Lib.hid hd; have HO := Lib.hid hD; have HN := Lib.hid hne
  clear hr hd hD hne
  go_enter Try.func20, Try.ntmps20
  go_wp2_with fail
  go_loopw [13] (fun u wr => ∃ i : Nat, u = .int .i64 i ∧ i ≤ D.length ∧ fitsD zs (D.take i) = true ∧ RowAt wr 3 ((applyD zs (D.take i)).map (Value.int .i64)) a cap ∧ Turned (owned a) w wr) (fun u _ => D.length - (intOf u).toNat)
  case atStart => exact ⟨0, rfl, by omega, rfl, HR.out, Turned.refl _ _⟩
  case round =>
    obtain ⟨i, rfl, hi, hf, hr, ht⟩ := hrel
    have HF := Lib.hid hf; have HR2 := Lib.hid hr; have HT := Lib.hid ht
    clear hf hr ht
    by_cases hlt : i < D.length
    · obtain ⟨⟨k, v⟩, hp⟩ : ∃ p, D[i]? = some p := ⟨_, List.getElem?_eq_getElem hlt⟩
      obtain ⟨s, o, rfl, hs, hc⟩ := (HD.out.keep HT.out HN.out).resolve_left (by intro q; rw [q] at hlt; simp at hlt)
      obtain ⟨c0, c1⟩ := hc i _ hp
      simp only at c0 c1
      obtain ⟨hk0, _, _⟩ := HO.out _ (List.mem_of_getElem? hp)
      simp only at hk0
      have HP := Lib.hid hp
      clear hc hp
      by_cases hk : k < zs.length
      · obtain ⟨j, rfl⟩ : ∃ j : Nat, k = j := ⟨k.toNat, by omega⟩
        have d1 : decide ((zs.length : Int) ≤ (j : Int)) = false := by simp; omega
        have hj : j < zs.length := by omega
        have hlen := applyD_len (D.take i) zs
        have hrow := HR2.out
        rcases hrow with ⟨rfl, rfl, hx⟩ | ⟨g, cur, rfl, hg, hn, hm, hsz, htk⟩
        · have := congrArg List.length hx; rw [List.length_map, hlen, List.length_nil] at this; omega
        have hgl := lt_of_heap hg
        have hcell : wr.cell? ⟨g, j, none⟩ = cur[j]? := by simp [World.cell?, hg]
        have hcell2 : ∃ u, wr.cell? ⟨g, j, none⟩ = some u := by
          have : j < cur.size := by rw [List.length_map, hlen] at hn; omega
          exact ⟨cur[j], by rw [hcell, Array.getElem?_eq_getElem this]⟩
        obtain ⟨u0, hu⟩ := hcell2
        have hfr : wr.frozen? ⟨g, j, none⟩ = false := by simp [World.frozen?, hg]
        have NX : Hid (fitsD zs (D.take (i + 1)) = true ∧ RowAt ((wr.setCell ⟨g, j, none⟩ (.int .i64 v)).alloc (.cells #[.int .i64 (j : Int), .int .i64 v] 49)) 3 ((applyD zs (D.take (i + 1))).map (Value.int .i64)) (some ⟨g, 0, none⟩) cap ∧ Turned (owned (some ⟨g, 0, none⟩)) w ((wr.setCell ⟨g, j, none⟩ (.int .i64 v)).alloc (.cells #[.int .i64 (j : Int), .int .i64 v] 49))) := Lib.hid (by
          rw [take_next HP.out, fitsD_snoc, applyD_snoc, HF.out]
          refine ⟨by simp; omega, ?_, (turned_setCell HT.out (fun _ => rfl) _).alloc _⟩
          have r2 := rowAt_set (i := j) (.int .i64 v) HR2.out (by simp [hlen]; omega)
          have r3 := r2.keep ((More.refl _).alloc (.cells #[.int .i64 (j : Int), .int .i64 v] 49)) (fun _ _ q => q)
          simpa [List.map_set] using r3)
        clear hn hm hsz htk hg hcell hk
        go_wp2_with fail
        go_roundw
        case rel => exact ⟨i + 1, by go_num, by omega, NX.out.1, NX.out.2.1, NX.out.2.2⟩
        case measure => simp [intOf]; omega
      · have d1 : decide ((zs.length : Int) ≤ k) = true := by simp; omega
        have FIN : Hid (∀ w', More wr w' → Finished w zs D a cap (.slice an n cn) (.returned (.tuple #[.slice none 0 0, .slice none 0 0, .int .i64 3])) w') := Lib.hid fun w' t => ⟨turned_own (F' := fun _ => False) HT.out t (fun _ q => q.elim), .inr ⟨fitsD_not HP.out hk, rfl⟩⟩
        have HM : Hid (∀ o, More wr (wr.alloc o)) := Lib.hid fun o => (More.refl wr).alloc o
        clear hk
        go_wp2_with fail
        go_ret3
        exact FIN.out _ (HM.out _)
    · obtain rfl : i = D.length := by omega
      have FIN : Hid (Finished w zs D a cap (.slice an n cn) (.returned (.tuple #[.slice a zs.length cap, .slice an n cn, .int .i64 0])) wr) := Lib.hid ⟨HT.out, .inl ⟨by have := HF.out; rwa [List.take_length] at this, rfl, by have := HR2.out; rwa [List.take_length] at this⟩⟩
      go_wp2_with fail
      go_ret3
      exact FIN.out
end Go.Proofs.Ytflihdcliknggaa
