/-
  The document's own answer for package sorted: Put, Cut, Nth.
-/
import Derived.Test.YtcaddbgoeoclnaaSortedRef
import Derived.Test.YtcaddbgoeoclnaaSortedPut
import Derived.Deep.DeepMust
namespace Go.Proofs.Ytcaddbgoeoclnaa
open Go.RowKit Go.Sort
set_option linter.unusedVariables false
set_option linter.unusedSimpArgs false

theorem once_put {R : List KV} (h : Once R) (k : Int) (v : ByteArray) : Once (putR R k v) := by
  cases e : look R k with
  | none =>
    rw [putR_new e]
    unfold Once at *
    rw [List.pairwise_append]
    refine ⟨h, by simp, fun a ha b hb => ?_⟩
    simp at hb; subst hb
    exact look_none_iff.1 e a ha
  | some u =>
    obtain ⟨A, B, rfl, ha⟩ := part_with e
    rw [putR_old h ha]
    unfold Once at *
    rw [List.pairwise_append, List.pairwise_cons] at *
    refine ⟨h.1, ⟨h.2.1.1, h.2.1.2⟩, fun a ha' b hb => ?_⟩
    rcases List.mem_cons.1 hb with rfl | hb
    · exact ha a ha'
    · exact h.2.2 a ha' b (by simp [hb])
theorem len_putR (R : List KV) (k : Int) (v : ByteArray) : (putR R k v).length = if (look R k).isSome then R.length else R.length + 1 := by
  unfold putR; split <;> simp

theorem pairCells_mid (A B : List KV) (k : Int) (v u : ByteArray) : pairCells (A ++ (k, v) :: B) = (pairCells (A ++ (k, u) :: B)).set (A.length * 2 + 1) (.string v) := by
  rw [pairCells_append, pairCells_append, List.set_append, if_neg (by rw [pairCells_len]; omega), pairCells_len, show A.length * 2 + 1 - A.length * 2 = 1 by omega]
  rfl
theorem own_set {w : World} {e : TypeId} {n s i cap g : Nat} {xs : List Value} (x : Value) (h : w.ownsRow 0 e s (.slice (some ⟨g, 0, none⟩) n cap) n xs) (hi : i < n * s) : (w.setCell ⟨g, i, none⟩ x).ownsRow 0 e s (.slice (some ⟨g, 0, none⟩) n cap) n (xs.set i x) := by
  refine ⟨by simpa using h.1, ?_⟩
  rcases h.2 with ⟨q, _⟩ | ⟨g', c, cur, e1, h2, h3, h4, h5, h6, h7⟩
  · cases q
  · cases e1
    refine .inr ⟨g, cap, _, rfl, h2, heap_setCell x h3, h4, h5, by simpa using h6, ?_⟩
    rw [Array.toList_setIfInBounds, List.take_set, h7]

set_option maxHeartbeats 1000000 in
theorem rput_old (F : Nat → Prop) (r : Nat) (R : List KV) (k : Int) (v u : ByteArray) (w : World) (h : RefAt w F r R) (e : look R k = some u) :
    Calls Try.prog 12 #[.pointer (some ⟨r, 0, none⟩), .int .i64 k, .string v] w (DidRef w F r (putR R k v) (.bool false)) := by
  obtain ⟨A, B, hR, ha⟩ := part_with e
  have C := Lib.hid (at_yes F r R A B k u w h hR ha)
  have hi : A.length < R.length := by rw [hR]; simp
  obtain ⟨ra, rc, hr, hrow, fr, fk⟩ := h.ex
  obtain ⟨c0, f0, hlt⟩ := cell_one hr
  obtain ⟨g, rfl, hg, hc, hf⟩ := pair_reads hrow (by omega)
  have x1 := (hc A.length (k, u) (by rw [hR]; simp)).2
  have hs := h.small
  have FIN0 : DidRef w F r (putR R k v) (.bool false) (.returned (.bool false)) (w.setCell ⟨g, A.length * 2 + 1, none⟩ (.string v)) := by
    have hgr := (fk g rfl).2
    have hR' : putR R k v = A ++ (k, v) :: B := by rw [hR, putR_old (by rw [← hR]; exact h.once) ha]
    have hlen : (putR R k v).length = R.length := by rw [len_putR, e]; rfl
    have tg : Turned (fun x => x = g) w (w.setCell ⟨g, A.length * 2 + 1, none⟩ (.string v)) := turned_setCell (S := fun x => x = g) (Turned.refl _ w) (fun _ => rfl) _
    have hh : (w.setCell ⟨g, A.length * 2 + 1, none⟩ (.string v)).heap.size = w.heap.size := by simp
    refine ⟨rfl, F, ⟨once_put h.once k v, by omega, fun x hx => by rw [hh]; exact h.lt x hx, _, rc, ?_, ?_, fr, fk⟩, tg.mono fun x _ q => by subst q; exact (fk x rfl).1, fun x hx => .inl hx⟩
    · rw [hlen, Turned.block tg r (lt_of_heap hr) (fun q => hgr q.symm)]; exact hr
    · have q : pairCells (putR R k v) = (pairCells R).set (A.length * 2 + 1) (.string v) := by rw [hR', hR, pairCells_mid A B k v u]
      rw [q, hlen]
      exact own_set _ hrow (by omega)
  have FIN := Lib.hid FIN0
  have hfg := hf (A.length * 2 + 1)
  simp only at x1
  clear FIN0 hc hf hR ha hr hrow fr fk h e
  generalize R.length = n at *
  generalize A.length = m at *
  have d : decide (0 ≤ (m : Int)) = true := by simp
  go_enter Try.func12, Try.ntmps12
  go_wp2_with fail
  refine C.out.mono ?_
  rintro e w ⟨rfl, rfl⟩
  go_wp2_with fail
  go_ret
  exact FIN.out

set_option maxHeartbeats 1000000 in
theorem rput_new (F : Nat → Prop) (r : Nat) (R : List KV) (k : Int) (v : ByteArray) (w : World) (h : RefAt w F r R) (hs : R.length < 100000) (e : look R k = none) :
    Calls Try.prog 12 #[.pointer (some ⟨r, 0, none⟩), .int .i64 k, .string v] w (DidRef w F r (putR R k v) (.bool true)) := by
  have C := Lib.hid (at_none' F r R k w h (look_none_iff.1 e))
  obtain ⟨ra, rc, hr, hrow, fr, fk⟩ := h.ex
  obtain ⟨c0, f0, hlt⟩ := cell_one hr
  have hR' : putR R k v = R ++ [(k, v)] := putR_new e v
  have FIN0 : ∀ ra' rc' w', w'.ownsRow 0 62 2 (.slice ra' (R.length + 1) rc') (R ++ [(k, v)]).length (pairCells (R ++ [(k, v)])) → Turned (owned ra) w w' → (∀ k, owned ra' k → owned ra k ∨ w.heap.size ≤ k) →
      DidRef w F r (putR R k v) (.bool true) (.returned (.bool true)) (w'.setCell ⟨r, 0, none⟩ (.slice ra' (R.length + 1) rc')) := by
    intro ra' rc' w' hown ht hfr
    have hlen : (putR R k v).length = R.length + 1 := by rw [hR']; simp
    rw [← hR', hlen] at hown
    have hl' := own_lt hown
    have hr2 : w'.heap[r]? = _ := (Turned.block ht r (lt_of_heap hr) (fun q => (fk r q).2 rfl)).trans hr
    have hr3 := heap_setCell (o := 0) (.slice ra' (R.length + 1) rc') hr2
    have hh : (w'.setCell ⟨r, 0, none⟩ (.slice ra' (R.length + 1) rc')).heap.size = w'.heap.size := by simp
    have nr : ∀ x, owned ra' x → x ≠ r := fun x hx q => by
      subst q
      rcases hfr x hx with q | q
      · exact (fk x q).2 rfl
      · omega
    refine ⟨rfl, fun x => (F x ∨ w.heap.size ≤ x) ∧ x < w'.heap.size, ⟨once_put h.once k v, by omega, fun x hx => by rw [hh]; exact hx.2, ra', rc', ?_, ?_, ⟨.inl fr, by have := ht.size; omega⟩, ?_⟩, ?_, fun x hx => hx.1⟩
    · rw [hr3, hlen]; simp
    · rw [hlen]
      exact own_keep hown (turned_setCell (S := fun x => x = r) (Turned.refl _ w') (fun _ => rfl) _) nr
    · intro x hx
      exact ⟨⟨(hfr x hx).imp (fun q => (fk x q).1) id, hl' x hx⟩, nr x hx⟩
    · exact turned_setCell (ht.mono fun x _ q => (fk x q).1) (fun _ => fr) _
  have FIN := Lib.hid FIN0
  have HROW := Lib.hid hrow
  have HR := Lib.hid hr
  have HK := Lib.hid fk
  clear FIN0 hrow h e fr fk hR' hr
  go_enter Try.func12, Try.ntmps12
  go_wp2_with fail
  refine C.out.mono ?_
  rintro e w ⟨rfl, rfl⟩
  go_wp2_with (at_builtin; refine wpList_pair (k, v) rfl _ _ rfl rfl HROW.out (Nat.zero_le _) (by omega) rfl ?_; intro ra' rc' w2 hown ht hfr
               obtain ⟨d0, g0, hlt2⟩ := cell_one (show w2.heap[r]? = _ from (Turned.block ht r (lt_of_heap HR.out) (fun q => (HK.out r q).2 rfl)).trans HR.out)
               have H1 := Lib.hid hown; have H2 := Lib.hid ht; have H3 := Lib.hid hfr; clear hown ht hfr)
  go_ret
  exact FIN.out _ _ _ H1.out H2.out H3.out
/-- Put. -/
theorem rput_ok (F : Nat → Prop) (r : Nat) (R : List KV) (k : Int) (v : ByteArray) (w : World) (h : RefAt w F r R) (hs : R.length < 100000) :
    Calls Try.prog 12 #[.pointer (some ⟨r, 0, none⟩), .int .i64 k, .string v] w (DidRef w F r (putR R k v) (.bool (look R k).isNone)) := by
  cases e : look R k with
  | none => exact rput_new F r R k v w h hs e
  | some u => exact rput_old F r R k v u w h e

set_option maxHeartbeats 1000000 in
theorem rcut_none (F : Nat → Prop) (r : Nat) (R : List KV) (k : Int) (w : World) (h : RefAt w F r R) (e : look R k = none) :
    Calls Try.prog 14 #[.pointer (some ⟨r, 0, none⟩), .int .i64 k] w (DidRef w F r (cutD R k) (.bool false)) := by
  have C := Lib.hid (at_none' F r R k w h (look_none_iff.1 e))
  have FIN : Hid (DidRef w F r (cutD R k) (.bool false) (.returned (.bool false)) w) := Lib.hid (by rw [cutD_none e]; exact ⟨rfl, F, h, Turned.refl _ w, fun x hx => .inl hx⟩)
  clear h e
  go_enter Try.func14, Try.ntmps14
  go_wp2_with fail
  refine C.out.mono ?_
  rintro e w ⟨rfl, rfl⟩
  go_wp2_with fail
  go_ret
  exact FIN.out

set_option maxHeartbeats 2000000 in
theorem rcut_yes (F : Nat → Prop) (r : Nat) (R : List KV) (k : Int) (u : ByteArray) (w : World) (h : RefAt w F r R) (e : look R k = some u) :
    Calls Try.prog 14 #[.pointer (some ⟨r, 0, none⟩), .int .i64 k] w (DidRef w F r (cutD R k) (.bool true)) := by
  obtain ⟨A, B, hR, ha⟩ := part_with e
  have C := Lib.hid (at_yes F r R A B k u w h hR ha)
  have hi : A.length < R.length := by rw [hR]; simp
  obtain ⟨ra, rc, hr, hrow, fr, fk⟩ := h.ex
  obtain ⟨c0, f0, hlt⟩ := cell_one hr
  obtain ⟨g, rfl, hg, hc, hf⟩ := pair_reads hrow (by omega)
  have hs := h.small
  have hR' : cutD R k = A ++ B := by rw [hR, cutR_old (by rw [← hR]; exact h.once) ha]
  have hAB : (A ++ B).length + 1 = R.length := by rw [hR]; simp; omega
  have hgr : g ≠ r := (fk g rfl).2
  have G1 : ∀ j p, R[j]? = some p → j < A.length → (A ++ B)[j]? = some p := fun j p hj hl => by
    rw [hR, List.getElem?_append_left hl] at hj
    rw [List.getElem?_append_left hl]; exact hj
  have G2 : ∀ j p, R[j]? = some p → A.length < j → (A ++ B)[j - 1]? = some p := fun j p hj hl => by
    rw [hR, List.getElem?_append_right (by omega), show j - A.length = (j - 1 - A.length) + 1 by omega, List.getElem?_cons_succ] at hj
    rw [List.getElem?_append_right (by omega)]; exact hj
  have FIN0 : ∀ la lc w', w'.ownsRow w.heap.size 62 2 (.slice la (A ++ B).length lc) (A ++ B).length (pairCells (A ++ B)) → More w w' →
      DidRef w F r (cutD R k) (.bool true) (.returned (.bool true)) (w'.setCell ⟨r, 0, none⟩ (.slice la (A ++ B).length lc)) := by
    intro la lc w' hown ht
    have hl' := own_lt hown
    have hge := own_ge hown
    have hown0 := own_zero hown
    have hr2 : w'.heap[r]? = _ := (Turned.block ht r (lt_of_heap hr) (fun q => q)).trans hr
    have hr3 := heap_setCell (o := 0) (.slice la (A ++ B).length lc) hr2
    have hh : (w'.setCell ⟨r, 0, none⟩ (.slice la (A ++ B).length lc)).heap.size = w'.heap.size := by simp
    have ho : Once (cutD R k) := by have := h.once; unfold Once at *; exact this.filter _
    rw [hR'] at *
    refine ⟨rfl, fun x => (F x ∨ w.heap.size ≤ x) ∧ x < w'.heap.size, ⟨ho, by omega, fun x hx => by rw [hh]; exact hx.2, la, lc, ?_, ?_, ⟨.inl fr, by have := ht.size; omega⟩, ?_⟩, ?_, fun x hx => hx.1⟩
    · rw [hr3]; simp
    · exact own_keep hown0 (turned_setCell (S := fun x => x = r) (Turned.refl _ w') (fun _ => rfl) _) (fun x hx q => by have := hge x hx; omega)
    · intro x hx
      have := hge x hx
      exact ⟨⟨.inr this, hl' x hx⟩, by omega⟩
    · exact turned_setCell (Turned.mono ht fun x _ q => q.elim) (fun _ => fr) _
  have FIN := Lib.hid FIN0
  have HHR := Lib.hid hr
  have HC := Lib.hid hc
  have K1 := Lib.hid G1
  have K2 := Lib.hid G2
  have KL := Lib.hid hAB
  obtain ⟨n, hn⟩ : ∃ n, n = R.length := ⟨_, rfl⟩
  rw [← hn] at c0 hs hi
  have HN := Lib.hid hn
  have C0 := Lib.hid c0
  clear FIN0 hc hf ha hr hrow fr fk h e G1 G2 hR hR' hAB hn
  generalize hE : A ++ B = E at *
  clear hE
  generalize A.length = m at *
  have d : decide ((m : Int) < 0) = false := by simp
  go_enter Try.func14, Try.ntmps14
  go_wp2_with fail
  refine C.out.mono ?_
  rintro e w ⟨rfl, rfl⟩
  go_wp2_with fail
  go_loopw [6, 7] (fun l i wr => ∃ j la lc, j ≤ n ∧ i = .int .i64 (j : Nat) ∧ l = .slice la (E.take (if j ≤ m then j else j - 1)).length lc ∧ wr.ownsRow w.heap.size 62 2 (.slice la (E.take (if j ≤ m then j else j - 1)).length lc) (E.take (if j ≤ m then j else j - 1)).length (pairCells (E.take (if j ≤ m then j else j - 1))) ∧ More w wr) (fun l i _ => n - (intOf i).toNat)
  case atStart => exact ⟨0, none, 0, Nat.zero_le _, rfl, by simp, by simp [pairCells]; exact World.ownsRow_nil w _ _ _, More.refl w⟩
  case round =>
    obtain ⟨j, la, lc, hj, rfl, rfl, hown, hM⟩ := hrel
    have x0 := hM.cell C0.out
    have HO := Lib.hid hown
    have HM := Lib.hid hM
    clear hown hM
    by_cases hlt : j < n
    · have hl : j < R.length := by rw [← HN.out]; exact hlt
      have hc := HC.out j _ (List.getElem?_eq_getElem hl)
      have x1 := HM.out.cell hc.1
      have x2 := HM.out.cell hc.2
      clear hc
      by_cases hm : j = m
      · subst hm
        clear x1 x2
        generalize hL : E.take (if j ≤ j then j else j - 1) = L at *
        have HL := Lib.hid hL
        clear hL
        go_wp2_with fail
        go_roundw
        case rel =>
          have q : E.take (if j + 1 ≤ j then j + 1 else j + 1 - 1) = L := by rw [← HL.out, if_neg (by omega), if_pos (Nat.le_refl _)]; rfl
          exact ⟨j + 1, la, lc, by omega, by go_num, by rw [q], by rw [q]; exact HO.out, HM.out⟩
        case measure => simp [intOf]; omega
      · have d2 : ((j : Int) != (m : Int)) = true := by simp; omega
        have NX0 : E.take (if j + 1 ≤ m then j + 1 else j + 1 - 1) = E.take (if j ≤ m then j else j - 1) ++ [R[j]] := by
          by_cases hjm : j < m
          · have := K1.out j _ (List.getElem?_eq_getElem hl) hjm
            rw [if_pos (by omega), if_pos (by omega), List.take_add_one, this]; rfl
          · have := K2.out j _ (List.getElem?_eq_getElem hl) (by omega)
            rw [if_neg (by omega), if_neg (by omega), show j + 1 - 1 = (j - 1) + 1 by omega, List.take_add_one, this]; rfl
        have NX := Lib.hid NX0
        have hLl : (E.take (if j ≤ m then j else j - 1)).length ≤ 100000 := by have := KL.out; have := HN.out; rw [List.length_take]; omega
        clear NX0 hm
        generalize E.take (if j ≤ m then j else j - 1) = L at *
        generalize hy : R[j] = y at *
        clear hy hl
        have NEXT0 : ∀ w2, Turned (owned la) wr w2 → More w w2 := fun w2 ht =>
          ⟨ht.os.trans HM.out.os, ht.tape.trans HM.out.tape, ht.output.trans HM.out.output, Nat.le_trans HM.out.size ht.size, fun x hx _ => by
            rw [Turned.block ht x (Nat.lt_of_lt_of_le hx HM.out.size) (fun q => by have := own_ge HO.out x q; omega)]
            exact Turned.block HM.out x hx (fun q => q)⟩
        have NEXT := Lib.hid NEXT0
        clear NEXT0
        go_wp2_with (at_builtin; go_must (refine wpList_pair y rfl _ _ rfl rfl HO.out HM.out.size hLl rfl ?_; intro la' lc' w2 hown ht hfr; have HM2 := Lib.hid (NEXT.out w2 ht); have HO2 := Lib.hid hown; clear hown ht hfr))
        go_roundw
        case rel =>
          refine ⟨j + 1, la', lc', by omega, by go_num, ?_, ?_, HM2.out⟩
          · rw [NX.out]; simp
          · rw [NX.out]
            have := HO2.out
            simpa using this
        case measure => simp [intOf]; omega
    · obtain rfl : j = n := by omega
      have q : E.take (if j ≤ m then j else j - 1) = E := by
        have := KL.out; have := HN.out
        rw [if_neg (by omega), List.take_of_length_le (by omega)]
      have HO2 : Hid (wr.ownsRow w.heap.size 62 2 (.slice la E.length lc) E.length (pairCells E)) := Lib.hid (by have := HO.out; rwa [q] at this)
      rw [q]
      clear q HO
      have fz : ∀ i, wr.frozen? ⟨r, i, none⟩ = false := (cell_one (show wr.heap[r]? = _ from (Turned.block HM.out r (lt_of_heap HHR.out) (fun q => q)).trans HHR.out)).2.1
      go_wp2_with fail
      go_ret
      exact FIN.out _ _ _ HO2.out HM.out
end Go.Proofs.Ytcaddbgoeoclnaa
