/-
  The document's own purse: Push.
-/
import Derived.Test.YtmafllcmkhgidaaPurRef
namespace Go.Proofs.Ytmafllcmkhgidaa
open Go.RowKit Go.Shelf
set_option linter.unusedVariables false
set_option linter.unusedSimpArgs false

def pushBR (its : List It) (c l : Int) : Bool := clsB c && decide (((listR its c).length : Int) < l)
def pushR (its : List It) (c a l : Int) : List It := if pushBR its c l then its ++ [(c, a)] else its
def GaveIt (w : World) (its : List It) (val : Value → Value) (e : Ending) (w' : World) : Prop := ∃ v, e = .returned (val (.agg #[v])) ∧ IR 0 w' v its ∧ More w w'
theorem ir_zero (w : World) : IR w.heap.size (w.alloc (.cells #[] 55)) (.slice (some ⟨w.heap.size, 0, none⟩) 0 0) [] :=
  ⟨rfl, .inr ⟨_, 0, _, rfl, Nat.le_refl _, heap_new w _, Nat.le_refl _, by simp [maxLen], rfl, rfl⟩⟩
theorem isrc_of {base : Nat} {w : World} {v : Value} {its : List It} (h : IR base w v its) : ISrc w v its := by
  rcases h.2 with ⟨rfl, h0⟩ | ⟨g, cap, cur, rfl, hb, hg, hn, _, hs, ht⟩
  · exact .inl ⟨rfl, List.length_eq_zero_iff.1 h0⟩
  · refine .inr ⟨_, cap, rfl, fun j x hj => ?_⟩
    obtain ⟨a, c, e, _, _, hr⟩ := h.reads
    cases e
    rw [addr_add]
    simpa using (hr _ rfl).2 j x hj
theorem isrc_one (w : World) (c a : Int) : ISrc (w.alloc (.cells #[.int .i64 c, .int .i64 a] 55)) (.slice (some ⟨w.heap.size, 0, none⟩) 1 1) [(c, a)] :=
  .inr ⟨_, 1, rfl, fun j x hj => World.news_of_block (heap_new w _) j x (by simpa [itCells] using hj)⟩
theorem IR.own {base : Nat} {w : World} {v : Value} {its : List It} (h : IR base w v its) : ∀ k, v.ownBlock = some k → base ≤ k := by
  intro k q
  rcases h.2 with ⟨rfl, _⟩ | ⟨g, cap, cur, rfl, hb, _⟩
  · cases q
  · cases q; exact hb
/-- What was turned is the call's own. -/
theorem more_own {wa w w' : World} {v : Value} (m : More wa w) (t : Turned (fun k => v.ownBlock = some k) w w') (h : ∀ k, v.ownBlock = some k → wa.heap.size ≤ k) : More wa w' := turned_own13 m t h

set_option maxHeartbeats 1000000 in
theorem r_push_no (v : Value) (its : List It) (c a l : Int) (w : World) (h : IR 0 w v its) (hl : its.length ≤ 1000000) (hb : pushBR its c l = false) :
    Calls Try.prog 9 #[.agg #[v], .int .i64 c, .int .i64 a, .int .i64 l] w (GaveIt w its (fun v => .tuple #[v, .bool false])) := by
  obtain ⟨w2, e2, hl1, hl2, m2, s2⟩ := en2 w (.cells #[v] 30) (.cells #[.slice none 0 0] 30)
  have L1 := Lib.hid hl1
  have L2 := Lib.hid hl2
  have M2 := Lib.hid m2
  have HP := Lib.hid (h.more m2)
  have HC := Lib.hid (fun W => r_class c W)
  have HL := Lib.hid (fun W (hW : More w2 W) => r_List v its c W (HP.out.more hW) hl)
  have H1 : Hid ((#[v] : Array Value).all (·.oneCell') = true) := Lib.hid (by simp [h.one])
  have FIN : Hid (∀ W, More w2 W → GaveIt w its (fun v => .tuple #[v, .bool false]) (.returned (.tuple #[.agg #[v], .bool false])) (W.setRow (w.heap.size + 1) #[v])) := Lib.hid fun W hW =>
    ⟨v, rfl, (HP.out.more hW).keep (S := fun k => k = w.heap.size + 1) (Turned.setRow (Turned.refl _ W) _ _ (fun _ => rfl)) (fun k q => by subst q; exact ⟨_, _, _, hW.block L2.out, by decide⟩), (M2.out.trans hW).setRow _ _ (by omega)⟩
  clear hl1 hl2 m2 h s2
  cases hc : clsB c with
  | false =>
    rw [hc] at HC
    clear hc hb HL
    go_enter Try.func9, Try.ntmps9
    go_wp2_with fail
    refine (HC.out w2).mono ?_
    rintro e w4 ⟨rfl, h4⟩
    have M4 := Lib.hid h4
    clear h4
    go_wp2_with (first | (refine wpList_load_row rfl 30 _ rfl _ rfl 30 _ _ _ (M4.out.block L1.out) Try.underlying30 rfl (by kernel_rfl) ?_) | (refine wpList_store_row rfl 30 _ _ rfl _ _ rfl rfl 30 _ (M4.out.block L2.out) (by kernel_rfl) rfl H1.out ?_))
    refine bodyPost_ret (v := .tuple #[.agg #[v], .bool false]) (pu_row2 Try.results9 _ _ _ 30 _ (0, 0) _ rfl (setRow_heap _ _ _ _ _ _ (M4.out.block L2.out)) Try.underlying30 rfl (by kernel_rfl)) rfl (FIN.out _ M4.out)
  | true =>
    rw [hc] at HC
    obtain ⟨n, hn⟩ : ∃ n, (listR its c).length = n := ⟨_, rfl⟩
    have hb2 : decide (l ≤ (n : Int)) = true := by simp [pushBR, hc, hn] at hb; simpa using hb
    have HN := Lib.hid hn
    clear hc hb hn
    go_enter Try.func9, Try.ntmps9
    go_wp2_with fail
    refine (HC.out w2).mono ?_
    rintro e w3 ⟨rfl, h3⟩
    have M3 := Lib.hid h3
    clear h3
    go_wp2_with (first | (refine wpList_load_row rfl 30 _ rfl w.heap.size rfl 30 _ _ _ (M3.out.block L1.out) Try.underlying30 rfl (by kernel_rfl) ?_) | (refine wpList_load_rowG rfl 30 _ rfl w.heap.size rfl 30 _ _ _ (M3.out.block L1.out) Try.underlying30 rfl (by kernel_rfl) ?_))
    refine (HL.out w3 M3.out).mono ?_
    rintro e w4 ⟨v4, rfl, h4, m4⟩
    obtain ⟨a4, c4, rfl, _⟩ := h4.reads
    rw [HN.out]
    have M4 := Lib.hid (M3.out.trans m4)
    clear h4 m4
    go_wp2_with (first | (refine wpList_load_row rfl 30 _ rfl _ rfl 30 _ _ _ (M4.out.block L1.out) Try.underlying30 rfl (by kernel_rfl) ?_) | (refine wpList_store_row rfl 30 _ _ rfl _ _ rfl rfl 30 _ (M4.out.block L2.out) (by kernel_rfl) rfl H1.out ?_))
    refine bodyPost_ret (v := .tuple #[.agg #[v], .bool false]) (pu_row2 Try.results9 _ _ _ 30 _ (0, 0) _ rfl (setRow_heap _ _ _ _ _ _ (M4.out.block L2.out)) Try.underlying30 rfl (by kernel_rfl)) rfl (FIN.out _ M4.out)

set_option maxHeartbeats 1000000 in
theorem r_push_yes (v : Value) (its : List It) (c a l : Int) (w : World) (h : IR 0 w v its) (hl : its.length ≤ 100000) (hc : clsB c = true) (hb : ((listR its c).length : Int) < l) :
    Calls Try.prog 9 #[.agg #[v], .int .i64 c, .int .i64 a, .int .i64 l] w (GaveIt w (its ++ [(c, a)]) (fun v => .tuple #[v, .bool true])) := by
  obtain ⟨w2, e2, hl1, hl2, m2, s2⟩ := en2 w (.cells #[v] 30) (.cells #[.slice none 0 0] 30)
  have L1 := Lib.hid hl1
  have L2 := Lib.hid hl2
  have M2 := Lib.hid m2
  have HP := Lib.hid (h.more m2)
  have HC := Lib.hid (fun W => r_class c W)
  rw [hc] at HC
  have HL := Lib.hid (fun W (hW : More w2 W) => r_List v its c W (HP.out.more hW) (by omega))
  obtain ⟨n, hn⟩ : ∃ n, (listR its c).length = n := ⟨_, rfl⟩
  have hb2 : decide (l ≤ (n : Int)) = false := by rw [hn] at hb; simp; omega
  have HN := Lib.hid hn
  have LL := Lib.hid hl
  obtain ⟨av, cv, rfl, _, _⟩ := h.reads
  have c0 : w2.cell? ⟨w.heap.size, 0, none⟩ = some (.slice av its.length cv) := by simp [World.cell?, hl1]
  have C0 := Lib.hid c0
  clear hl1 hl2 m2 h s2 hn hb hc hl c0
  go_enter Try.func9, Try.ntmps9
  go_wp2_with fail
  refine (HC.out w2).mono ?_
  rintro e w3 ⟨rfl, h3⟩
  have M3 := Lib.hid h3
  clear h3
  go_wp2_with (first | (refine wpList_load_row rfl 30 _ rfl w.heap.size rfl 30 _ _ _ (M3.out.block L1.out) Try.underlying30 rfl (by kernel_rfl) ?_) | (refine wpList_load_rowG rfl 30 _ rfl w.heap.size rfl 30 _ _ _ (M3.out.block L1.out) Try.underlying30 rfl (by kernel_rfl) ?_))
  refine (HL.out w3 M3.out).mono ?_
  rintro e w4 ⟨v4, rfl, h4, m4⟩
  obtain ⟨a4, c4, rfl, _⟩ := h4.reads
  rw [HN.out]
  have M4 := Lib.hid (M3.out.trans m4)
  have x0 := (M4.out.alloc (.cells #[] 55)).cell C0.out
  have Z4 := Lib.hid (ir_zero w4)
  have S4 := Lib.hid (isrc_of (HP.out.more (M4.out.alloc (.cells #[] 55))))
  clear h4 m4
  have F8 : Hid (∀ w6 v6, More w2 w6 → IR w4.heap.size w6 v6 (its ++ [(c, a)]) → GaveIt w (its ++ [(c, a)]) (fun v => .tuple #[v, .bool true]) (.returned (.tuple #[.agg #[v6], .bool true])) (w6.setRow (w.heap.size + 1) #[v6])) := Lib.hid fun w6 v6 m r =>
    ⟨v6, rfl, (r.low (Nat.zero_le _)).keep (S := fun k => k = w.heap.size + 1) (Turned.setRow (Turned.refl _ w6) _ _ (fun _ => rfl)) (fun k q => by subst q; exact ⟨_, _, _, m.block L2.out, by decide⟩), (M2.out.trans m).setRow _ _ (by omega)⟩
  go_wp2_with (first
    | (at_builtin
       refine wpList_plain rfl fun K hK => wp_items _ _ rfl rfl Z4.out (by simp) rfl S4.out (by have := LL.out; simp; omega) ?_
       intro v5 w5 r5 t5 k5
       refine hK _ _ ?_
       have M5 : Hid (More w2 w5) := Lib.hid (turned_own13 (M4.out.alloc _) t5 (fun k q => by cases q; exact M4.out.size))
       have R5 : Hid (IR w4.heap.size w5 v5 its) := Lib.hid (by simpa using r5)
       have G5 : Hid (w4.heap.size ≤ w5.heap.size) := Lib.hid (by have := t5.size; simp at this; omega)
       clear r5 t5 k5 x0 hK K S4 Z4)
    | (at_builtin
       refine wpList_plain rfl fun K hK => wp_items _ _ rfl rfl (R5.out.more ((More.refl _).alloc _)) (by have := G5.out; simp; omega) rfl (isrc_one _ _ _) (by have := LL.out; simp; omega) ?_
       intro v6 w6 r6 t6 k6
       refine hK _ _ ?_
       obtain ⟨a6, c6, hv6, _⟩ := r6.reads
       rw [show (its ++ [(c, a)]).length = its.length + 1 by simp] at hv6
       subst hv6
       have M6 : Hid (More w2 w6) := Lib.hid (turned_own13 (M5.out.alloc _) t6 (fun k q => by have := R5.out.own k q; have := M4.out.size; omega))
       have O6 : Hid ((#[.slice a6 (its.length + 1) c6] : Array Value).all (·.oneCell') = true) := Lib.hid (by simp [Value.oneCell'])
       have F6 := Lib.hid (F8.out w6 _ M6.out r6)
       clear r6 t6 k6 hK K)
    | (refine wpList_store_row rfl 30 _ _ rfl _ _ rfl rfl 30 _ (M6.out.block L2.out) (by kernel_rfl) rfl O6.out ?_))
  refine bodyPost_ret (v := .tuple #[.agg #[.slice a6 (its.length + 1) c6], .bool true]) (pu_row2 Try.results9 _ _ _ 30 _ (0, 0) _ rfl (setRow_heap _ _ _ _ _ _ (M6.out.block L2.out)) Try.underlying30 rfl (by kernel_rfl)) rfl F6.out
theorem r_Push (v : Value) (its : List It) (c a l : Int) (w : World) (h : IR 0 w v its) (hl : its.length ≤ 100000) :
    Calls Try.prog 9 #[.agg #[v], .int .i64 c, .int .i64 a, .int .i64 l] w (GaveIt w (pushR its c a l) (fun v => .tuple #[v, .bool (pushBR its c l)])) := by
  cases hb : pushBR its c l with
  | false =>
    have := r_push_no v its c a l w h (by omega) hb
    simpa [pushR, hb] using this
  | true =>
    have hb' := hb
    simp [pushBR] at hb'
    have := r_push_yes v its c a l w h hl hb'.1 hb'.2
    simpa [pushR, hb] using this
end Go.Proofs.Ytmafllcmkhgidaa
