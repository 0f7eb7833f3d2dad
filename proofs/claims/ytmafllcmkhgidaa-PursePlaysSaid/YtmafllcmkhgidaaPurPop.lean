/-
  The document's own purse: Pop.
-/
import Derived.Test.YtmafllcmkhgidaaPurRefP
import Derived.IntWalk
namespace Go.Proofs.Ytmafllcmkhgidaa
open Go.RowKit Go.Shelf
set_option linter.unusedVariables false
set_option linter.unusedSimpArgs false

section
variable {ops : Array Oper} {C : World → Prop} {o' : Oper} {a : Act}
theorem yieldsC_sliceLo {x y : Operand} {g n cap m : Nat} (hw : Region.wanted o' (yielded ops a.tmps) = true) (ho : o'.op = .slice 28 x none (some y) none) (hx : a.eval x = .slice (some ⟨g, 0, none⟩) n cap) (hy : a.eval y = .int .i64 (m : Int)) (hm : m ≤ cap) : YieldsC Try.prog ops C o' (.slice (some ⟨g, 0, none⟩) m cap) a := by
  have d1 : decide (m ≤ cap) = true := by simp [hm]
  refine .inl ⟨hw, fun W hW => ?_⟩
  unfold execOp
  generalize a.eval = ρ at hx hy ⊢
  simp only [ho, hx, hy]
  go_simp
theorem yieldsC_buildP {x : Operand} {v : Option Addr} {n c : Nat} (hw : Region.wanted o' (yielded ops a.tmps) = true) (ho : o'.op = .build 30 #[(0, x)]) (hx : a.eval x = .slice v n c) : YieldsC Try.prog ops C o' (.agg #[.slice v n c]) a := by
  refine .inl ⟨hw, fun W hW => ?_⟩
  unfold execOp
  generalize a.eval = ρ at hx ⊢
  simp only [ho]
  go_simp
/-- Where the items behind number m begin. -/
def hiA (g m cap : Nat) : Addr := if cap = m + 1 then ⟨g, 0, none⟩ else ⟨g, (m + 1) * 2, none⟩
theorem yieldsC_sliceHi {x y : Operand} {g n cap m : Nat} (hw : Region.wanted o' (yielded ops a.tmps) = true) (ho : o'.op = .slice 28 x (some y) none none) (hx : a.eval x = .slice (some ⟨g, 0, none⟩) n cap) (hy : a.eval y = .int .i64 ((m : Int) + 1)) (hm : m < n) (hn : n ≤ cap) : YieldsC Try.prog ops C o' (.slice (some (hiA g m cap)) (n - (m + 1)) (cap - (m + 1))) a := by
  refine .inl ⟨hw, fun W hW => ?_⟩
  unfold execOp
  generalize a.eval = ρ at hx hy ⊢
  simp only [ho, hx, hy]
  go_simp
  rw [if_pos ⟨by omega, by omega⟩]
  unfold hiA
  split <;> rfl
theorem yieldsC_item {x y : Operand} {g n cap m : Nat} (hw : Region.wanted o' (yielded ops a.tmps) = true) (ho : o'.op = .indexAddr 28 x y) (hx : a.eval x = .slice (some ⟨g, 0, none⟩) n cap) (hy : a.eval y = .int .i64 (m : Int)) (hm : m < n) : YieldsC Try.prog ops C o' (.pointer (some ⟨g, m * 2, none⟩)) a := by
  have d1 : decide (m < n) = true := by simp [hm]
  refine .inl ⟨hw, fun W hW => ?_⟩
  unfold execOp
  generalize a.eval = ρ at hx hy ⊢
  simp only [ho, hx, hy]
  go_simp
end
theorem wp_build0 {o : Oper} {a : Act} {w : World} {K : Act → World → Prop} {Q : Exit → Act → World → Prop} (ho : o.op = .buildSlice 28 0 #[]) (h : K (a.put o.dst (.slice (some ⟨w.heap.size, 0, none⟩) 0 0)) (w.alloc (.cells #[] 55))) : Oper.wp Try.prog o a w K Q := by
  unfold Oper.wp Oper.upon execOp
  simp only [ho]
  generalize a.eval = ρ
  go_simp
  exact h
theorem isrc_take {W : World} {g cv j : Nat} {its : List It} (hc : ∀ i x, (itCells its)[i]? = some x → W.cell? ⟨g, i, none⟩ = some x) (hj : j ≤ its.length) : ISrc W (.slice (some ⟨g, 0, none⟩) j cv) (its.take j) := by
  have hl : (its.take j).length = j := by simp; omega
  refine .inr ⟨⟨g, 0, none⟩, cv, by rw [hl], fun i x hi => ?_⟩
  rw [addr_add, Nat.zero_add]
  refine hc i x ?_
  rw [itCells_take, List.getElem?_take] at hi
  split at hi
  · exact hi
  · cases hi
theorem isrc_drop {W : World} {g cv m c : Nat} {its : List It} (hc : ∀ i x, (itCells its)[i]? = some x → W.cell? ⟨g, i, none⟩ = some x) (hm : m < its.length) (hn : its.length ≤ cv) : ISrc W (.slice (some (hiA g m cv)) (its.length - (m + 1)) c) (its.drop (m + 1)) := by
  have hl : (its.drop (m + 1)).length = its.length - (m + 1) := by simp
  refine .inr ⟨hiA g m cv, c, by rw [hl], fun i x hi => ?_⟩
  have hi' := (List.getElem?_eq_some_iff.1 hi).1
  rw [itCells_len, hl] at hi'
  have e : hiA g m cv = ⟨g, (m + 1) * 2, none⟩ := by unfold hiA; rw [if_neg (by omega)]
  rw [e, addr_add]
  refine hc _ x ?_
  rw [itCells_drop, List.getElem?_drop] at hi
  exact hi
theorem AG.skipP {m : Nat} {a : Act} {L : List (Nat × Value)} (h : AG m a L) (v : Value) : AG m (a.put none v) L := h
theorem turned_new {w w1 w2 : World} {S T : Nat → Prop} (m : Turned S w w1) (t : Turned T w1 w2) (hs : ∀ k, T k → w.heap.size ≤ k) : Turned S w w2 :=
  ⟨t.os.trans m.os, t.tape.trans m.tape, t.output.trans m.output, Nat.le_trans m.size t.size, fun k hk q => by
    rw [t.block k (Nat.lt_of_lt_of_le hk m.size) (fun z => by have := hs k z; omega)]; exact m.block k hk q⟩

set_option maxHeartbeats 1000000 in
theorem r_pop_no (v : Value) (its : List It) (c : Int) (w : World) (h : IR 0 w v its) (hl : its.length ≤ 100000) (hb : ∀ p ∈ its, p.1 ≠ c) :
    Calls Try.prog 7 #[.agg #[v], .int .i64 c] w (GaveIt w its (fun v => .tuple #[v, .int .i64 0, .bool false])) := by
  obtain ⟨w2, e2, hl1, hl2, m2, s2⟩ := en2 w (.cells #[v] 30) (.cells #[.slice none 0 0] 30)
  have L1 := Lib.hid hl1
  have L2 := Lib.hid hl2
  have M2 := Lib.hid m2
  have HP := Lib.hid (h.more m2)
  obtain ⟨av, cv, rfl, _, _, hr⟩ := (h.more m2).at
  have c0 : w2.cell? ⟨w.heap.size, 0, none⟩ = some (.slice av its.length cv) := by simp [World.cell?, hl1]
  have C0 := Lib.hid c0
  have H1 := Lib.hid hr
  have FIN : Hid (∀ W, More w2 W → GaveIt w its (fun v => .tuple #[v, .int .i64 0, .bool false]) (.returned (.tuple #[.agg #[.slice av its.length cv], .int .i64 0, .bool false])) (W.setRow (w.heap.size + 1) #[.slice av its.length cv])) := Lib.hid fun W hW =>
    ⟨_, rfl, (HP.out.more hW).keep (S := fun k => k = w.heap.size + 1) (Turned.setRow (Turned.refl _ W) _ _ (fun _ => rfl)) (fun k q => by subst q; exact ⟨_, _, _, hW.block L2.out, by decide⟩), (M2.out.trans hW).setRow _ _ (by omega)⟩
  have HL := Lib.hid hl
  have HB := Lib.hid hb
  obtain ⟨n, hn⟩ : ∃ n, its.length = n := ⟨_, rfl⟩
  have HN := Lib.hid hn
  rw [hn] at L1 FIN C0
  have q0 : IntKind.i64.wrap ((n : Int) - 1) = (n : Int) - 1 := IntWalk.i64_in _ (by omega)
  rw [hn] at e2
  simp only [hn]
  clear hl1 hl2 m2 h s2 hr hl hb hn c0 HP
  have c0 := C0.out
  go_enter Try.func7, Try.ntmps7
  go_wp2_with fail
  clear c0 e2
  go_loopw [7] (fun i wr => ∃ z : Int, i = .int .i64 z ∧ -1 ≤ z ∧ z < n ∧ More w2 wr) (fun i _ => (intOf i + 1).toNat)
  case atStart => exact ⟨(n : Int) - 1, rfl, by omega, by omega, More.refl _⟩
  case round =>
    obtain ⟨z, rfl, hz1, hz2, ht⟩ := hrel
    have x0 := ht.cell C0.out
    by_cases hz : 0 ≤ z
    · obtain ⟨j, rfl⟩ : ∃ j : Nat, z = j := ⟨z.toNat, by omega⟩
      obtain ⟨p, hp⟩ : ∃ p, its[j]? = some p := ⟨_, List.getElem?_eq_getElem (by have := HN.out; omega)⟩
      obtain ⟨g, rfl, hc1, hc2⟩ := H1.out j p hp
      have x1 := ht.cell hc1
      have hne := HB.out p (List.mem_of_getElem? hp)
      obtain ⟨p1, p2⟩ := p
      simp only at x1 hne
      have d0 : (p1 == c) = false := by simp [hne]
      have d1 : decide (p1 = c) = false := by simp [hne]
      have hlt : j < n := by omega
      have hd : decide (0 ≤ (j : Int)) = true := by simp
      have q1 : IntKind.i64.wrap ((j : Int) - 1) = (j : Int) - 1 := IntWalk.i64_in _ (by have := HL.out; have := HN.out; omega)
      have HT := Lib.hid ht
      clear hp hc1 hc2 ht hne hz hz1 hz2 q0
      go_wp2_with fail
      go_roundw
      case rel => exact ⟨(j : Int) - 1, rfl, by omega, by omega, HT.out⟩
      case measure => first | (simp [intOf]; done) | (simp [intOf]; omega)
    · obtain rfl : z = -1 := by omega
      have M4 := Lib.hid ht
      clear ht x0 q0 hz hz1 hz2
      go_wp2_with (first | (refine wpList_load_row rfl 30 _ rfl _ rfl 30 _ _ _ (M4.out.block L1.out) Try.underlying30 rfl (by kernel_rfl) ?_) | (refine wpList_store_row rfl 30 _ _ rfl _ _ rfl rfl 30 _ (M4.out.block L2.out) (by kernel_rfl) rfl (by simp [Value.oneCell']) ?_))
      refine bodyPost_ret (v := .tuple #[.agg #[.slice av n cv], .int .i64 0, .bool false]) (pu_row3 Try.results7 _ _ _ 30 _ (0, 0) _ rfl (setRow_heap _ _ _ _ _ _ (M4.out.block L2.out)) Try.underlying30 rfl (by kernel_rfl)) rfl (FIN.out _ M4.out)

set_option maxHeartbeats 2000000 in
theorem r_pop_yes (v : Value) (A B : List It) (c x : Int) (w : World) (h : IR 0 w v (A ++ (c, x) :: B)) (hl : (A ++ (c, x) :: B).length ≤ 100000) (hb : ∀ p ∈ B, p.1 ≠ c) :
    Calls Try.prog 7 #[.agg #[v], .int .i64 c] w (GaveIt w (A ++ B) (fun v => .tuple #[v, .int .i64 x, .bool true])) := by
  obtain ⟨w2, e2, hl1, hl2, m2, s2⟩ := en2 w (.cells #[v] 30) (.cells #[.slice none 0 0] 30)
  have L2 := Lib.hid hl2
  have M2 := Lib.hid m2
  have HP := Lib.hid (h.more m2)
  have SRC := isrc_of (h.more m2)
  obtain ⟨av, cv, rfl, hnc, _, hr⟩ := (h.more m2).at
  have c0 : w2.cell? ⟨w.heap.size, 0, none⟩ = some (.slice av (A ++ (c, x) :: B).length cv) := by simp [World.cell?, hl1]
  obtain ⟨its, hits⟩ : ∃ its, A ++ (c, x) :: B = its := ⟨_, rfl⟩
  obtain ⟨its', hits'⟩ : ∃ its', A ++ B = its' := ⟨_, rfl⟩
  obtain ⟨m, hm⟩ : ∃ m, A.length = m := ⟨_, rfl⟩
  have hAm : its[m]? = some (c, x) := by rw [← hits, ← hm]; simp
  have hE : its.take m ++ its.drop (m + 1) = its' := by
    rw [← hits, ← hits', ← hm, List.take_left' rfl]
    congr 1
    rw [List.drop_append, List.drop_eq_nil_of_le (by omega)]
    simp
  have hB : ∀ j p, m < j → its[j]? = some p → p.1 ≠ c := fun j p hj hp => by
    refine hb p ?_
    rw [← hits, List.getElem?_append_right (by omega)] at hp
    obtain ⟨i, hi⟩ : ∃ i, j - A.length = i + 1 := ⟨j - A.length - 1, by omega⟩
    rw [hi, List.getElem?_cons_succ] at hp
    exact List.mem_of_getElem? hp
  rw [hits] at hr c0 hl HP SRC hnc h e2
  rw [hits', hits]
  have hmn : m < its.length := (List.getElem?_eq_some_iff.1 hAm).1
  obtain ⟨g, rfl, cc1, cc2⟩ := hr m _ hAm
  simp only at cc1 cc2
  have C0 := Lib.hid c0
  have C1 := Lib.hid cc1
  have C2 := Lib.hid cc2
  have H1 := Lib.hid hr
  have HB := Lib.hid hB
  have HL := Lib.hid hl
  have EI := Lib.hid hE
  have LL := Lib.hid hl
  have hcv : g < w.heap.size := by
    rcases h.2 with ⟨q, _⟩ | ⟨_, _, _, q, _, z, _⟩
    · cases q
    · cases q; exact lt_of_heap z
  have CA : Hid (∀ i x, (itCells its)[i]? = some x → w2.cell? ⟨g, i, none⟩ = some x) := Lib.hid fun i x hi => by
    rcases SRC with ⟨q, _⟩ | ⟨p, cp, q, z⟩
    · cases q
    · cases q
      have := z i x hi
      rwa [addr_add, Nat.zero_add] at this
  obtain ⟨n, hn⟩ : ∃ n, its.length = n := ⟨_, rfl⟩
  have HN := Lib.hid hn
  rw [hn] at C0 c0 hmn hnc e2
  rw [hn]
  have hmc : m ≤ cv := by omega
  have q0 : IntKind.i64.wrap ((n : Int) - 1) = (n : Int) - 1 := IntWalk.i64_in _ (by omega)
  have FN : Hid (∀ v9 wa, IR 0 wa v9 its' → Turned (fun b => b = w.heap.size + 1) w2 wa → GaveIt w its' (fun v => .tuple #[v, .int .i64 x, .bool true]) (.returned (.tuple #[.agg #[v9], .int .i64 x, .bool true])) wa) := Lib.hid fun v9 wa ir t => ⟨v9, rfl, ir, turned_own13 M2.out t (fun k q => by omega)⟩
  have S2 := Lib.hid s2
  clear hl1 hl2 m2 h s2 hr hl hb hn HP hits hits' hm hAm hE hB cc1 cc2 SRC
  have HG := Lib.hid hcv
  clear hcv
  have QW : Hid (IntKind.i64.wrap ((m : Int) + 1) = (m : Int) + 1) := Lib.hid (IntWalk.i64_in _ (by have := HL.out; have := HN.out; omega))
  go_enter Try.func7, Try.ntmps7
  go_wp2_with fail
  clear c0 e2
  go_loopw [7] (fun i wr => ∃ z : Int, i = .int .i64 z ∧ (m : Int) ≤ z ∧ z < n ∧ More w2 wr) (fun i _ => (intOf i + 1).toNat)
  case atStart => exact ⟨(n : Int) - 1, rfl, by omega, by omega, More.refl _⟩
  case round =>
    obtain ⟨z, rfl, hz1, hz2, ht⟩ := hrel
    have x0 := ht.cell C0.out
    obtain ⟨j, rfl⟩ : ∃ j : Nat, z = j := ⟨z.toNat, by omega⟩
    have hlt : j < n := by omega
    have hd : decide (0 ≤ (j : Int)) = true := by simp
    by_cases hz : m < j
    · obtain ⟨p, hp⟩ : ∃ p, its[j]? = some p := ⟨_, List.getElem?_eq_getElem (by have := HN.out; omega)⟩
      obtain ⟨g', eg, hc1, hc2⟩ := H1.out j p hp
      cases eg
      have x1 := ht.cell hc1
      have hne := HB.out j p hz hp
      obtain ⟨p1, p2⟩ := p
      simp only at x1 hne
      have d0 : (p1 == c) = false := by simp [hne]
      have d1 : decide (p1 = c) = false := by simp [hne]
      have q1 : IntKind.i64.wrap ((j : Int) - 1) = (j : Int) - 1 := IntWalk.i64_in _ (by have := HL.out; have := HN.out; omega)
      have HT := Lib.hid ht
      have HZ := Lib.hid hz
      clear hp hc1 hc2 ht hne hz hz1 hz2 q0 hmn hnc hmc
      go_wp2_with fail
      go_roundw
      case rel => exact ⟨(j : Int) - 1, rfl, by have := HZ.out; omega, by omega, HT.out⟩
      case measure => first | (simp [intOf]; done) | (simp [intOf]; omega)
    · obtain rfl : m = j := by omega
      have x1 := ht.cell C1.out
      have HT := Lib.hid ht
      have KB : Hid (∀ W, Turned (fun b => b = w.heap.size + 1) wr W → W.cell? ⟨w.heap.size, 0, none⟩ = some (.slice (some ⟨g, 0, none⟩) n cv)) := Lib.hid fun W hW => by
        rw [World.cell?_of_block (w := wr) (Turned.block hW w.heap.size (by have := HT.out.size; have := S2.out; omega) (by omega))]
        exact HT.out.cell C0.out
      have KW : Hid (∀ W, Turned (fun b => b = w.heap.size + 1) wr W → ∀ i x, w2.cell? ⟨g, i, none⟩ = some x → W.cell? ⟨g, i, none⟩ = some x) := Lib.hid fun W hW i x hi => by
        rw [World.cell?_of_block (w := wr) (Turned.block hW g (by have := HT.out.size; have := S2.out; have := HG.out; omega) (by have := HG.out; omega))]
        exact HT.out.cell hi
      have KX : Hid (∀ W, Turned (fun b => b = w.heap.size + 1) wr W → W.cell? ⟨g, m * 2 + 1, none⟩ = some (.int .i64 x)) := Lib.hid fun W hW => KW.out W hW _ _ C2.out
      have SL : Hid (∀ W, Turned (fun b => b = w.heap.size + 1) wr W → ISrc W (.slice (some ⟨g, 0, none⟩) m cv) (its.take m)) := Lib.hid fun W hW => isrc_take (fun i x hi => KW.out W hW _ _ (CA.out i x hi)) (by have := HN.out; omega)
      have SH : Hid (∀ W, Turned (fun b => b = w.heap.size + 1) wr W → ISrc W (.slice (some (hiA g m cv)) (n - (m + 1)) (cv - (m + 1))) (its.drop (m + 1))) := Lib.hid fun W hW => by
        have := isrc_drop (c := cv - (m + 1)) (fun i x hi => KW.out W hW _ _ (CA.out i x hi)) (m := m) (cv := cv) (by have := HN.out; omega) (by have := HN.out; omega)
        rwa [HN.out] at this
      have BR := Lib.hid (HT.out.block L2.out)
      have FN : Hid (∀ v9 wa, IR 0 wa v9 its' → Turned (fun b => b = w.heap.size + 1) wr wa → GaveIt w its' (fun v => .tuple #[v, .int .i64 x, .bool true]) (.returned (.tuple #[.agg #[v9], .int .i64 x, .bool true])) wa) := Lib.hid fun v9 wa ir t => FN.out v9 wa ir ((Turned.mono HT.out (fun _ _ q => q.elim)).trans t)
      have dc : (c == c) = true := by simp
      clear ht hz hz1 hz2 q0 hlt
      go_wp2_with fail
      clear x0 x1 hd dc
      refine wp_region_anyC (fun W => Turned (fun b => b = w.heap.size + 1) wr W) (by kernel_rfl) ?_
      change anyC _ _ _ _ _ _ _ _ (wr.drewN 1)
      have MR : Hid (Turned (fun b => b = w.heap.size + 1) wr (wr.drewN 1)) := Lib.hid ((Turned.refl _ wr).drewN 1)
      have BQ : Hid ((wr.drewN 1).heap[w.heap.size + 1]? = some (.cells #[.slice none 0 0] 30 (0, 0))) := Lib.hid BR.out
      generalize wr.drewN 1 = wq at MR BQ ⊢
      generalize hA : Act.mk _ _ = A
      have HF : AG 44 A [(1, .int .i64 c), (2, .pointer (some ⟨w.heap.size, 0, none⟩)), (4, .pointer (some ⟨w.heap.size + 1, 0, none⟩)), (7, .int .i64 (m : Int))] := by
        rw [← hA]
        refine ⟨⟨Nat.le_of_ble_eq_true rfl, rfl⟩, ?_⟩
        intro z hz; simp only [List.mem_cons, List.not_mem_nil, or_false] at hz; rcases hz with rfl | rfl | rfl | rfl <;> rfl
      refine anyC_start (fun a W => a.eval (.tmp 4) = .pointer (some ⟨w.heap.size + 1, 0, none⟩) ∧ a.eval (.tmp 5) = .int .i64 x ∧ a.eval (.tmp 6) = .bool true ∧ a.defers = [] ∧ ∃ v, IR 0 W v its' ∧ W.heap[w.heap.size + 1]? = some (.cells #[v] 30 (0, 0)) ∧ Turned (fun b => b = w.heap.size + 1) wr W) (fun _ => False) [] (fun a W hd h => h.elim) (fun _ _ _ _ _ h => h) ?_ ?_
      · skip
        rintro a9 wa ⟨hp, hx, hs, hd, v9, ir, hg, MS⟩
        have FIN := Lib.hid (FN.out v9 wa ir MS)
        have HG := Lib.hid hg
        clear HF hA MR ir MS hg
        obtain ⟨ts, ds⟩ := a9
        simp only [Act.eval] at hs hx hp
        obtain rfl : ds = [] := hd
        go_wp2_with fail
        refine bodyPost_ret (v := .tuple #[.agg #[v9], .int .i64 x, .bool true]) ((pu_row3 Try.results7 _ _ _ 30 _ (0, 0) _ hp HG.out Try.underlying30 rfl (by kernel_rfl)).trans (by rw [hx, hs])) rfl FIN.out
      intro QQ FINE FIND FINQ
      clear hA
      refine anyC_takeD (i := 1) (v := .pointer (some ⟨w.heap.size, 0, none⟩)) (some 25) rfl rfl (by kernel_rfl) (by kernel_rfl) (by kernel_rfl) (fun c a w => FINQ c a _ _ w) MR.out (by exact (Or.inl ⟨(wanted_none rfl), fun W hW => by have h50 := (HF.getD 1 rfl); go_simp⟩)) ?_
      replace HF := HF.put 25 (.pointer (some ⟨w.heap.size, 0, none⟩)) (by decide) rfl
      generalize hB1_25 : Act.put _ _ _ = A at HF ⊢
      refine anyC_takeD (i := 2) (v := .slice (some ⟨g, 0, none⟩) n cv) (some 26) rfl rfl (by kernel_rfl) (by kernel_rfl) (by kernel_rfl) (fun c a w => FINQ c a _ _ w) MR.out (by exact yieldsC_cell (C := (fun W => Turned (fun b => b = w.heap.size + 1) wr W)) (wanted_none rfl) 28 _ rfl (w.heap.size) 0 (HF.get 0 rfl) (.slice (some ⟨g, 0, none⟩) n cv) _ Try.underlying28 rfl (fun W hW => KB.out W hW)) ?_
      replace HF := HF.put 26 (.slice (some ⟨g, 0, none⟩) n cv) (by decide) rfl
      generalize hB2_26 : Act.put _ _ _ = A at HF ⊢
      refine anyC_takeD (i := 3) (v := .int .i64 (m : Int)) (some 27) rfl rfl (by kernel_rfl) (by kernel_rfl) (by kernel_rfl) (fun c a w => FINQ c a _ _ w) MR.out (by exact yieldsC_moveG (wanted_none rfl) _ rfl (HF.get 5 rfl)) ?_
      replace HF := HF.put 27 (.int .i64 (m : Int)) (by decide) rfl
      generalize hB3_27 : Act.put _ _ _ = A at HF ⊢
      refine anyC_takeD (i := 4) (v := .slice (some ⟨g, 0, none⟩) m cv) (some 28) rfl rfl (by kernel_rfl) (by kernel_rfl) (by kernel_rfl) (fun c a w => FINQ c a _ _ w) MR.out (by exact yieldsC_sliceLo (wanted_none rfl) rfl (HF.get 1 rfl) (HF.get 0 rfl) hmc) ?_
      replace HF := HF.put 28 (.slice (some ⟨g, 0, none⟩) m cv) (by decide) rfl
      generalize hB4_28 : Act.put _ _ _ = A at HF ⊢
      refine anyC_takeD (i := 6) (v := .pointer (some ⟨w.heap.size, 0, none⟩)) (some 30) rfl rfl (by kernel_rfl) (by kernel_rfl) (by kernel_rfl) (fun c a w => FINQ c a _ _ w) MR.out (by exact (Or.inl ⟨(wanted_none rfl), fun W hW => by have h50 := (HF.getD 5 rfl); go_simp⟩)) ?_
      replace HF := HF.put 30 (.pointer (some ⟨w.heap.size, 0, none⟩)) (by decide) rfl
      generalize hB5_30 : Act.put _ _ _ = A at HF ⊢
      refine anyC_takeD (i := 7) (v := .slice (some ⟨g, 0, none⟩) n cv) (some 31) rfl rfl (by kernel_rfl) (by kernel_rfl) (by kernel_rfl) (fun c a w => FINQ c a _ _ w) MR.out (by exact yieldsC_cell (C := (fun W => Turned (fun b => b = w.heap.size + 1) wr W)) (wanted_none rfl) 28 _ rfl (w.heap.size) 0 (HF.get 0 rfl) (.slice (some ⟨g, 0, none⟩) n cv) _ Try.underlying28 rfl (fun W hW => KB.out W hW)) ?_
      replace HF := HF.put 31 (.slice (some ⟨g, 0, none⟩) n cv) (by decide) rfl
      generalize hB6_31 : Act.put _ _ _ = A at HF ⊢
      refine anyC_takeD (i := 8) (v := .int .i64 (m : Int)) (some 32) rfl rfl (by kernel_rfl) (by kernel_rfl) (by kernel_rfl) (fun c a w => FINQ c a _ _ w) MR.out (by exact yieldsC_moveG (wanted_none rfl) _ rfl (HF.get 9 rfl)) ?_
      replace HF := HF.put 32 (.int .i64 (m : Int)) (by decide) rfl
      generalize hB7_32 : Act.put _ _ _ = A at HF ⊢
      refine anyC_takeD (i := 9) (v := .int .i64 ((m : Int) + 1)) (some 33) rfl rfl (by kernel_rfl) (by kernel_rfl) (by kernel_rfl) (fun c a w => FINQ c a _ _ w) MR.out (by exact yieldsC_addI (wanted_none rfl) rfl (HF.get 0 rfl) rfl _ QW.out) ?_
      replace HF := HF.put 33 (.int .i64 ((m : Int) + 1)) (by decide) rfl
      generalize hB8_33 : Act.put _ _ _ = A at HF ⊢
      refine anyC_takeD (i := 10) (v := .slice (some (hiA g m cv)) (n - (m + 1)) (cv - (m + 1))) (some 34) rfl rfl (by kernel_rfl) (by kernel_rfl) (by kernel_rfl) (fun c a w => FINQ c a _ _ w) MR.out (by exact yieldsC_sliceHi (wanted_none rfl) rfl (HF.get 2 rfl) (HF.get 0 rfl) hmn hnc) ?_
      replace HF := HF.put 34 (.slice (some (hiA g m cv)) (n - (m + 1)) (cv - (m + 1))) (by decide) rfl
      generalize hB9_34 : Act.put _ _ _ = A at HF ⊢
      refine anyC_takeD (i := 13) (v := .pointer (some ⟨w.heap.size, 0, none⟩)) (some 37) rfl rfl (by kernel_rfl) (by kernel_rfl) (by kernel_rfl) (fun c a w => FINQ c a _ _ w) MR.out (by exact (Or.inl ⟨(wanted_none rfl), fun W hW => by have h50 := (HF.getD 10 rfl); go_simp⟩)) ?_
      replace HF := HF.put 37 (.pointer (some ⟨w.heap.size, 0, none⟩)) (by decide) rfl
      generalize hB10_37 : Act.put _ _ _ = A at HF ⊢
      refine anyC_takeD (i := 14) (v := .slice (some ⟨g, 0, none⟩) n cv) (some 38) rfl rfl (by kernel_rfl) (by kernel_rfl) (by kernel_rfl) (fun c a w => FINQ c a _ _ w) MR.out (by exact yieldsC_cell (C := (fun W => Turned (fun b => b = w.heap.size + 1) wr W)) (wanted_none rfl) 28 _ rfl (w.heap.size) 0 (HF.get 0 rfl) (.slice (some ⟨g, 0, none⟩) n cv) _ Try.underlying28 rfl (fun W hW => KB.out W hW)) ?_
      replace HF := HF.put 38 (.slice (some ⟨g, 0, none⟩) n cv) (by decide) rfl
      generalize hB11_38 : Act.put _ _ _ = A at HF ⊢
      refine anyC_takeD (i := 15) (v := .int .i64 (m : Int)) (some 39) rfl rfl (by kernel_rfl) (by kernel_rfl) (by kernel_rfl) (fun c a w => FINQ c a _ _ w) MR.out (by exact yieldsC_moveG (wanted_none rfl) _ rfl (HF.get 14 rfl)) ?_
      replace HF := HF.put 39 (.int .i64 (m : Int)) (by decide) rfl
      generalize hB12_39 : Act.put _ _ _ = A at HF ⊢
      refine anyC_takeD (i := 16) (v := .pointer (some ⟨g, m * 2, none⟩)) (some 40) rfl rfl (by kernel_rfl) (by kernel_rfl) (by kernel_rfl) (fun c a w => FINQ c a _ _ w) MR.out (by exact yieldsC_item (wanted_none rfl) rfl (HF.get 1 rfl) (HF.get 0 rfl) hmn) ?_
      replace HF := HF.put 40 (.pointer (some ⟨g, m * 2, none⟩)) (by decide) rfl
      generalize hB13_40 : Act.put _ _ _ = A at HF ⊢
      refine anyC_takeD (i := 17) (v := .pointer (some ⟨g, m * 2 + 1, none⟩)) (some 41) rfl rfl (by kernel_rfl) (by kernel_rfl) (by kernel_rfl) (fun c a w => FINQ c a _ _ w) MR.out (by exact (Or.inl ⟨(wanted_none rfl), fun W hW => by have h50 := (HF.getD 0 rfl); go_simp⟩)) ?_
      replace HF := HF.put 41 (.pointer (some ⟨g, m * 2 + 1, none⟩)) (by decide) rfl
      generalize hB14_41 : Act.put _ _ _ = A at HF ⊢
      refine anyC_takeD (i := 18) (v := .int .i64 x) (some 42) rfl rfl (by kernel_rfl) (by kernel_rfl) (by kernel_rfl) (fun c a w => FINQ c a _ _ w) MR.out (by exact yieldsC_cell (C := (fun W => Turned (fun b => b = w.heap.size + 1) wr W)) (wanted_none rfl) 3 _ rfl g (m * 2 + 1) (HF.get 0 rfl) (.int .i64 x) _ Try.underlying3 rfl (fun W hW => KX.out W hW)) ?_
      replace HF := HF.put 42 (.int .i64 x) (by decide) rfl
      generalize hB15_42 : Act.put _ _ _ = A at HF ⊢
      refine anyC_oneK (i := 0) (some 24) (by kernel_rfl) rfl (wanted_none rfl) rfl (fun K hK => ?_)
      refine wp_build0 rfl ?_
      have M1 : Hid (Turned (fun b => b = w.heap.size + 1) wr (wq.alloc (.cells #[] 55))) := Lib.hid (MR.out.alloc _)
      have Z1 := Lib.hid (ir_zero wq)
      have B1 := Lib.hid (((More.refl wq).alloc (.cells #[] 55)).block BQ.out)
      refine hK _ _ M1.out ?_
      clear hK K
      replace HF := HF.put 24 (.slice (some ⟨wq.heap.size, 0, none⟩) 0 0) (by decide) rfl
      generalize hB16_24 : Act.put _ _ _ = A at HF ⊢
      refine anyC_oneK (i := 5) (some 29) (by kernel_rfl) rfl (wanted_none rfl) rfl (fun K hK => ?_)
      refine wp_items _ _ rfl (HF.get 0 rfl) Z1.out (by simp) (HF.get 12 rfl) (SL.out _ M1.out) (by have := LL.out; simp; omega) ?_
      intro v2 w2 r2 t2 k2
      obtain ⟨a2, c2, hv2, _⟩ := r2.reads
      subst hv2
      have M2 : Hid (Turned (fun b => b = w.heap.size + 1) wr w2) := Lib.hid (turned_new M1.out t2 (fun k q => by have := Z1.out.own k q; have := MR.out.size; omega))
      have R2 : Hid (IR wq.heap.size w2 (.slice a2 ([] ++ its.take m).length c2) (its.take m)) := Lib.hid r2
      have G2 : Hid (wq.heap.size ≤ w2.heap.size) := Lib.hid (by have := t2.size; simp at this; omega)
      have B2 : Hid (w2.heap[w.heap.size + 1]? = some (.cells #[.slice none 0 0] 30 (0, 0))) := Lib.hid ((t2.block _ (lt_of_heap B1.out) (fun q => by have := Z1.out.own _ q; have := lt_of_heap BQ.out; omega)).trans B1.out)
      refine hK _ _ M2.out ?_
      clear hK K r2 t2 k2
      replace HF := HF.put 29 (.slice a2 ([] ++ its.take m).length c2) (by decide) rfl
      generalize hB17_29 : Act.put _ _ _ = A at HF ⊢
      refine anyC_oneK (i := 11) (some 35) (by kernel_rfl) rfl (wanted_none rfl) rfl (fun K hK => ?_)
      refine wp_items _ _ rfl (HF.get 0 rfl) R2.out (G2.out) (HF.get 8 rfl) (SH.out _ M2.out) (by have := LL.out; simp; omega) ?_
      intro v3 w3 r3 t3 k3
      obtain ⟨a3, c3, hv3, _⟩ := r3.reads
      subst hv3
      have M3 : Hid (Turned (fun b => b = w.heap.size + 1) wr w3) := Lib.hid (turned_new M2.out t3 (fun k q => by have := R2.out.own k q; have := MR.out.size; omega))
      have R3 : Hid (IR wq.heap.size w3 (.slice a3 (its.take m ++ its.drop (m + 1)).length c3) its') := Lib.hid (by rw [← EI.out]; exact r3)
      have B3 : Hid (w3.heap[w.heap.size + 1]? = some (.cells #[.slice none 0 0] 30 (0, 0))) := Lib.hid ((t3.block _ (lt_of_heap B2.out) (fun q => by have := R2.out.own _ q; have := lt_of_heap BQ.out; omega)).trans B2.out)
      refine hK _ _ M3.out ?_
      clear hK K r3 t3 k3
      replace HF := HF.put 35 (.slice a3 (its.take m ++ its.drop (m + 1)).length c3) (by decide) rfl
      generalize hB18_35 : Act.put _ _ _ = A at HF ⊢
      refine anyC_takeD (i := 12) (v := .agg #[.slice a3 (its.take m ++ its.drop (m + 1)).length c3]) (some 36) rfl rfl (by kernel_rfl) (by kernel_rfl) (by kernel_rfl) (fun c a w => FINQ c a _ _ w) M3.out (by exact yieldsC_buildP (wanted_none rfl) rfl (HF.get 0 rfl)) ?_
      replace HF := HF.put 36 (.agg #[.slice a3 (its.take m ++ its.drop (m + 1)).length c3]) (by decide) rfl
      generalize hB19_36 : Act.put _ _ _ = A at HF ⊢
      obtain ⟨n3, hn3⟩ : ∃ n3, (its.take m ++ its.drop (m + 1)).length = n3 := ⟨_, rfl⟩
      rw [hn3] at HF R3
      clear hn3
      have M4 : Hid (Turned (fun b => b = w.heap.size + 1) wr (w3.setRow (w.heap.size + 1) #[.slice a3 n3 c3])) := Lib.hid (Turned.setRow M3.out _ _ (fun _ => rfl))
      refine anyC_oneK (i := 19) none (by kernel_rfl) rfl (wanted_none rfl) rfl (fun K hK => ?_)
      refine wp_store_row 30 _ _ rfl (w.heap.size + 1) #[.slice a3 n3 c3] (HF.get 21 rfl) (HF.get 0 rfl) 30 _ B3.out (by kernel_rfl) rfl (by simp [Value.oneCell']) ?_
      refine hK _ _ M4.out ?_
      clear hK K
      replace HF := HF.skipP undef
      generalize hBN : Act.put _ _ _ = A at HF ⊢
      refine anyC_takeD (i := 20) (v := .int .i64 x) (some 5) rfl rfl (by kernel_rfl) (by kernel_rfl) (by kernel_rfl) (fun c a w => FINQ c a _ _ w) M4.out (by exact yieldsC_assign (wanted_none rfl) _ rfl (HF.get 4 rfl)) ?_
      replace HF := HF.put 5 (.int .i64 x) (by decide) rfl
      generalize hB20_5 : Act.put _ _ _ = A at HF ⊢
      refine anyC_takeD (i := 21) (v := .bool true) (some 6) rfl rfl (by kernel_rfl) (by kernel_rfl) (by kernel_rfl) (fun c a w => FINQ c a _ _ w) M4.out (by exact yieldsC_assign (wanted_none rfl) _ rfl rfl) ?_
      replace HF := HF.put 6 (.bool true) (by decide) rfl
      generalize hB21_6 : Act.put _ _ _ = A at HF ⊢
      exact anyC_done (by kernel_rfl) (FINE _ _ ⟨HF.get 23 rfl, HF.get 1 rfl, HF.get 0 rfl, HF.1.2, _, (R3.out.low (Nat.zero_le _)).keep (S := fun k => k = w.heap.size + 1) (Turned.setRow (Turned.refl _ w3) _ _ (fun _ => rfl)) (fun k q => by subst q; exact ⟨_, _, _, B3.out, by decide⟩), setRow_heap _ _ _ _ _ _ B3.out, M4.out⟩)
end Go.Proofs.Ytmafllcmkhgidaa
