/-
  The landed package view: Run.
-/
import Derived.Test.YtjoeminkdafmaaaViewBack
import Derived.Carry
import Derived.RangeFuncNested
import Derived.Maps.OwnIn
namespace Go.Proofs.Ytjoeminkdafmaaa
open Go.RowKit Go.Sort Go.Maps Go.Shelf
set_option linter.unusedVariables false
set_option linter.unusedSimpArgs false
attribute [local go_sem] Oper.semAt_some

/-- Pairs of numbers of 64 bits. -/
def OkPs (ps : List KV) : Prop := ∀ p ∈ ps, W64 p.1 ∧ W64 p.2
/-- What is known when these places have come. -/
def knOf (ps : List KV) (pre : List Nat) (x : Int) : Option Int := look (pre.reverse.map (pairAt ps)) x
theorem knOf_nil (ps : List KV) : knOf ps [] = fun _ => none := rfl
theorem knOf_snoc (ps : List KV) (pre : List Nat) (i : Nat) : knOf ps (pre ++ [i]) = fun y => if y = (pairAt ps i).1 then some (pairAt ps i).2 else knOf ps pre y := by
  funext y
  unfold knOf
  rw [List.reverse_append, List.reverse_singleton, List.singleton_append, List.map_cons, look_cons]
  by_cases h : y = (pairAt ps i).1
  · rw [if_pos h.symm, if_pos h]
  · rw [if_neg (fun e => h e.symm), if_neg h]
theorem knOf_all (ps : List KV) : knOf ps (cameBack ps.length ps.length) = look ps := by
  funext y
  unfold knOf
  congr 1
  apply List.ext_getElem?
  intro i
  rw [List.getElem?_map]
  by_cases h : i < ps.length
  · have e : (cameBack ps.length ps.length).reverse[i]? = some i := by
      rw [List.getElem?_reverse (by rw [cameBack_length]; exact h), cameBack_length]
      unfold cameBack
      rw [List.getElem?_map, List.getElem?_range (by omega)]
      simp; omega
    rw [e, List.getElem?_eq_getElem h]
    simp [pairAt, List.getD, h]
  · rw [List.getElem?_eq_none (by rw [List.length_reverse, cameBack_length]; omega), List.getElem?_eq_none (by omega)]; rfl
theorem pairAt_ok {ps : List KV} (h : OkPs ps) (i : Nat) : W64 (pairAt ps i).1 ∧ W64 (pairAt ps i).2 := by
  unfold pairAt
  by_cases q : i < ps.length
  · have : ps.getD i (0, 0) = ps[i] := by simp [List.getD, q]
    rw [this]; exact h _ (List.getElem_mem q)
  · have : ps.getD i (0, 0) = (0, 0) := by simp [List.getD, List.getElem?_eq_none (show ps.length ≤ i by omega)]
    rw [this]; unfold W64; exact ⟨by simp, by simp⟩
theorem okK_look {ps : List KV} (h : OkPs ps) : OkK (look ps) := fun a v e => (h _ (look_mem e)).2

/-- Behind a run: the book of what was deferred is laid aside. -/
theorem ranS_put {w W w' : World} {S : Nat → Prop} {X : Nat → World → Prop} {R : Ran} {e : Ending} {D : Nat} {o o' : Obj} (h : RanS W S X R e w') (hM : More w W) (hD : w.heap.size ≤ D) (hDW : D < W.heap.size) (ho : w'.heap[D]? = some o) (hc : o.isCells = false) (hX : ∀ p w' w'', X p w' → Turned (fun k => w.heap.size ≤ k) w' w'' → X p w'') :
    RanS w S X R e (w'.putObj D o') := by
  have t : Turned (fun k => k = D) w' (w'.putObj D o') := ⟨rfl, rfl, rfl, by simp, fun k hk hne => World.putObj_heap_other hne⟩
  have tS : ∀ {w1}, Turned S W w1 → Turned S w w1 := fun q => (Turned.mono hM (fun _ _ r => r.elim)).trans q
  cases R with
  | need a =>
    obtain ⟨he, ht⟩ := h
    exact ⟨he, turned_own (tS ht) t (fun k q => .inr (by omega))⟩
  | done ps =>
    obtain ⟨v, p, he, hr, ht, hx, hd⟩ := h
    refine ⟨v, p, he, (hr.keep t (fun k hk q => by omega)).mono hM.size, turned_own (tS ht) t (fun k q => .inr (by omega)), hX p _ _ hx (t.mono (fun k _ q => by omega)), hd.keep t (fun q => ?_)⟩
    obtain ⟨M, q', hp⟩ := hd
    subst q
    rw [ho] at hp
    cases hp
    cases hc
/-- What is so all through the loop over the pairs. -/
structure Fills (w : World) (ps : List KV) (pre : List Nat) (W : World) : Prop where
  box : Boxed W (w.heap.size + 1) 56 (.map (some w.heap.size))
  known : KnownAt W w.heap.size pre.length (knOf ps pre)
  below : Below w.heap.size w W
  big : w.heap.size + 3 ≤ W.heap.size
theorem fills_own (w : World) (ps : List KV) (B : Nat) (hB : w.heap.size + 2 ≤ B) : OwnFrom B (fun (pre : List Nat) W => Fills w ps pre W) := fun pre W W' row h hg hr => by
  have hne : ∀ k, k < B → some k ≠ row := fun k hk e => by have := (hr k e.symm).1; omega
  refine ⟨h.box.kept hg (hne _ (by omega)), ?_, h.below.grown hg (by have := h.box.lt; omega) (fun k e => by have := (hr k e).1; omega), Nat.le_trans h.big hg.size⟩
  obtain ⟨D, ⟨es, clock, hb, F⟩, hk⟩ := h.known
  exact ⟨D, ⟨es, clock, (hg.block _ (lt_of_heap hb) (hne _ (by omega))).trans hb, F⟩, hk⟩

set_option maxRecDepth 100000 in
set_option maxHeartbeats 4000000 in
theorem runs_gen (a : Option Addr) (cap : Nat) (ps : List KV) (w : World) (hps : IsPairs w a ps) (hlen : ps.length ≤ 1000) (hok : OkPs ps) (pv : Value) (S : Nat → Prop) (Post : Ending → World → Prop) (hS : ∀ k, S k → k < w.heap.size)
    (hrun : ∀ (W : World) (M : Nat), More w W → w.heap.size ≤ M → KnownAt W M ps.length (look ps) → Calls Try.prog 27 #[.map (some M), pv] W fun e w' =>
      ∃ x v, e = .returned (.tuple #[.int .i64 x, v]) ∧ Turned S W w' ∧ ∀ (D : Nat) (o o' : Obj), w.heap.size ≤ D → D < W.heap.size → w'.heap[D]? = some o → o.isCells = false → Post e (w'.putObj D o')) :
    Calls Try.prog 20 #[.slice a ps.length cap, pv] w Post := by
  suffices H : CallsIn Fence.wide 3 Try.prog 20 #[.slice a ps.length cap, pv] w Post from (callsIn_wide (n := 3)).1 H
  have hmm : ∀ (n : Int) (w : World), Sem.run Try.prog (Instr.makeMap 56 (some (.int .i64 n))) w = .ok (.map (some w.heap.size)) (w.alloc (.map #[] 0)) := fun n w => rfl
  have HPS := Lib.hid hps
  have HOK := Lib.hid hok
  have HS := Lib.hid hS
  have HRUN := Lib.hid hrun
  clear hps hok hS hrun
  refine callsIn_of_wp_marks Try.func20 rfl trivial ?_ rfl
  simp only [Try.ntmps20, List.size_toArray, List.length_cons, List.length_nil, Nat.reduceAdd, Nat.reduceSub, Array.replicate_succ, Array.replicate_zero, List.push_toArray, List.append_toArray, List.nil_append, List.cons_append]
  gi_wp2_with (refine ⟨trivial, ?_⟩; gi_at_call 32; refine (back_in _ a ps.length cap _).mono ?_; rintro e w' ⟨rfl, rfl⟩)
  obtain ⟨g, hg, hgl⟩ : ∃ g, (ps ≠ [] → ∀ k, leads a k → k = g) ∧ (g = w.heap.size + 1 + 1 ∨ g < w.heap.size) := by
    rcases HPS.out with h | ⟨s, o, rfl, hs, _⟩
    · exact ⟨w.heap.size + 1 + 1, (fun q => absurd h q), .inl rfl⟩
    · exact ⟨s, (fun _ k hk => by cases hk; rfl), .inr hs⟩
  have hB0 : Below w.heap.size w (((w.alloc (.map #[] 0)).alloc (.cells #[.map (some w.heap.size)] 56)).alloc (.cells #[.slice a ps.length cap] 22)) := (((Below.refl _ w).alloc (Nat.le_refl _) _).alloc (by simp) _).alloc (by simp; omega) _
  have bF := Boxed.new (w.alloc (.map #[] 0)) 56 (.map (some w.heap.size))
  have bS := Boxed.new ((w.alloc (.map #[] 0)).alloc (.cells #[.map (some w.heap.size)] 56)) 22 (.slice a ps.length cap)
  simp only [World.size_alloc] at bF bS
  have hps3 := HPS.out.more (more_of_below hB0)
  refine wpIn_rangeFunc_ownH rfl (by omega) (gf := 40) (lb := #[.pointer (some ⟨w.heap.size + 1 + 1, 0, none⟩)]) rfl trivial (enters_of Try.func40 (by kernel_rfl) rfl)
    (back_stops 2 (by omega) (w.heap.size + 1 + 1) g a cap ps (by omega) hg _ bS.cell hps3) (fun h k => h.trans k) (keeps2_put (by simp) (by simp; omega)) (Below.refl _ _) (fun _ => rfl)
    (fun pre W => Fills w ps pre W)
    (fun _ _ _ => False)
    (fills_own w ps _ (by simp))
    (fun _ _ _ _ _ hs _ _ => hs)
    ⟨bF.alloc _, ((KnownAt.made w).more ((More.refl _).alloc _)).more ((More.refl _).alloc _), hB0, by simp⟩
    (fun y a' W => ∃ b, a' = { tmps := #[.slice a ps.length cap, pv, undef, undef, .int .i64 0, .slice none 0 0, .pointer (some ⟨w.heap.size + 1, 0, none⟩), undef, .pointer (some ⟨b, 0, none⟩), .slice a ps.length cap, .int .i64 ps.length, .map (some w.heap.size), .slice a ps.length cap, .func (.func 40) #[] #[.pointer (some ⟨w.heap.size + 1 + 1, 0, none⟩)], .int .i64 (y : Int), .agg #[.int .i64 (pairAt ps y).1, .int .i64 (pairAt ps y).2], undef, undef, undef, undef, undef, undef, undef, undef, undef, undef], defers := [] } ∧ W.heap[b]? = some (.cells #[.int .i64 (pairAt ps y).1, .int .i64 (pairAt ps y).2] 47 (0, 0)))
    (fun y a' _ W W' row h hg hr => by
      obtain ⟨b, e, hb⟩ := h
      exact ⟨b, e, (hg.block b (lt_of_heap hb) (fun q => by obtain ⟨_, o, ho, hc⟩ := hr b q.symm; rw [hb] at ho; cases ho; cases hc)).trans hb⟩) ?assign ?body ?done ?stop
  case assign =>
    intro l pre y W K hI hK
    have k1 := hK { tmps := #[.slice a ps.length cap, pv, undef, undef, .int .i64 0, .slice none 0 0, .pointer (some ⟨w.heap.size + 1, 0, none⟩), undef, .pointer (some ⟨W.heap.size, 0, none⟩), .slice a ps.length cap, .int .i64 ps.length, .map (some w.heap.size), .slice a ps.length cap, .func (.func 40) #[] #[.pointer (some ⟨w.heap.size + 1 + 1, 0, none⟩)], .int .i64 (y : Int), .agg #[.int .i64 (pairAt ps y).1, .int .i64 (pairAt ps y).2], undef, undef, undef, undef, undef, undef, undef, undef, undef, undef], defers := [] }
      (W.alloc (.cells #[.int .i64 (pairAt ps y).1, .int .i64 (pairAt ps y).2] 47)) ((KeepsOthers.alloc _ _).from _)
      ⟨Below.heap_alloc _ _ _ (by have := hI.big; omega), Below.heap_alloc _ _ _ (by have := hI.big; omega)⟩ (fills_own w ps _ (Nat.le_refl _) pre W _ none hI (World.grownBy_alloc _ _ _) (fun r e => by cases e)) ⟨_, rfl, heap_new W _⟩
    clear hK hI
    unfold backEnc
    gi_wp2
    exact k1
  case body =>
    rintro l pre y a' W hl hrec hI ⟨b, rfl, hb⟩ hlt
    obtain ⟨w1, w2⟩ := pairAt_ok HOK.out y
    obtain ⟨W', hr, hk, ht⟩ := hI.known.store w1 w2 (by unfold maxLen; omega)
    obtain ⟨c0, c1, _, _⟩ := cell_of hb
    have cb := hI.box.cell
    have FIN : Hid (KeepsFrom (w.heap.size + 3) W W' ∧ Keeps2 (w.heap.size + 1 + 1) g W W' ∧ Fills w ps (pre ++ [y]) W') := Lib.hid (by
      have hbig := hI.big
      have hbx := hI.box
      refine ⟨⟨ht.size, fun k o hB hk _ => by rw [Turned.block ht k (lt_of_heap hk) (by omega)]; exact hk⟩, ⟨Turned.block ht _ (by omega) (by omega), Turned.block ht _ (by omega) (by omega)⟩, ?_, ?_, ?_, Nat.le_trans hbig ht.size⟩
      · exact (Turned.block ht _ (by omega) (by omega)).trans hbx
      · rw [List.length_append, knOf_snoc]; exact hk
      · have hb := hI.below
        exact ⟨ht.os.trans hb.os, ht.tape.trans hb.tape, ht.output.trans hb.output, Nat.le_trans hb.size ht.size, fun k hk => (Turned.block ht k (by omega) (by omega)).trans (hb.block k hk)⟩)
    clear hk ht hI hb
    gi_wp2
    exact ⟨⟨FIN.out.1.size, fun k o hk => FIN.out.1.same k o (by simpa using hk)⟩, FIN.out.2⟩
  case done =>
    rintro D ys W hD rfl hI hK
    have hM : More w W := more_of_below hI.below
    have hkn := hI.known
    rw [cameBack_length, knOf_all] at hkn
    have hDw : w.heap.size ≤ D := by simp at hD; omega
    have hDW := (Array.getElem?_eq_some_iff.1 hK).1
    have cb := hI.box.cell
    have RUN := Lib.hid (HRUN.out W w.heap.size hM (Nat.le_refl _) hkn)
    have HK := Lib.hid hK
    clear hI hkn hK hM
    gi_wp2_with (refine ⟨trivial, ?_⟩; gi_at_call 27; refine (callsIn_wide.2 RUN.out).mono ?_)
    rintro e w' ⟨x, v, rfl, hT, hP⟩
    have hK' : w'.heap[D]? = some (.deferred (some [])) := by
      rw [Turned.block hT D hDW (fun q => by have := HS.out D q; omega)]; exact HK.out
    have FIN := Lib.hid (hP D _ (.deferred none) hDw hDW hK' rfl)
    clear hP
    gi_wp2
    refine ⟨by simp, .inl ⟨_, _, rfl, run_takeDeferred hK', ?_⟩⟩
    exact ⟨.tuple #[.int .i64 x, v], by simp [results, Try.f20, go_sem], FIN.out⟩
  case stop =>
    rintro D c pre W _ _ h _
    exact h.elim

theorem runs_ok (a : Option Addr) (cap : Nat) (ps : List KV) (R : Ran) (w : World) (hps : IsPairs w a ps) (hlen : ps.length ≤ 1000) (hok : OkPs ps) (f : Nat) (clo : Array Value) (S : Nat → Prop) (X : Nat → World → Prop)
    (henter : ∀ args w, Sem.run Try.prog (callFunc f args) w = .ok (.enter f args) w) (hS : ∀ k, S k → k < w.heap.size) (hX : ∀ p w' w'', X p w' → Turned (fun k => w.heap.size ≤ k) w' w'' → X p w'')
    (hprog : ∀ (W : World) (F : Nat → Prop) (p : Nat), More w W → ViewAt W F p (look ps) [] → (∀ k, F k → w.heap.size ≤ k) → Calls Try.prog f (#[.pointer (some ⟨p, 0, none⟩)] ++ clo) W (WentS W F S X p (look ps) R)) :
    Calls Try.prog 20 #[.slice a ps.length cap, .func (.func f) #[] clo] w (RanS w S X R) :=
  runs_gen a cap ps w hps hlen hok _ S _ hS fun W M hM _ hk =>
    (run_ok (look ps) R M ps.length W hk f clo S X henter (fun k q => Nat.lt_of_lt_of_le (hS k q) hM.size) (fun p w' w'' hx t => hX p w' w'' hx (t.mono (fun k _ q => Nat.le_trans hM.size q)))
      (fun W1 F p m v n => hprog W1 F p (hM.trans m) v (fun k q => Nat.le_trans hM.size (n k q)))).mono fun e w' he => by
        have fin : ∀ (D : Nat) (o o' : Obj), w.heap.size ≤ D → D < W.heap.size → w'.heap[D]? = some o → o.isCells = false → RanS w S X R e (w'.putObj D o') := fun D o o' h1 h2 h3 h4 => ranS_put he hM h1 h2 h3 h4 hX
        cases R with
        | need x => exact ⟨x, _, he.1, he.2, fin⟩
        | done D' => obtain ⟨v, p, h1, _, h3, _⟩ := id he; exact ⟨-1, v, h1, h3, fin⟩

set_option maxHeartbeats 1000000 in
theorem run_nil (M : Nat) (w : World) :
    Calls Try.prog 27 #[.map (some M), .nilFunc] w fun e w' => e = .returned (.tuple #[.int .i64 (-1), .slice none 0 0]) ∧ More w w' := by
  have hq : ∀ w, Sem.run Try.prog (binOp BinOp.eql 36 .nilFunc .nilFunc) w = .ok (.bool true) w := fun _ => by kernel_rfl
  go_enter Try.func27, Try.ntmps27
  go_wp2_with fail
  exact bodyPost_ret (v := .tuple #[.int .i64 (-1), .slice none 0 0]) (by simp [results, Try.results27, go_sem]) rfl ⟨rfl, (More.refl w).alloc _⟩
theorem runs_nil (a : Option Addr) (cap : Nat) (ps : List KV) (w : World) (hps : IsPairs w a ps) (hlen : ps.length ≤ 1000) (hok : OkPs ps) :
    Calls Try.prog 20 #[.slice a ps.length cap, .nilFunc] w fun e w' => e = .returned (.tuple #[.int .i64 (-1), .slice none 0 0]) ∧ More w w' :=
  runs_gen a cap ps w hps hlen hok _ (fun _ => False) _ (fun _ q => q.elim) fun W M hM _ hk => (run_nil M W).mono fun e w' ⟨he, hm⟩ =>
    ⟨-1, _, he, hm, fun D o o' h1 _ _ _ => ⟨he, turned_own (F := fun _ => False) (F' := fun k => k = D) (hM.trans hm) ⟨rfl, rfl, rfl, by simp, fun k hk hne => World.putObj_heap_other hne⟩ (fun k q => .inr (by omega))⟩⟩
end Go.Proofs.Ytjoeminkdafmaaa
