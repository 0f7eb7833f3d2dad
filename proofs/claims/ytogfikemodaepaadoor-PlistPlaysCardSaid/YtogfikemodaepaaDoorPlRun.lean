/-
  Layer 10's statements begin with any steps: the program that does them.
-/
import Derived.Test.YtogfikemodaepaaDoorPlFn
import Derived.Test.YtogfikemodaepaaDoorViewDoX
import Derived.Test.YtogfikemodaepaaDoorStruct
import Derived.Test.YtogfikemodaepaaDoorBeginAt
namespace Go.Proofs.YtogfikemodaepaaDoor
open Go.RowKit Go.Sort Go.Maps Go.Shelf
set_option linter.unusedVariables false
set_option linter.unusedSimpArgs false
set_option linter.unusedSectionVars false

theorem run_make_where (k : Nat) (x : Int) (hx : x = (k : Int)) (hk : k ≤ 1000000) (w : World) :
    (Instr.makeSlice 34 (.int .i64 x) (.int .i64 x)).run Tryd.prog w = .ok (.slice (some ⟨w.heap.size, 0, none⟩) k k) (w.alloc (.cells (rowOf (zeros k)) 3)) := by
  subst hx
  obtain ⟨i, hi, hz, hs, hb⟩ := int_info
  have := run_make (P := Tryd.prog) w 34 3 i (.int .i64 0) Tryd.underlying34 hi hz .i64 .i64 k k (by omega) (by omega) (by rw [hb]; omega) (by omega)
  rw [this]
  simp only [Int.toNat_natCast, hs, Nat.mul_one]
  have e : madeCells (Value.int .i64 0).cells k = rowOf (zeros k) := by
    apply Array.ext
    · simp [size_madeCells, rowOf, zeros]
    · intro j h1 h2
      simp [madeCells, rowOf, zeros, Value.cells, Nat.mod_one]
  rw [e]
theorem ws_zeros (w : World) (k : Nat) (hk : k ≤ 1000000) {g : Nat} (h : w.heap[g]? = some (.cells (rowOf (zeros k)) 3 (0, 0))) : Ws w g k (zeros k) := by
  have hz := zeros_len k
  refine ⟨_, h, by rw [hz]; exact Nat.le_refl _, by unfold maxLen; omega, by simp [rowOf, hz], fun i hi => ?_⟩
  simp [rowOf, List.getD, hi]
theorem yieldsC_index10 {ops : Array Oper} {C : World → Prop} {o' : Oper} {a : Act} {x y : Operand} {s o len cap j : Nat} (hw : Region.wanted o' (yielded ops a.tmps) = true) (ho : o'.op = .indexAddr 24 x y) (hx : a.eval x = .slice (some ⟨s, o, none⟩) len cap) (hy : a.eval y = .int .i64 (j : Int)) (hj : j < len) : YieldsC Tryd.prog ops C o' (.pointer (some ⟨s, o + j * 4, none⟩)) a := by
  have d1 : decide (j < len) = true := by simp [hj]
  refine .inl ⟨hw, fun W hW => ?_⟩
  unfold execOp
  generalize a.eval = ρ at hx hy ⊢
  simp only [ho, hx, hy]
  go_simp
theorem note_len (ins : List Int) (k p c f : Int) : (noteV ins k p c f).length = ins.length := by
  unfold noteV
  split
  · rfl
  · split <;> simp

/-- What the program reads alone. -/
structure PaC (c : Cfg) (a : Option Addr) (capl : Nat) (l : List Ins4) (g1 g3 g4 : Nat) (w : World) : Prop where
  h1 : w.heap[g1]? = some (.cells c.cells 30 (0, 0))
  h3 : w.heap[g3]? = some (.cells #[.slice a l.length capl] 24 (0, 0))
  h4 : w.heap[g4]? = some (.cells c.arr 28 (0, 0))
  ins : IsIns4 w a l
structure PaY (c : Cfg) (a : Option Addr) (capl : Nat) (l : List Ins4) (g1 g2 g3 g4 : Nat) (w : World) : Prop where
  k : PaC c a capl l g1 g3 g4 w
  h2 : ∃ v, w.heap[g2]? = some (.cells #[v] 34 (0, 0))
/-- The row that says which pages are in a list. -/
def PaX (g2 : Nat) (ins : List Int) (b : Nat) (w : World) : Prop := ∃ gi cap, w.heap[g2]? = some (.cells #[.slice (some ⟨gi, 0, none⟩) ins.length cap] 34 (0, 0)) ∧ Ws w gi cap ins ∧ b ≤ gi
theorem PaC.keep {c : Cfg} {a : Option Addr} {capl : Nat} {l : List Ins4} {g1 g3 g4 : Nat} {S : Nat → Prop} {w w' : World} (h : PaC c a capl l g1 g3 g4 w) (t : Turned S w w') (n1 : ¬ S g1) (n3 : ¬ S g3) (n4 : ¬ S g4) (na : l ≠ [] → ∀ k, leads a k → ¬ S k) : PaC c a capl l g1 g3 g4 w' :=
  ⟨(t.block g1 (lt_of_heap h.h1) n1).trans h.h1, (t.block g3 (lt_of_heap h.h3) n3).trans h.h3, (t.block g4 (lt_of_heap h.h4) n4).trans h.h4, h.ins.keep t na⟩
/-- The class of worlds of its regions. -/
structure PaR (c : Cfg) (a : Option Addr) (capl : Nat) (l : List Ins4) (g1 g2 g3 g4 gi capi m : Nat) (w : World) : Prop extends PaC c a capl l g1 g3 g4 w where
  h2 : w.heap[g2]? = some (.cells #[.slice (some ⟨gi, 0, none⟩) m capi] 34 (0, 0))
/-- On the way. -/
structure PaI (c : Cfg) (a : Option Addr) (capl : Nat) (l : List Ins4) (g1 g2 g3 g4 gi capi : Nat) (W0 : World) (F : Nat → Prop) (p : Nat) (kn : Int → Option Int) (n : Nat) (D : List KV) (F' : Nat → Prop) (ins : List Int) (wr : World) : Prop where
  mid : MidV W0 wr F (fun b => b = g2) p kn n D F'
  k : PaC c a capl l g1 g3 g4 wr
  h2 : wr.heap[g2]? = some (.cells #[.slice (some ⟨gi, 0, none⟩) c.pg.toNat capi] 34 (0, 0))
  row : Ws wr gi capi ins
  off : ¬ F' gi
  new : W0.heap.size ≤ gi
  il : ins.length = c.pg.toNat
  pg : c.pg ≤ 256
  nf2 : ¬ F' g2
  g2lt : g2 < W0.heap.size
  nf : (¬ F' g1 ∧ ¬ F' g3 ∧ ¬ F' g4 ∧ ∀ k, l ≠ [] → leads a k → ¬ F' k)
  lt : g1 < W0.heap.size ∧ g3 < W0.heap.size ∧ g4 < W0.heap.size ∧ ∀ k, l ≠ [] → leads a k → k < W0.heap.size
namespace PaI
variable {c : Cfg} {a : Option Addr} {capl : Nat} {l : List Ins4} {g1 g2 g3 g4 gi capi : Nat} {W0 wr w1 : World} {F F' : Nat → Prop} {p n : Nat} {kn : Int → Option Int} {D : List KV} {ins : List Int}
theorem len (h : PaI c a capl l g1 g2 g3 g4 gi capi W0 F p kn n D F' ins wr) : ins.length ≤ 1000 := by have := h.il; have := h.pg; omega
theorem cls (h : PaI c a capl l g1 g2 g3 g4 gi capi W0 F p kn n D F' ins wr) : PaR c a capl l g1 g2 g3 g4 gi capi ins.length wr := { h.k with h2 := by rw [h.il]; exact h.h2 }
theorem more (h : PaI c a capl l g1 g2 g3 g4 gi capi W0 F p kn n D F' ins wr) (m : More wr w1) : PaI c a capl l g1 g2 g3 g4 gi capi W0 F p kn n D F' ins w1 :=
  { h with mid := h.mid.more m, k := h.k.keep m (fun q => q) (fun q => q) (fun q => q) (fun _ _ _ q => q), h2 := m.block h.h2, row := h.row.more m }
theorem noted {ys : List Int} (h : PaI c a capl l g1 g2 g3 g4 gi capi W0 F p kn n D F' ins wr) (hr : Ws w1 gi capi ys) (t : Turned (fun b => b = gi) wr w1) (hl : ys.length = ins.length) : PaI c a capl l g1 g2 g3 g4 gi capi W0 F p kn n D F' ys w1 := by
  have e2 := h.g2lt
  have e1 := h.lt
  have en := h.new
  obtain ⟨cur, hg, _⟩ := h.row
  refine { h with mid := ⟨h.mid.view.keepS t (fun k q e => h.off (e ▸ q)) (fun k es cl e q => by rw [e, hg] at q; cases q), h.mid.from', turned_own h.mid.turn t (fun k q => .inr (by omega)), h.mid.inv⟩, k := h.k.keep t (by omega) (by omega) (by omega) (fun ne k hk q => by have := e1.2.2.2 k ne hk; omega), h2 := (t.block _ (lt_of_heap h.h2) (by omega)).trans h.h2, row := hr, il := hl.trans h.il }
theorem went {α : Type} {val : α → Value} {Q : α → Prop} {pr : Prg α} {e : Ending} {w2 : World} (h : PaI c a capl l g1 g2 g3 g4 gi capi W0 F p kn n D F' ins wr) (hk : OkK kn) (G : Good n Q pr) (he : WentV wr F' p kn val (pr kn D) e w2) :
    (∃ a', pr kn D = .need a' ∧ e = .panicked (endOf p) ∧ DeadAt w2 p a' ∧ Turned (fun b => F b ∨ b = g2) W0 w2 ∧ PaY c a capl l g1 g2 g3 g4 w2) ∨
    (∃ x D1 F1, pr kn D = .ok x D1 ∧ e = .returned (val x) ∧ PaI c a capl l g1 g2 g3 g4 gi capi W0 F p kn n D1 F1 ins w2) := by
  obtain ⟨nf1, nf3, nf4, nfa⟩ := h.nf
  obtain ⟨lt1, lt3, lt4, lta⟩ := h.lt
  have hlt2 := h.g2lt
  have hsz := h.mid.size
  have hT : ∀ t, Turned F' wr t → PaC c a capl l g1 g3 g4 t := fun t ht => h.k.keep ht nf1 nf3 nf4 (fun ne k hk => nfa k ne hk)
  cases hE : pr kn D with
  | need x =>
    rw [hE] at he
    obtain ⟨h1, h2, h3⟩ := he
    exact .inl ⟨x, rfl, h1, h2, turned_own h.mid.turn h3 (fun k q => (h.mid.from' k q).imp .inl id), hT _ h3, _, (h3.block _ (lt_of_heap h.h2) h.nf2).trans h.h2⟩
  | ok x D1 =>
    rw [hE] at he
    obtain ⟨h1, F1, hv, ht, hn⟩ := he
    obtain ⟨i1, q1⟩ := G.ok hk h.mid.inv hE
    have hg := h.row.lt
    have off : ∀ k, k < wr.heap.size → ¬ F' k → ¬ F1 k := fun k hk nf q => by
      rcases hn k q with r | r
      · exact nf r
      · omega
    refine .inr ⟨x, D1, F1, rfl, h1, ⟨⟨hv, fun k q => ?_, turned_own h.mid.turn ht (fun k q => (h.mid.from' k q).imp .inl id), i1⟩, hT _ ht, (ht.block _ (lt_of_heap h.h2) h.nf2).trans h.h2, h.row.keep ht h.off, off _ hg h.off, h.new, h.il, h.pg, off _ (by omega) h.nf2, h.g2lt, ⟨off _ (by omega) nf1, off _ (by omega) nf3, off _ (by omega) nf4, fun k ne hk => off _ (by have := lta k ne hk; omega) (nfa k ne hk)⟩, h.lt⟩⟩
    rcases hn k q with r | r
    · exact h.mid.from' k r
    · exact .inr (by omega)
end PaI

set_option maxRecDepth 100000 in
set_option maxHeartbeats 8000000 in
theorem pa_clo {c : Cfg} (R : c.Ok) {n : Nat} (H : HdIn c.pg c.st n) (hn : n ≤ 10000) (F : Nat → Prop) (p g1 g2 g3 g4 : Nat) (kn : Int → Option Int) (a0 : Option Addr) (capl : Nat) (l : List Ins4) (hll : l.length ≤ 1000) (insF : List Int) (W0 : World) (hv : ViewAt W0 F p kn []) (hk : OkK kn)
    (hY : PaY c a0 capl l g1 g2 g3 g4 W0) (n1 : ¬ F g1) (n2 : ¬ F g2) (n3 : ¬ F g3) (n4 : ¬ F g4) (na : l ≠ [] → ∀ k, leads a0 k → ¬ F k) (ne1 : g1 ≠ g2) (ne3 : g3 ≠ g2) (ne4 : g4 ≠ g2) (nea : l ≠ [] → ∀ k, leads a0 k → k ≠ g2) (ht : ∀ z D, paftP c.pg c.st l (zeros c.pg.toNat) kn [] = .ok z D → z = insF) :
    Calls Tryd.prog 40 #[.pointer (some ⟨p, 0, none⟩), .pointer (some ⟨g1, 0, none⟩), .pointer (some ⟨g2, 0, none⟩), .pointer (some ⟨g3, 0, none⟩), .pointer (some ⟨g4, 0, none⟩)] W0 (WentY W0 F (fun b => b = g2) (fun w' => PaY c a0 capl l g1 g2 g3 g4 w') (PaX g2 insF W0.heap.size) p kn (ranOf (paftP c.pg c.st l (zeros c.pg.toNat) kn []))) := by
  obtain ⟨Rr, hR⟩ : ∃ Rr, paftP c.pg c.st l (zeros c.pg.toNat) kn [] = Rr := ⟨_, rfl⟩
  rw [hR] at ht ⊢
  obtain ⟨v0, h2⟩ := hY.h2
  have l2 := lt_of_heap h2
  have pg1 := R.pg1
  have pg2 := R.pg2
  obtain ⟨m, hm⟩ : ∃ m : Nat, c.pg = (m : Int) := ⟨c.pg.toNat, by omega⟩
  have hmt : c.pg.toNat = m := by omega
  have hmk := fun w => run_make_where m c.pg hm (by omega) w
  have la : l ≠ [] → ∀ k, leads a0 k → k < W0.heap.size := fun ne => hY.k.ins.lt ne
  have l1 := lt_of_heap hY.k.h1
  have l3 := lt_of_heap hY.k.h3
  have l4 := lt_of_heap hY.k.h4
  obtain ⟨c2, f2, _⟩ := box_cells h2
  have c1 : W0.cell? ⟨g1, 2, none⟩ = some (.int .i64 c.pg) := by simp [World.cell?, hY.k.h1, Cfg.cells]
  obtain ⟨w1, e1, hr1, m1, s1⟩ := entry1 W0 (.cells (rowOf (zeros m)) 3)
  obtain ⟨c2', f2', l2'⟩ := box_cells (m1.block h2)
  obtain ⟨w2, e2⟩ : ∃ w2, w1.setCell ⟨g2, 0, none⟩ (.slice (some ⟨W0.heap.size, 0, none⟩) m m) = w2 := ⟨_, rfl⟩
  have b2 : w2.heap[g2]? = some (.cells #[.slice (some ⟨W0.heap.size, 0, none⟩) m m] 34 (0, 0)) := by rw [← e2]; exact setCell_one (m1.block h2) _
  have t2 : Turned (fun b => b = g2) w1 w2 := by rw [← e2]; exact Turned.setCell (Turned.refl _ w1) _ _ (fun _ => rfl)
  have M2 : MidV W0 w2 F (fun b => b = g2) p kn n [] F := by
    rw [← e2]
    exact MidV.box (S := fun b => b = g2) ((MidV.begin hv (invD_nil n)).more m1) (fun _ => rfl) n2 _ (m1.block h2)
  have hC2 : PaC c a0 capl l g1 g3 g4 w2 := (hY.k.keep m1 (fun q => q) (fun q => q) (fun q => q) (fun _ _ _ q => q)).keep t2 ne1 ne3 ne4 nea
  have START := Lib.hid (And.intro (show PaI c a0 capl l g1 g2 g3 g4 W0.heap.size m W0 F p kn n [] F (zeros m) w2 from ⟨M2, hC2, by rw [hmt]; exact b2, (ws_zeros w1 m (by omega) hr1).keep t2 (by omega), fun q => by have := hv.lt _ q; omega, Nat.le_refl _, by rw [zeros_len, hmt], pg2, n2, l2, ⟨n1, n3, n4, fun k ne hk => na ne k hk⟩, ⟨l1, l3, l4, fun k ne hk => la ne k hk⟩⟩) (show paftP c.pg c.st l (zeros m) kn [] = Rr from by rw [← hR, hmt]))
  have NEED : Hid (∀ a w2, Rr = .need a → DeadAt w2 p a → Turned (fun b => F b ∨ b = g2) W0 w2 → PaY c a0 capl l g1 g2 g3 g4 w2 → WentY W0 F (fun b => b = g2) (fun w' => PaY c a0 capl l g1 g2 g3 g4 w') (PaX g2 insF W0.heap.size) p kn (ranOf Rr) (.panicked (endOf p)) w2) := Lib.hid fun a w2 e hd ht' hb => wy_need (ranOf_need e) hd ht' hb
  have DONE : Hid (∀ gi capi w2 D F' ins, Rr = .ok ins D → PaI c a0 capl l g1 g2 g3 g4 gi capi W0 F p kn n D F' ins w2 → WentY W0 F (fun b => b = g2) (fun w' => PaY c a0 capl l g1 g2 g3 g4 w') (PaX g2 insF W0.heap.size) p kn (ranOf Rr) (.returned (.tuple #[])) w2) := Lib.hid fun gi capi w2 D F' ins e h => wy_done h.mid (ranOf_ok e) ⟨h.k, _, h.h2⟩ (by
    have e2 := ht ins D e
    subst e2
    exact ⟨gi, capi, by rw [h.il]; exact h.h2, h.row, h.new⟩)
  have HK := Lib.hid hk
  have HR := Lib.hid R
  have HH := Lib.hid H
  clear hv hk R H hY n1 n2 n3 n4 na ne1 ne3 ne4 nea ht hR M2 hC2 t2 b2 hr1 m1 h2 hm hmt la l1 l3 l4
  go_enter Tryd.func40, Tryd.ntmps40
  go_wp2_with fail
  clear hmk e1 e2 c2 f2 c1 c2' f2' l2'
  go_loopw [6] (fun v6 wr => ∃ (j gi capi : Nat) (ins : List Int) (D : List KV) (F' : Nat → Prop), v6 = .int .i64 (j : Int) ∧ j ≤ l.length ∧ PaI c a0 capl l g1 g2 g3 g4 gi capi W0 F p kn n D F' ins wr ∧ paftP c.pg c.st (l.drop j) ins kn D = Rr) (fun v6 _ => l.length - (intOf v6).toNat)
  case atStart => exact ⟨0, _, _, _, [], F, rfl, by omega, START.out.1, START.out.2⟩
  case round =>
    clear START
    obtain ⟨j, gi, capi, ins, D', F', rfl, hjl, MI, hrest⟩ := hrel
    replace MI := Lib.hid MI
    have c3 := (box_cells MI.out.k.h3).1
    have q1 : IntKind.i64.wrap ((j : Int) + 1) = (j : Int) + 1 := wrap_in (by omega) (by omega)
    by_cases hlt : j < l.length
    · have d1 : decide ((j : Int) < (l.length : Int)) = true := by simp; omega
      obtain ⟨⟨k, q, cl, f⟩, hj⟩ : ∃ t, l[j]? = some t := ⟨_, List.getElem?_eq_getElem hlt⟩
      rw [drop_at4 hj] at hrest
      have RI := Lib.hid hrest
      obtain ⟨s, o, rfl, hs, hc⟩ := MI.out.k.ins.resolve_left (by intro e; rw [e] at hlt; simp at hlt)
      have hmt : ins.length = c.pg.toNat := MI.out.il
      have C4 := Lib.hid (show ∀ W, PaR c (some ⟨s, o, none⟩) capl l g1 g2 g3 g4 gi capi ins.length W → _ from fun W hW => by
        obtain ⟨s', o', e', _, hc'⟩ := hW.ins.resolve_left (by intro e; rw [e] at hlt; simp at hlt)
        cases e'
        exact hc' j _ hj)
      have KR : Hid (∀ wr D' F', PaI c (some ⟨s, o, none⟩) capl l g1 g2 g3 g4 gi capi W0 F p kn n D' F' ins wr → PaR c (some ⟨s, o, none⟩) capl l g1 g2 g3 g4 gi capi ins.length wr) := Lib.hid fun _ _ _ h => h.cls
      clear hrest hc hs hmt hj
      go_wp2_with fail
      clear c3
      refine wp_region_anyC (PaR c (some ⟨s, o, none⟩) capl l g1 g2 g3 g4 gi capi ins.length) (by kernel_rfl) ?_
      have MR := Lib.hid (MI.out.more ((More.refl wr).drewN 1))
      change anyC _ _ _ _ _ _ _ _ (wr.drewN 1)
      generalize wr.drewN 1 = wq at MR ⊢
      generalize hA : Act.mk _ _ = A
      have HF : AG 39 A [(0, .pointer (some ⟨p, 0, none⟩)), (1, .pointer (some ⟨g1, 0, none⟩)), (2, .pointer (some ⟨g2, 0, none⟩)), (3, .pointer (some ⟨g3, 0, none⟩)), (4, .pointer (some ⟨g4, 0, none⟩)), (6, .int .i64 (j : Int))] := by
        rw [← hA]
        refine ⟨⟨Nat.le_of_ble_eq_true rfl, rfl⟩, ?_⟩
        intro z hz; simp only [List.mem_cons, List.not_mem_nil, or_false] at hz; rcases hz with rfl | rfl | rfl | rfl | rfl | rfl <;> rfl
      refine anyC_start (fun a W => ∃ (u17 u18 u19 u20 u21 u22 u23 u24 u25 u26 u27 u28 u29 u30 u31 : Value) (b9 : Bool) (D9 : List KV) (F9 : Nat → Prop), a = (Act.put (Act.put (Act.put (Act.put (Act.put (Act.put (Act.put (Act.put (Act.put (Act.put (Act.put (Act.put (Act.put (Act.put (Act.put (Act.put A (some 17) u17) (some 18) u18) (some 19) u19) (some 20) u20) (some 21) u21) (some 22) u22) (some 23) u23) (some 24) u24) (some 25) u25) (some 26) u26) (some 27) u27) (some 28) u28) (some 29) u29) (some 30) u30) (some 31) u31) (some 32) (.bool b9)) ∧ PaI c (some ⟨s, o, none⟩) capl l g1 g2 g3 g4 gi capi W0 F p kn n D9 F9 ins W ∧ paftP c.pg c.st (l.drop (j + 1)) (if b9 then noteV ins k q cl f else ins) kn D9 = Rr ∧ (b9 = true → k < 2 → headV c.pg c.st cl f ≠ 0)) (fun W => WentY W0 F (fun b => b = g2) (fun w' => PaY c (some ⟨s, o, none⟩) capl l g1 g2 g3 g4 w') (PaX g2 insF W0.heap.size) p kn (ranOf Rr) (.panicked (endOf p)) W) (endOf p) (fun a W hd h => ⟨hd, h⟩) (fun _ _ _ _ _ h => h) ?_ ?_
      · skip
        rintro a wa ⟨u17, u18, u19, u20, u21, u22, u23, u24, u25, u26, u27, u28, u29, u30, u31, b9, D1, F1, rfl, MS, RS, TS⟩
        rw [← hA]
        replace MS := Lib.hid MS
        replace TS := Lib.hid TS
        clear HF hA MR RI MI
        go_simp
        by_cases hb : b9 = true
        · rw [if_pos hb] at RS
          replace RS := Lib.hid RS
          have hcf : k < 2 → 0 ≤ q → q < ins.length → 0 ≤ cl ∧ cl ≤ 4 ∧ 1 ≤ f ∧ f ≤ 32 := fun hk2 _ _ => by
            have := (head_hd (TS.out hb hk2)).2
            have := slots_b cl
            omega
          clear TS
          subst hb
          go_wp2_with fail
          refine wp_region_anyC (PaR c (some ⟨s, o, none⟩) capl l g1 g2 g3 g4 gi capi ins.length) (by kernel_rfl) ?_
          have MR := Lib.hid (MS.out.more ((More.refl wa).drewN 1))
          change anyC _ _ _ _ _ _ _ _ (wa.drewN 1)
          generalize wa.drewN 1 = wq at MR ⊢
          generalize hA : Act.mk _ _ = A
          have HF : AG 39 A [(0, .pointer (some ⟨p, 0, none⟩)), (1, .pointer (some ⟨g1, 0, none⟩)), (2, .pointer (some ⟨g2, 0, none⟩)), (3, .pointer (some ⟨g3, 0, none⟩)), (4, .pointer (some ⟨g4, 0, none⟩)), (6, .int .i64 (j : Int))] := by
            rw [← hA]
            refine ⟨⟨Nat.le_of_ble_eq_true rfl, rfl⟩, ?_⟩
            intro z hz; simp only [List.mem_cons, List.not_mem_nil, or_false] at hz; rcases hz with rfl | rfl | rfl | rfl | rfl | rfl <;> rfl
          refine anyC_start (fun a W => ∃ (u33 u34 u35 u36 u37 u38 : Value), a = (Act.put (Act.put (Act.put (Act.put (Act.put (Act.put A (some 33) u33) (some 34) u34) (some 35) u35) (some 36) u36) (some 37) u37) (some 38) u38) ∧ PaI c (some ⟨s, o, none⟩) capl l g1 g2 g3 g4 gi capi W0 F p kn n D1 F1 (noteV ins k q cl f) W) (fun W => WentY W0 F (fun b => b = g2) (fun w' => PaY c (some ⟨s, o, none⟩) capl l g1 g2 g3 g4 w') (PaX g2 insF W0.heap.size) p kn (ranOf Rr) (.panicked (endOf p)) W) (endOf p) (fun a W hd h => ⟨hd, h⟩) (fun _ _ _ _ _ h => h) ?_ ?_
          · skip
            rintro a wb ⟨u33, u34, u35, u36, u37, u38, rfl, MS⟩
            rw [← hA]
            replace MS := Lib.hid MS
            clear HF hA MR
            go_simp
            go_wp2_with fail
            go_roundw
            case rel => exact ⟨j + 1, gi, capi, _, D1, F1, by go_num, by omega, MS.out, RS.out⟩
            case measure => simp [intOf]; omega
          intro QQ FINE FIND FINQ
          clear hA
          refine anyC_takeD (i := 0) (v := .slice (some ⟨gi, 0, none⟩) ins.length capi) (some 33) rfl rfl (by kernel_rfl) (by kernel_rfl) (by kernel_rfl) (fun c a w => FINQ c a _ _ w) (KR.out _ _ _ MR.out) (by exact yieldsC_cell (C := (PaR c (some ⟨s, o, none⟩) capl l g1 g2 g3 g4 gi capi ins.length)) (wanted_none rfl) 34 _ rfl g2 0 (HF.get 2 rfl) (.slice (some ⟨gi, 0, none⟩) ins.length capi) _ Tryd.underlying34 rfl (fun W hW => (box_cells hW.h2).1)) ?_
          replace HF := HF.put 33 (.slice (some ⟨gi, 0, none⟩) ins.length capi) (by decide) rfl
          generalize hB1_33 : Act.put _ _ _ = A at HF ⊢
          refine anyC_takeD (i := 1) (v := .slice (some ⟨s, o, none⟩) l.length capl) (some 34) rfl rfl (by kernel_rfl) (by kernel_rfl) (by kernel_rfl) (fun c a w => FINQ c a _ _ w) (KR.out _ _ _ MR.out) (by exact yieldsC_cell (C := (PaR c (some ⟨s, o, none⟩) capl l g1 g2 g3 g4 gi capi ins.length)) (wanted_none rfl) 24 _ rfl g3 0 (HF.get 4 rfl) (.slice (some ⟨s, o, none⟩) l.length capl) _ Tryd.underlying24 rfl (fun W hW => (box_cells hW.h3).1)) ?_
          replace HF := HF.put 34 (.slice (some ⟨s, o, none⟩) l.length capl) (by decide) rfl
          generalize hB2_34 : Act.put _ _ _ = A at HF ⊢
          refine anyC_takeD (i := 2) (v := .int .i64 (j : Int)) (some 35) rfl rfl (by kernel_rfl) (by kernel_rfl) (by kernel_rfl) (fun c a w => FINQ c a _ _ w) (KR.out _ _ _ MR.out) (by exact yieldsC_moveG (wanted_none rfl) _ rfl (HF.get 7 rfl)) ?_
          replace HF := HF.put 35 (.int .i64 (j : Int)) (by decide) rfl
          generalize hB3_35 : Act.put _ _ _ = A at HF ⊢
          refine anyC_takeD (i := 3) (v := .pointer (some ⟨s, o + j * 4, none⟩)) (some 36) rfl rfl (by kernel_rfl) (by kernel_rfl) (by kernel_rfl) (fun c a w => FINQ c a _ _ w) (KR.out _ _ _ MR.out) (by exact yieldsC_index10 (wanted_none rfl) rfl (HF.get 1 rfl) (HF.get 0 rfl) hlt) ?_
          replace HF := HF.put 36 (.pointer (some ⟨s, o + j * 4, none⟩)) (by decide) rfl
          generalize hB4_36 : Act.put _ _ _ = A at HF ⊢
          refine anyC_takeD (i := 4) (v := .agg #[.int .i64 k, .int .i64 q, .int .i64 cl, .int .i64 f]) (some 37) rfl rfl (by kernel_rfl) (by kernel_rfl) (by kernel_rfl) (fun c a w => FINQ c a _ _ w) (KR.out _ _ _ MR.out) (by exact yieldsC_four (C := (PaR c (some ⟨s, o, none⟩) capl l g1 g2 g3 g4 gi capi ins.length)) (wanted_none rfl) 36 _ rfl s (o + j * 4) (HF.get 0 rfl) _ _ _ _ _ C4.out Tryd.underlying36 rfl (by kernel_rfl)) ?_
          replace HF := HF.put 37 (.agg #[.int .i64 k, .int .i64 q, .int .i64 cl, .int .i64 f]) (by decide) rfl
          generalize hB5_37 : Act.put _ _ _ = A at HF ⊢
          refine anyC_oneK (i := 5) (some 38) (by kernel_rfl) rfl (wanted_none rfl) rfl (fun K hK => ?_)
          refine wp_call2 (v0 := .slice (some ⟨gi, 0, none⟩) ins.length capi) (v1 := .agg #[.int .i64 k, .int .i64 q, .int .i64 cl, .int .i64 f]) rfl (HF.get 4 rfl) (HF.get 0 rfl) (enters_of Tryd.func15 (by kernel_rfl) rfl) ?_
          refine (fn_note gi capi ins k q cl f MR.out.len hcf wq MR.out.row).mono ?_
          rintro e w3 ⟨rfl, hr3, ht3⟩
          have M3 := Lib.hid (MR.out.noted hr3 ht3 (note_len ins k q cl f))
          clear hr3 ht3
          refine hK _ _ (by rw [← note_len ins k q cl f]; exact M3.out.cls) ?_
          clear hK K
          replace HF := HF.put 38 (.tuple #[]) (by decide) rfl
          generalize hB6_38 : Act.put _ _ _ = A at HF ⊢
          exact anyC_done (by kernel_rfl) (FINE _ _ ⟨(.slice (some ⟨gi, 0, none⟩) ins.length capi), (.slice (some ⟨s, o, none⟩) l.length capl), (.int .i64 (j : Int)), (.pointer (some ⟨s, o + j * 4, none⟩)), (.agg #[.int .i64 k, .int .i64 q, .int .i64 cl, .int .i64 f]), (.tuple #[]), by rw [← hB6_38, ← hB5_37, ← hB4_36, ← hB3_35, ← hB2_34, ← hB1_33], M3.out⟩)
        · rw [if_neg hb] at RS
          replace RS := Lib.hid RS
          have hb : b9 = false := by simpa using hb
          clear TS
          subst hb
          go_wp2_with fail
          go_roundw
          case rel => exact ⟨j + 1, gi, capi, ins, D1, F1, by go_num, by omega, MS.out, RS.out⟩
          case measure => simp [intOf]; omega
      intro QQ FINE FIND FINQ
      clear hA
      refine anyC_takeD (i := 0) (v := .slice (some ⟨gi, 0, none⟩) ins.length capi) (some 17) rfl rfl (by kernel_rfl) (by kernel_rfl) (by kernel_rfl) (fun c a w => FINQ c a _ _ w) (KR.out _ _ _ MR.out) (by exact yieldsC_cell (C := (PaR c (some ⟨s, o, none⟩) capl l g1 g2 g3 g4 gi capi ins.length)) (wanted_none rfl) 34 _ rfl g2 0 (HF.get 2 rfl) (.slice (some ⟨gi, 0, none⟩) ins.length capi) _ Tryd.underlying34 rfl (fun W hW => (box_cells hW.h2).1)) ?_
      replace HF := HF.put 17 (.slice (some ⟨gi, 0, none⟩) ins.length capi) (by decide) rfl
      generalize hB1_17 : Act.put _ _ _ = A at HF ⊢
      refine anyC_takeD (i := 1) (v := .slice (some ⟨s, o, none⟩) l.length capl) (some 18) rfl rfl (by kernel_rfl) (by kernel_rfl) (by kernel_rfl) (fun c a w => FINQ c a _ _ w) (KR.out _ _ _ MR.out) (by exact yieldsC_cell (C := (PaR c (some ⟨s, o, none⟩) capl l g1 g2 g3 g4 gi capi ins.length)) (wanted_none rfl) 24 _ rfl g3 0 (HF.get 4 rfl) (.slice (some ⟨s, o, none⟩) l.length capl) _ Tryd.underlying24 rfl (fun W hW => (box_cells hW.h3).1)) ?_
      replace HF := HF.put 18 (.slice (some ⟨s, o, none⟩) l.length capl) (by decide) rfl
      generalize hB2_18 : Act.put _ _ _ = A at HF ⊢
      refine anyC_takeD (i := 2) (v := .int .i64 (j : Int)) (some 19) rfl rfl (by kernel_rfl) (by kernel_rfl) (by kernel_rfl) (fun c a w => FINQ c a _ _ w) (KR.out _ _ _ MR.out) (by exact yieldsC_moveG (wanted_none rfl) _ rfl (HF.get 7 rfl)) ?_
      replace HF := HF.put 19 (.int .i64 (j : Int)) (by decide) rfl
      generalize hB3_19 : Act.put _ _ _ = A at HF ⊢
      refine anyC_takeD (i := 3) (v := .pointer (some ⟨s, o + j * 4, none⟩)) (some 20) rfl rfl (by kernel_rfl) (by kernel_rfl) (by kernel_rfl) (fun c a w => FINQ c a _ _ w) (KR.out _ _ _ MR.out) (by exact yieldsC_index10 (wanted_none rfl) rfl (HF.get 1 rfl) (HF.get 0 rfl) hlt) ?_
      replace HF := HF.put 20 (.pointer (some ⟨s, o + j * 4, none⟩)) (by decide) rfl
      generalize hB4_20 : Act.put _ _ _ = A at HF ⊢
      refine anyC_takeD (i := 4) (v := .agg #[.int .i64 k, .int .i64 q, .int .i64 cl, .int .i64 f]) (some 21) rfl rfl (by kernel_rfl) (by kernel_rfl) (by kernel_rfl) (fun c a w => FINQ c a _ _ w) (KR.out _ _ _ MR.out) (by exact yieldsC_four (C := (PaR c (some ⟨s, o, none⟩) capl l g1 g2 g3 g4 gi capi ins.length)) (wanted_none rfl) 36 _ rfl s (o + j * 4) (HF.get 0 rfl) _ _ _ _ _ C4.out Tryd.underlying36 rfl (by kernel_rfl)) ?_
      replace HF := HF.put 21 (.agg #[.int .i64 k, .int .i64 q, .int .i64 cl, .int .i64 f]) (by decide) rfl
      generalize hB5_21 : Act.put _ _ _ = A at HF ⊢
      refine anyC_oneK (i := 5) (some 22) (by kernel_rfl) rfl (wanted_none rfl) rfl (fun K hK => ?_)
      refine wp_call2 (v0 := .slice (some ⟨gi, 0, none⟩) ins.length capi) (v1 := .agg #[.int .i64 k, .int .i64 q, .int .i64 cl, .int .i64 f]) rfl (HF.get 4 rfl) (HF.get 0 rfl) (enters_of Tryd.func8 (by kernel_rfl) rfl) ?_
      refine (fn_skipped gi capi ins k q cl f MR.out.len wq MR.out.row).mono ?_
      rintro e w3 ⟨rfl, h3⟩
      have M3 := Lib.hid (MR.out.more h3)
      clear h3
      refine hK _ _ (KR.out _ _ _ M3.out) ?_
      clear hK K
      replace HF := HF.put 22 (.bool (skipB ins k q)) (by decide) rfl
      generalize hB6_22 : Act.put _ _ _ = A at HF ⊢
      cases hsk : skipB ins k q with
      | false =>
        rw [hsk] at HF
        have RI := Lib.hid (show bindP (pdoneP c.pg c.st k q cl f) (fun b => paftP c.pg c.st (l.drop (j + 1)) (if b then noteV ins k q cl f else ins)) kn D' = Rr from by have h := RI.out; unfold paftP at h; rw [hsk] at h; exact h)
        refine anyC_takeD (i := 6) (v := .bool true) (some 23) rfl rfl (by kernel_rfl) (by kernel_rfl) (by kernel_rfl) (fun c a w => FINQ c a _ _ w) (KR.out _ _ _ M3.out) (by exact yieldsC_not (wanted_none rfl) rfl (HF.get 0 rfl)) ?_
        replace HF := HF.put 23 (.bool true) (by decide) rfl
        generalize hB7_23 : Act.put _ _ _ = A at HF ⊢
        refine anyC_takeD (i := 7) (v := .bool true) (some 24) rfl rfl (by kernel_rfl) (by kernel_rfl) (by kernel_rfl) (fun c a w => FINQ c a _ _ w) (KR.out _ _ _ M3.out) (by exact yieldsC_moveG (wanted_none rfl) _ rfl (HF.get 0 rfl)) ?_
        replace HF := HF.put 24 (.bool true) (by decide) rfl
        generalize hB8_24 : Act.put _ _ _ = A at HF ⊢
        refine anyC_takeD (i := 8) (v := .pointer (some ⟨p, 0, none⟩)) (some 25) rfl rfl (by kernel_rfl) (by kernel_rfl) (by kernel_rfl) (fun c a w => FINQ c a _ _ w) (KR.out _ _ _ M3.out) (by exact yieldsC_moveG (wanted_g 7 true 24 rfl rfl (HF.at (by decide) 0 rfl)) _ rfl (HF.get 8 rfl)) ?_
        replace HF := HF.put 25 (.pointer (some ⟨p, 0, none⟩)) (by decide) rfl
        generalize hB9_25 : Act.put _ _ _ = A at HF ⊢
        refine anyC_takeD (i := 9) (v := .agg c.arr) (some 26) rfl rfl (by kernel_rfl) (by kernel_rfl) (by kernel_rfl) (fun c a w => FINQ c a _ _ w) (KR.out _ _ _ M3.out) (by exact yieldsC_row (C := (PaR c (some ⟨s, o, none⟩) capl l g1 g2 g3 g4 gi capi ins.length)) (wanted_g 7 true 24 rfl rfl (HF.at (by decide) 1 rfl)) 28 _ rfl g4 (HF.get 13 rfl) 28 _ _ _ (fun W hW => hW.h4) Tryd.underlying28 rfl (by kernel_rfl)) ?_
        replace HF := HF.put 26 (.agg c.arr) (by decide) rfl
        generalize hB10_26 : Act.put _ _ _ = A at HF ⊢
        refine anyC_takeD (i := 10) (v := .slice (some ⟨s, o, none⟩) l.length capl) (some 27) rfl rfl (by kernel_rfl) (by kernel_rfl) (by kernel_rfl) (fun c a w => FINQ c a _ _ w) (KR.out _ _ _ M3.out) (by exact yieldsC_cell (C := (PaR c (some ⟨s, o, none⟩) capl l g1 g2 g3 g4 gi capi ins.length)) (wanted_g 7 true 24 rfl rfl (HF.at (by decide) 2 rfl)) 24 _ rfl g3 0 (HF.get 13 rfl) (.slice (some ⟨s, o, none⟩) l.length capl) _ Tryd.underlying24 rfl (fun W hW => (box_cells hW.h3).1)) ?_
        replace HF := HF.put 27 (.slice (some ⟨s, o, none⟩) l.length capl) (by decide) rfl
        generalize hB11_27 : Act.put _ _ _ = A at HF ⊢
        refine anyC_takeD (i := 11) (v := .int .i64 (j : Int)) (some 28) rfl rfl (by kernel_rfl) (by kernel_rfl) (by kernel_rfl) (fun c a w => FINQ c a _ _ w) (KR.out _ _ _ M3.out) (by exact yieldsC_moveG (wanted_g 7 true 24 rfl rfl (HF.at (by decide) 3 rfl)) _ rfl (HF.get 16 rfl)) ?_
        replace HF := HF.put 28 (.int .i64 (j : Int)) (by decide) rfl
        generalize hB12_28 : Act.put _ _ _ = A at HF ⊢
        refine anyC_takeD (i := 12) (v := .pointer (some ⟨s, o + j * 4, none⟩)) (some 29) rfl rfl (by kernel_rfl) (by kernel_rfl) (by kernel_rfl) (fun c a w => FINQ c a _ _ w) (KR.out _ _ _ M3.out) (by exact yieldsC_index10 (wanted_g 7 true 24 rfl rfl (HF.at (by decide) 4 rfl)) rfl (HF.get 1 rfl) (HF.get 0 rfl) hlt) ?_
        replace HF := HF.put 29 (.pointer (some ⟨s, o + j * 4, none⟩)) (by decide) rfl
        generalize hB13_29 : Act.put _ _ _ = A at HF ⊢
        refine anyC_takeD (i := 13) (v := .agg #[.int .i64 k, .int .i64 q, .int .i64 cl, .int .i64 f]) (some 30) rfl rfl (by kernel_rfl) (by kernel_rfl) (by kernel_rfl) (fun c a w => FINQ c a _ _ w) (KR.out _ _ _ M3.out) (by exact yieldsC_four (C := (PaR c (some ⟨s, o, none⟩) capl l g1 g2 g3 g4 gi capi ins.length)) (wanted_g 7 true 24 rfl rfl (HF.at (by decide) 5 rfl)) 36 _ rfl s (o + j * 4) (HF.get 0 rfl) _ _ _ _ _ C4.out Tryd.underlying36 rfl (by kernel_rfl)) ?_
        replace HF := HF.put 30 (.agg #[.int .i64 k, .int .i64 q, .int .i64 cl, .int .i64 f]) (by decide) rfl
        generalize hB14_30 : Act.put _ _ _ = A at HF ⊢
        refine anyC_oneK (i := 14) (some 31) (by kernel_rfl) rfl (wanted_g 7 true 24 rfl rfl (HF.at (by decide) 6 rfl)) rfl (fun K hK => ?_)
        refine wp_call3 (v0 := .pointer (some ⟨p, 0, none⟩)) (v1 := .agg c.arr) (v2 := .agg #[.int .i64 k, .int .i64 q, .int .i64 cl, .int .i64 f]) rfl (HF.get 5 rfl) (HF.get 4 rfl) (HF.get 0 rfl) (enters_of Tryd.func11 (by kernel_rfl) rfl) ?_
        refine (fn_done HR.out HH.out hn F' p kn D' k q cl f w3 M3.out.mid.view HK.out M3.out.mid.inv).mono ?_
        intro e w4 he
        rcases M3.out.went HK.out (good_pdone HH.out k q cl f) he with ⟨a', hE, rfl, hN⟩ | ⟨x4, D4, F4, hE, rfl, M4⟩
        · exact FIND _ _ HF.1.2 (NEED.out a' w4 (RI.out.symm.trans (bindP_need hE)) hN.1 hN.2.1 hN.2.2)
        have R4 := Lib.hid ((bindP_ok hE).symm.trans RI.out)
        have T4 : x4 = true → k < 2 → headV c.pg c.st cl f ≠ 0 := fun hx hk2 => (link_true (show plLinkP c.pg c.st q cl f kn D' = .ok true D4 from by rw [← hx, ← hE]; unfold pdoneP; rw [if_pos hk2])).1
        have M4 := Lib.hid M4
        clear he hE
        refine hK _ _ (KR.out _ _ _ M4.out) ?_
        clear hK K
        replace HF := HF.put 31 (.bool x4) (by decide) rfl
        generalize hB15_31 : Act.put _ _ _ = A at HF ⊢
        refine anyC_takeD (i := 15) (v := .bool x4) (some 32) rfl rfl (by kernel_rfl) (by kernel_rfl) (by kernel_rfl) (fun c a w => FINQ c a _ _ w) (KR.out _ _ _ M4.out) (by exact yieldsC_pickT (wanted_none rfl) rfl (HF.get 7 rfl) (HF.get 0 rfl)) ?_
        replace HF := HF.put 32 (.bool x4) (by decide) rfl
        generalize hB16_32 : Act.put _ _ _ = A at HF ⊢
        exact anyC_done (by kernel_rfl) (FINE _ _ ⟨(.slice (some ⟨gi, 0, none⟩) ins.length capi), (.slice (some ⟨s, o, none⟩) l.length capl), (.int .i64 (j : Int)), (.pointer (some ⟨s, o + j * 4, none⟩)), (.agg #[.int .i64 k, .int .i64 q, .int .i64 cl, .int .i64 f]), (.bool (skipB ins k q)), (.bool true), (.bool true), (.pointer (some ⟨p, 0, none⟩)), (.agg c.arr), (.slice (some ⟨s, o, none⟩) l.length capl), (.int .i64 (j : Int)), (.pointer (some ⟨s, o + j * 4, none⟩)), (.agg #[.int .i64 k, .int .i64 q, .int .i64 cl, .int .i64 f]), (.bool x4), x4, D4, F4, by rw [← hB16_32, ← hB15_31, ← hB14_30, ← hB13_29, ← hB12_28, ← hB11_27, ← hB10_26, ← hB9_25, ← hB8_24, ← hB7_23, ← hB6_22, ← hB5_21, ← hB4_20, ← hB3_19, ← hB2_18, ← hB1_17], M4.out, R4.out, T4⟩)
      | true =>
        rw [hsk] at HF
        have RI := Lib.hid (show paftP c.pg c.st (l.drop (j + 1)) ins kn D' = Rr from by have h := RI.out; unfold paftP at h; rw [hsk] at h; exact h)
        refine anyC_takeD (i := 6) (v := .bool false) (some 23) rfl rfl (by kernel_rfl) (by kernel_rfl) (by kernel_rfl) (fun c a w => FINQ c a _ _ w) (KR.out _ _ _ M3.out) (by exact yieldsC_not (wanted_none rfl) rfl (HF.get 0 rfl)) ?_
        replace HF := HF.put 23 (.bool false) (by decide) rfl
        generalize hB7_23 : Act.put _ _ _ = A at HF ⊢
        refine anyC_takeD (i := 7) (v := .bool false) (some 24) rfl rfl (by kernel_rfl) (by kernel_rfl) (by kernel_rfl) (fun c a w => FINQ c a _ _ w) (KR.out _ _ _ M3.out) (by exact yieldsC_moveG (wanted_none rfl) _ rfl (HF.get 0 rfl)) ?_
        replace HF := HF.put 24 (.bool false) (by decide) rfl
        generalize hB8_24 : Act.put _ _ _ = A at HF ⊢
        refine anyC_takeD (i := 8) (v := undef) (some 25) rfl rfl (by kernel_rfl) (by kernel_rfl) (by kernel_rfl) (fun c a w => FINQ c a _ _ w) (KR.out _ _ _ M3.out) (by exact yieldsC_skip (wanted_gF 7 true 24 rfl rfl (HF.at (by decide) 0 rfl))) ?_
        replace HF := HF.put 25 (undef) (by decide) rfl
        generalize hB9_25 : Act.put _ _ _ = A at HF ⊢
        refine anyC_takeD (i := 9) (v := undef) (some 26) rfl rfl (by kernel_rfl) (by kernel_rfl) (by kernel_rfl) (fun c a w => FINQ c a _ _ w) (KR.out _ _ _ M3.out) (by exact yieldsC_skip (wanted_gF 7 true 24 rfl rfl (HF.at (by decide) 1 rfl))) ?_
        replace HF := HF.put 26 (undef) (by decide) rfl
        generalize hB10_26 : Act.put _ _ _ = A at HF ⊢
        refine anyC_takeD (i := 10) (v := undef) (some 27) rfl rfl (by kernel_rfl) (by kernel_rfl) (by kernel_rfl) (fun c a w => FINQ c a _ _ w) (KR.out _ _ _ M3.out) (by exact yieldsC_skip (wanted_gF 7 true 24 rfl rfl (HF.at (by decide) 2 rfl))) ?_
        replace HF := HF.put 27 (undef) (by decide) rfl
        generalize hB11_27 : Act.put _ _ _ = A at HF ⊢
        refine anyC_takeD (i := 11) (v := undef) (some 28) rfl rfl (by kernel_rfl) (by kernel_rfl) (by kernel_rfl) (fun c a w => FINQ c a _ _ w) (KR.out _ _ _ M3.out) (by exact yieldsC_skip (wanted_gF 7 true 24 rfl rfl (HF.at (by decide) 3 rfl))) ?_
        replace HF := HF.put 28 (undef) (by decide) rfl
        generalize hB12_28 : Act.put _ _ _ = A at HF ⊢
        refine anyC_takeD (i := 12) (v := undef) (some 29) rfl rfl (by kernel_rfl) (by kernel_rfl) (by kernel_rfl) (fun c a w => FINQ c a _ _ w) (KR.out _ _ _ M3.out) (by exact yieldsC_skip (wanted_gF 7 true 24 rfl rfl (HF.at (by decide) 4 rfl))) ?_
        replace HF := HF.put 29 (undef) (by decide) rfl
        generalize hB13_29 : Act.put _ _ _ = A at HF ⊢
        refine anyC_takeD (i := 13) (v := undef) (some 30) rfl rfl (by kernel_rfl) (by kernel_rfl) (by kernel_rfl) (fun c a w => FINQ c a _ _ w) (KR.out _ _ _ M3.out) (by exact yieldsC_skip (wanted_gF 7 true 24 rfl rfl (HF.at (by decide) 5 rfl))) ?_
        replace HF := HF.put 30 (undef) (by decide) rfl
        generalize hB14_30 : Act.put _ _ _ = A at HF ⊢
        refine anyC_takeD (i := 14) (v := undef) (some 31) rfl rfl (by kernel_rfl) (by kernel_rfl) (by kernel_rfl) (fun c a w => FINQ c a _ _ w) (KR.out _ _ _ M3.out) (by exact yieldsC_skip (wanted_gF 7 true 24 rfl rfl (HF.at (by decide) 6 rfl))) ?_
        replace HF := HF.put 31 (undef) (by decide) rfl
        generalize hB15_31 : Act.put _ _ _ = A at HF ⊢
        refine anyC_takeD (i := 15) (v := (.bool false)) (some 32) rfl rfl (by kernel_rfl) (by kernel_rfl) (by kernel_rfl) (fun c a w => FINQ c a _ _ w) (KR.out _ _ _ M3.out) (by exact yieldsC_pickF (wanted_none rfl) rfl (HF.get 7 rfl) rfl) ?_
        replace HF := HF.put 32 ((.bool false)) (by decide) rfl
        generalize hB16_32 : Act.put _ _ _ = A at HF ⊢
        exact anyC_done (by kernel_rfl) (FINE _ _ ⟨(.slice (some ⟨gi, 0, none⟩) ins.length capi), (.slice (some ⟨s, o, none⟩) l.length capl), (.int .i64 (j : Int)), (.pointer (some ⟨s, o + j * 4, none⟩)), (.agg #[.int .i64 k, .int .i64 q, .int .i64 cl, .int .i64 f]), (.bool (skipB ins k q)), (.bool false), (.bool false), (undef), (undef), (undef), (undef), (undef), (undef), (undef), false, D', F', by rw [← hB16_32, ← hB15_31, ← hB14_30, ← hB13_29, ← hB12_28, ← hB11_27, ← hB10_26, ← hB9_25, ← hB8_24, ← hB7_23, ← hB6_22, ← hB5_21, ← hB4_20, ← hB3_19, ← hB2_18, ← hB1_17], M3.out, RI.out, (fun h => by cases h)⟩)
    · obtain rfl : j = l.length := by omega
      have d1 : decide ((l.length : Int) < (l.length : Int)) = false := by simp
      rw [List.drop_length] at hrest
      have FIN := Lib.hid (DONE.out gi capi wr D' F' ins hrest.symm MI.out)
      clear hrest
      go_wp2_with fail
      go_end0
      exact FIN.out
end Go.Proofs.YtogfikemodaepaaDoor

namespace Go.Proofs.YtogfikemodaepaaDoor
open Go.RowKit Go.Sort Go.Maps Go.Shelf
set_option linter.unusedVariables false
set_option linter.unusedSimpArgs false

theorem okW_app {n : Nat} {zs : List Int} {D : List KV} (hz : OkW zs) (h : InvD n D) (hn : zs.length = n) : OkW (applyD zs D) := by
  subst hn
  intro x hx
  obtain ⟨i, hi, rfl⟩ := List.getElem_of_mem hx
  have hl : i < zs.length := by rw [applyD_len] at hi; exact hi
  have h1 := word_all (zs := zs) h (a := (i : Int)) (by omega) (by omega)
  have h2 : wAt (applyD zs D) (i : Int) = (applyD zs D)[i] := by simp [wAt, List.getD, hi]
  rw [← h2]
  exact word_ok (okK_all hz) h.ok h1
theorem Cfg.Small.hdin {c : Cfg} (S : c.Small) {n : Nat} (hn : (n : Int) = c.words) : HdIn c.pg c.st n := by
  have h2 := userB S.ok; have h3 := S.ok.pg1
  have h5 : headsV c.st c.pg + 62 ≤ liveV c.cp c.pg c.st c.ca c.bi := by
    have := prod5B S.ok; have := S.ok.bi1
    unfold liveV binsV cachesV; omega
  have h6 : tableV c.st + chunksV c.pg + 5 * c.pg + 62 ≤ n := by
    rw [hn]
    show _ ≤ wordsV c.cp c.pg c.st c.ca c.bi
    unfold wordsV
    unfold headsV at h5
    omega
  exact { S.tbl hn with top5 := by omega, top62 := h6 }
theorem results_cttt {P : Program} {fn : Func} {p q u r : Tmp} {tp : TypeId} (h : fn.results = #[.cell p tp, .tmp q, .tmp u, .tmp r]) (tmps : Array Value) (w : World) (g : Nat) (v : Value) (hp : tmps.getD p undef = .pointer (some ⟨g, 0, none⟩))
    (h1 : (loadVar tp ⟨g, 0, none⟩).run P w = .ok v w) : (results fn tmps).run P w = .ok (.tuple #[v, tmps.getD q undef, tmps.getD u undef, tmps.getD r undef]) w := by
  have hp' : tmps[p]?.getD undef = .pointer (some ⟨g, 0, none⟩) := by simpa using hp
  simp [results, h, asAddr, hp', h1, Sem.run_bind, Result.andThen]
theorem rows2b (w : World) (x1 x2 y1 y2 : Array Value) (t1 t2 : TypeId) : ∃ W, (((w.alloc (.cells x1 t1)).alloc (.cells x2 t2)).setRow w.heap.size y1).setRow (w.heap.size + 1) y2 = W ∧
    ((w.alloc (.cells x1 t1)).alloc (.cells x2 t2)).heap[w.heap.size]? = some (.cells x1 t1 (0, 0)) ∧ (((w.alloc (.cells x1 t1)).alloc (.cells x2 t2)).setRow w.heap.size y1).heap[w.heap.size + 1]? = some (.cells x2 t2 (0, 0)) ∧
    W.heap[w.heap.size]? = some (.cells y1 t1 (0, 0)) ∧ W.heap[w.heap.size + 1]? = some (.cells y2 t2 (0, 0)) ∧ More w W ∧ W.heap.size = w.heap.size + 2 := by
  obtain ⟨W, e, h1, h2, h3, h4, h5⟩ := rows2 w x1 x2 y1 y2 t1 t2
  exact ⟨W, e, h1, h2, h3, by rw [← e]; exact setRow_heap _ _ _ _ _ _ h2, h4, by rw [← e]; simp⟩
/-- What after answers. -/
def After10 (w : World) (d : Cfg) (n : Nat) (zs ins : List Int) (e : Ending) (w' : World) : Prop :=
  ∃ gz cz gi ci, e = .returned (.tuple #[.agg d.arr, .slice (some ⟨gz, 0, none⟩) n cz, .slice (some ⟨gi, 0, none⟩) ins.length ci, .bool true]) ∧ Ws w' gz cz zs ∧ Ws w' gi ci ins ∧ w.heap.size ≤ gz ∧ w.heap.size ≤ gi ∧ More w w'
theorem pa_call {c : Cfg} (R : c.Ok) (zs : List Int) (H : HdIn c.pg c.st zs.length) (hlen : zs.length ≤ 1000) (hz : OkW zs) (w : World) (g1 g2 g3 g4 : Nat) (a : Option Addr) (cap : Nat) (al : Option Addr) (capl : Nat) (l : List Ins4) (hll : l.length ≤ 1000) (hY : PaY c al capl l g1 g2 g3 g4 w) (ne1 : g1 ≠ g2) (ne3 : g3 ≠ g2) (ne4 : g4 ≠ g2) (nea : l ≠ [] → ∀ k, leads al k → k ≠ g2) (hw : IsWords w a zs) :
    OkW (paftV c.pg c.st l (zeros c.pg.toNat) zs).2 ∧ Calls Tryd.prog 9 #[.slice a zs.length cap, .func (.func 40) #[] #[.pointer (some ⟨g1, 0, none⟩), .pointer (some ⟨g2, 0, none⟩), .pointer (some ⟨g3, 0, none⟩), .pointer (some ⟨g4, 0, none⟩)]] w (fun e w' => ∃ v1 v2 b, e = .returned (.tuple #[v1, v2, .int .i64 0]) ∧ Rw w.heap.size w' v1 (paftV c.pg c.st l (zeros c.pg.toNat) zs).2 ∧ Turned (fun k => k = g2) w w' ∧ PaC c al capl l g1 g3 g4 w' ∧ w.heap.size ≤ b ∧ PaX g2 (paftV c.pg c.st l (zeros c.pg.toNat) zs).1 b w') := by
  have l1 := lt_of_heap hY.k.h1
  have l3 := lt_of_heap hY.k.h3
  have l4 := lt_of_heap hY.k.h4
  have l2 : g2 < w.heap.size := by obtain ⟨v, h⟩ := hY.h2; exact lt_of_heap h
  have la : l ≠ [] → ∀ k, leads al k → k < w.heap.size := fun ne => hY.k.ins.lt ne
  have G := good_paft H l (zeros c.pg.toNat)
  obtain ⟨D, hD, ha, hi⟩ := flat_paft H l (zeros c.pg.toNat) zs [] rfl hz (invD_nil _)
  have e0 : applyD zs [] = zs := rfl
  rw [e0] at hD ha
  obtain ⟨K', hK', hd⟩ := doP_run (sound_paft c.pg c.st l _) G hz hD (zs.length + 1) [] (okKn_nil _) (by simp)
  refine ⟨by rw [← ha]; exact okW_app hz hi rfl, ?_⟩
  rw [ha] at hd
  generalize hI : (paftV c.pg c.st l (zeros c.pg.toNat) zs).1 = insF at hD
  generalize (paftV c.pg c.st l (zeros c.pg.toNat) zs).2 = xs at hd ⊢
  have M := doX_ok a cap zs (fun K => ranOf (paftP c.pg c.st l (zeros c.pg.toNat) (look K) [])) (some (xs, K')) zs.length w hw hlen hz (fine_of G hz (by omega)) (by omega) hd 40 #[.pointer (some ⟨g1, 0, none⟩), .pointer (some ⟨g2, 0, none⟩), .pointer (some ⟨g3, 0, none⟩), .pointer (some ⟨g4, 0, none⟩)] (fun k => k = g2)
    (fun w' => PaY c al capl l g1 g2 g3 g4 w') (PaX g2 insF) (fun k q => by subst q; exact l2)
    (fun w' w'' y t => by obtain ⟨y1, v, y2⟩ := y; exact ⟨y1.keep t (by omega) (by omega) (by omega) (fun ne k hk q => by have := la ne k hk; omega), v, (t.block g2 (lt_of_heap y2) (by omega)).trans y2⟩)
    (fun b w' w'' hb x t => by obtain ⟨gi, ci, x1, x2, x3⟩ := x; exact ⟨gi, ci, (t.block g2 (lt_of_heap x1) (by omega)).trans x1, x2.keep t (by omega), x3⟩) hY (enters_of Tryd.func40 (by kernel_rfl) rfl)
    (fun K hK W F p t yy hv hF => pa_clo R H (by omega) F p g1 g2 g3 g4 (look K) al capl l hll insF W hv (okK_of hK hz) yy (fun q => by have := hF _ q; omega) (fun q => by have := hF _ q; omega) (fun q => by have := hF _ q; omega) (fun q => by have := hF _ q; omega) (fun ne k hk q => by have := hF _ q; have := la ne k hk; omega) ne1 ne3 ne4 nea
      (fun z D' e => (sound_same (sound_paft _ _ _ _) hK hD e).1))
  refine M.mono ?_
  rintro e w' ⟨v1, v2, b, rfl, r1, _, t, y, hb, x⟩
  exact ⟨v1, v2, b, rfl, r1, t, y.k, hb, x⟩

def AftC (d : Cfg) (g1 g2 gi m ci : Nat) (W : World) : Prop := W.heap[g1]? = some (.cells d.arr 28 (0, 0)) ∧ W.heap[g2]? = some (.cells #[.slice (some ⟨gi, 0, none⟩) m ci] 34 (0, 0))
theorem AG.skip2 {m : Nat} {a : Act} {L : List (Nat × Value)} (h : AG m a L) (v : Value) : AG m (a.put none v) L := h
set_option maxRecDepth 100000 in
set_option maxHeartbeats 4000000 in
theorem pa_ok (y0 y1 y2 y3 y4 y5 y6 y7 y8 y9 y10 : Int) (f0 : (Lit.int .i64 y0).wf = true) (f1 : (Lit.int .i64 y1).wf = true) (f2 : (Lit.int .i64 y2).wf = true) (f3 : (Lit.int .i64 y3).wf = true) (f4 : (Lit.int .i64 y4).wf = true) (f5 : (Lit.int .i64 y5).wf = true) (f6 : (Lit.int .i64 y6).wf = true) (f7 : (Lit.int .i64 y7).wf = true) (f8 : (Lit.int .i64 y8).wf = true) (f9 : (Lit.int .i64 y9).wf = true) (f10 : (Lit.int .i64 y10).wf = true) (l : List Ins4) (hll : l.length ≤ 1000) :
    ∃ (d : Cfg) (n : Nat) (G : Int → List Int) (zs ins : List Int), d.Small ∧ (n : Int) = d.words ∧ zs.length = n ∧ OkW zs ∧ Ln d.pg d.st G zs ∧ InL d.pg d.st G ins ∧ Hid (∀ (a : Option Addr) (capl : Nat) (w : World), IsIns4 w a l → Calls Tryd.prog 19 #[.agg #[.int .i64 y0, .int .i64 y1, .int .i64 y2, .int .i64 y3, .int .i64 y4, .int .i64 y5, .int .i64 y6, .int .i64 y7, .int .i64 y8, .int .i64 y9, .int .i64 y10], .slice a l.length capl] w (After10 w d n zs ins)) := by
  obtain ⟨d, S, BEG⟩ := begin_at y0 y1 y2 y3 y4 y5 y6 y7 y8 y9 y10 f0 f1 f2 f3 f4 f5 f6 f7 f8 f9 f10
  have wds := S.words
  obtain ⟨n, hn⟩ : ∃ n : Nat, (n : Int) = d.words := ⟨d.words.toNat, by omega⟩
  have H := S.hdin hn
  have hz := zeros_len n
  obtain ⟨G, L, I, hl⟩ := aft_ln H l (fun _ => []) (zeros d.pg.toNat) (zeros n) (ln_zeros H) (in_zeros H) hz
  have ok := fun (w : World) (g1 g2 g3 g4 : Nat) (a : Option Addr) (cap : Nat) (al : Option Addr) (capl : Nat) => pa_call (c := d) S.ok (zeros n) (by rw [hz]; exact H) (by rw [hz]; omega) (okW_zeros n) w g1 g2 g3 g4 a cap al capl l hll
  have okw : OkW (paftV d.pg d.st l (zeros d.pg.toNat) (zeros n)).2 := by
    obtain ⟨D, hD, ha, hi⟩ := flat_paft H l (zeros d.pg.toNat) (zeros n) [] hz (okW_zeros n) (invD_nil _)
    have ha2 : applyD (zeros n) D = (paftV d.pg d.st l (zeros d.pg.toNat) (zeros n)).2 := ha
    rw [← ha2]; exact okW_app (okW_zeros n) hi hz
  refine ⟨d, n, G, _, _, S, hn, hl, okw, L, I, Lib.hid fun a capl w hli => ?_⟩
  have EL := Lib.hid hl
  have IL := Lib.hid I.len
  have OK := Lib.hid ok
  have HZ := Lib.hid hz
  have hpg1 := S.ok.pg1
  have hpg2 := S.ok.pg2
  clear f0 f1 f2 f3 f4 f5 f6 f7 f8 f9 f10 okw ok hz H L I hl
  generalize (paftV d.pg d.st l (zeros d.pg.toNat) (zeros n)).1 = ins at IL OK ⊢
  generalize (paftV d.pg d.st l (zeros d.pg.toNat) (zeros n)).2 = xs at EL OK ⊢
  obtain ⟨w3, e3, ha, hb, hc, m3, s3⟩ := entry3 w (.cells #[.int .i64 y0, .int .i64 y1, .int .i64 y2, .int .i64 y3, .int .i64 y4, .int .i64 y5, .int .i64 y6, .int .i64 y7, .int .i64 y8, .int .i64 y9, .int .i64 y10] 23) (.cells #[.slice a l.length capl] 24) (.cells zero24 28)
  have HA := Lib.hid ha
  have HB := Lib.hid hb
  have HC := Lib.hid hc
  have M3 := Lib.hid m3
  have HL := Lib.hid (hli.more m3)
  have LA : l ≠ [] → ∀ k, leads a k → k < w.heap.size := fun ne => hli.lt ne
  clear ha hb hc m3 hli
  go_enter Tryd.func19, Tryd.ntmps19
  go_wp2_with (refine wpList_load_row rfl 23 _ rfl w.heap.size rfl 23 _ _ _ HA.out Tryd.underlying23 rfl (by kernel_rfl) ?_)
  clear e3
  refine (BEG.out _).mono ?_
  rintro e w5 ⟨g, n', hn', rfl, hrw, m5⟩
  obtain rfl : n' = n := by omega
  obtain ⟨w6, e6, b1, b2, b3, b4, m6, s6⟩ := rows2b w5 zero24 zero11 d.arr d.cells 28 30
  have wz : Ws w5 g n' (zeros n') := Ws.of_rw (base := w3.heap.size) (by rw [HZ.out]; exact hrw)
  have B1 := Lib.hid b1
  have B2 := Lib.hid b2
  have m36 := m5.trans m6
  obtain ⟨m, hm⟩ : ∃ m : Nat, d.pg = (m : Int) := ⟨d.pg.toNat, by omega⟩
  have hmk := fun w => run_make_where m d.pg hm (by omega) w
  have cp : w6.cell? ⟨w5.heap.size + 1, 2, none⟩ = some (.int .i64 d.pg) := by simp [World.cell?, b4, Cfg.cells]
  obtain ⟨w7, e7, hr7, m7, s7⟩ := entry1 w6 (.cells (rowOf (zeros m)) 3)
  obtain ⟨w8, e8, hb8, m8, s8⟩ := entry1 w7 (.cells #[.slice none 0 0] 34)
  obtain ⟨c8, f8, l8⟩ := box_cells hb8
  rw [s7] at hb8 c8 f8 l8
  obtain ⟨w9, e9⟩ : ∃ w9, w8.setCell ⟨w6.heap.size + 1, 0, none⟩ (.slice (some ⟨w6.heap.size, 0, none⟩) m m) = w9 := ⟨_, rfl⟩
  have hb9 : w9.heap[w6.heap.size + 1]? = some (.cells #[.slice (some ⟨w6.heap.size, 0, none⟩) m m] 34 (0, 0)) := by rw [← e9]; exact setCell_one hb8 _
  have t9 : Turned (fun k => k = w6.heap.size + 1) w8 w9 := by rw [← e9]; exact Turned.setCell (Turned.refl _ w8) _ _ (fun _ => rfl)
  have up : ∀ b o, w6.heap[b]? = some o → w9.heap[b]? = some o := fun b o hb => (t9.block _ (lt_of_heap (m8.block (m7.block hb))) (by have := lt_of_heap hb; omega)).trans (m8.block (m7.block hb))
  have m69 : More w6 w9 := Turned.mono (turned_own (F := fun _ => False) (m7.trans m8) t9 (fun b e => .inr (by omega))) (fun _ _ q => q)
  have RC := Lib.hid (up _ _ (m36.block HC.out))
  have LC := Lib.hid (up _ _ b3)
  have WZ := Lib.hid ((wz.more m6).more m69)
  have M9 := Lib.hid ((M3.out.trans m36).trans m69)
  have HL9 := Lib.hid ((HL.out.more m36).more m69)
  have h35 := m5.size
  have h9s : w9.heap.size = w6.heap.size + 2 := by rw [← e9]; simp; omega
  have h6s : w5.heap.size + 2 ≤ w6.heap.size := by omega
  have h3s : w.heap.size + 3 ≤ w3.heap.size := by omega
  have DO := (OK.out w9 (w5.heap.size + 1) (w6.heap.size + 1) (w.heap.size + 1) w5.heap.size (some ⟨g, 0, none⟩) n' a capl ⟨⟨up _ _ b4, up _ _ (m36.block HB.out), LC.out, HL9.out⟩, _, hb9⟩ (by omega) (by omega) (by omega) (fun ne k hk q => by have := LA ne k hk; omega) WZ.out.words).2
  rw [HZ.out] at DO
  have DO := Lib.hid DO
  clear b1 b2 b3 b4 hrw wz m5 m6 m36 BEG OK HA HB HC HL hr7 m7 hb8 m8 hb9 t9 up m69 hm s6 s3
  go_wp2_with (first
    | (refine wpList_store_row rfl 28 _ _ rfl w5.heap.size _ rfl rfl 28 zero24 B1.out (by kernel_rfl) rfl (arr_one d) ?_)
    | (refine wpList_store_row rfl 30 _ _ rfl (w5.heap.size + 1) _ rfl rfl 30 zero11 B2.out (by kernel_rfl) rfl (cells_one d) ?_))
  clear e6 e7 e8 e9 hmk
  refine DO.out.mono ?_
  rintro e w10 ⟨v1, v2, b, rfl, hr, t10, hC, hbb, ⟨gi, ci, hx1, hx2, hx3⟩⟩
  have t10s := t10.size
  obtain ⟨av, cv, rfl, hrd⟩ := hr.reads
  obtain ⟨gz, rfl, hb1, hb2, _⟩ := hrd 0 (by rw [EL.out]; omega)
  have NW := Lib.hid (Ws.of_rw hr)
  rw [EL.out]
  have LC7 := Lib.hid hC.h4
  have RC7 := Lib.hid ((t10.block _ (lt_of_heap RC.out) (by have := lt_of_heap RC.out; omega)).trans RC.out)
  have M10 : Hid (More w w10) := Lib.hid (Turned.mono (turned_own (F := fun _ => False) M9.out t10 (fun b e => .inr (by omega))) (fun _ _ q => q))
  have XI := Lib.hid hx2
  have HX := Lib.hid hx1
  have hgz : w.heap.size ≤ gz := by omega
  have hgz2 : w9.heap.size ≤ gz := hb1
  have lr := lt_of_heap RC.out
  clear hr hrd hb1 hb2 DO hx1 hx2 t10 hC
  have e1 : ((n' : Int) == (n' : Int)) = true := by simp
  go_wp2_with fail
  have KC : Hid (∀ W, More w10 W → AftC d w5.heap.size (w6.heap.size + 1) gi ins.length ci W) := Lib.hid fun W m => ⟨m.block LC7.out, m.block HX.out⟩
  have KS : Hid (∀ W, More w10 W → AftC d w5.heap.size (w6.heap.size + 1) gi ins.length ci (W.setRow (w.heap.size + 2) d.arr)) := Lib.hid fun W m => ⟨(setRow_other _ _ _ _ (by omega)).trans (m.block LC7.out), (setRow_other _ _ _ _ (by omega)).trans (m.block HX.out)⟩
  refine wp_region_anyC (AftC d w5.heap.size (w6.heap.size + 1) gi ins.length ci) (by kernel_rfl) ?_
  change anyC _ _ _ _ _ _ _ _ (w10.drewN 1)
  have MR := Lib.hid ((More.refl w10).drewN 1)
  generalize w10.drewN 1 = wr at MR ⊢
  generalize hA : Act.mk _ _ = A
  have HF : AG 44 A [(4, .pointer (some ⟨w.heap.size + 2, 0, none⟩)), (8, .pointer (some ⟨w5.heap.size, 0, none⟩)), (11, .pointer (some ⟨w6.heap.size + 1, 0, none⟩)), (12, .slice (some ⟨gz, 0, none⟩) n' cv), (14, .int .i64 0), (10, .slice (some ⟨g, 0, none⟩) n' n')] := by
    rw [← hA]
    refine ⟨⟨Nat.le_of_ble_eq_true rfl, rfl⟩, ?_⟩
    intro z hz; simp only [List.mem_cons, List.not_mem_nil, or_false] at hz; rcases hz with rfl | rfl | rfl | rfl | rfl | rfl <;> rfl
  refine anyC_start (fun a W => ∃ (u32 u33 u34 u35 u36 u37 u38 u39 u40 u41 u42 u43 : Value) (w11 : World), a = (Act.put (Act.put (Act.put (Act.put (Act.put (Act.put (Act.put (Act.put (Act.put (Act.put (Act.put (Act.put (Act.put (Act.put (Act.put (Act.put A (some 32) u32) (some 33) u33) (some 34) u34) (some 35) u35) (some 36) u36) (some 37) u37) (some 38) u38) (some 39) u39) (some 40) u40) (some 41) u41) (some 42) u42) (some 43) u43) none undef) (some 5) (.slice (some ⟨gz, 0, none⟩) n' cv)) (some 6) (.slice (some ⟨gi, 0, none⟩) ins.length ci)) (some 7) (.bool true)) ∧ More w10 w11 ∧ W = w11.setRow (w.heap.size + 2) d.arr) (fun _ => False) [] (fun a W hd h => h.elim) (fun _ _ _ _ _ h => h) ?_ ?_
  · skip
    rintro a wb ⟨u32, u33, u34, u35, u36, u37, u38, u39, u40, u41, u42, u43, w11, rfl, m11, rfl⟩
    rw [← hA]
    have RC8 := Lib.hid (m11.block RC7.out)
    have N8 := Lib.hid (NW.out.more m11)
    have I8 := Lib.hid (XI.out.more m11)
    have M11 := Lib.hid (M10.out.trans m11)
    clear m11 HF hA MR
    go_simp
    go_wp2_with fail
    have tR := Turned.setRow (S := fun b => b = w.heap.size + 2) (Turned.refl _ w11) (w.heap.size + 2) d.arr (fun _ => rfl)
    refine bodyPost_ret (results_cttt Tryd.results19 _ _ (w.heap.size + 2) (.agg d.arr) rfl (run_loadVar_row _ _ _ _ _ _ _ (setRow_heap _ _ _ _ _ _ RC8.out) Tryd.underlying28 rfl (by kernel_rfl))) rfl ⟨gz, cv, gi, ci, rfl, N8.out.keep tR (by omega), I8.out.keep tR (by omega), hgz, by omega, ?_⟩
    exact Turned.mono (turned_own (F := fun _ => False) M11.out tR (fun b q => .inr (by omega))) (fun _ _ q => q)
  intro QQ FINE FIND FINQ
  clear hA
  refine anyC_takeD (i := 0) (v := .agg d.arr) (some 32) rfl rfl (by kernel_rfl) (by kernel_rfl) (by kernel_rfl) (fun c a w => FINQ c a _ _ w) (KC.out wr MR.out) (by exact yieldsC_row (C := (AftC d w5.heap.size (w6.heap.size + 1) gi ins.length ci)) (wanted_none rfl) 28 _ rfl w5.heap.size (HF.get 1 rfl) 28 _ _ _ (fun W hW => hW.1) Tryd.underlying28 rfl (by kernel_rfl)) ?_
  replace HF := HF.put 32 (.agg d.arr) (by decide) rfl
  generalize hB1_32 : Act.put _ _ _ = A at HF ⊢
  refine anyC_takeD (i := 1) (v := .slice (some ⟨gz, 0, none⟩) n' cv) (some 33) rfl rfl (by kernel_rfl) (by kernel_rfl) (by kernel_rfl) (fun c a w => FINQ c a _ _ w) (KC.out wr MR.out) (by exact yieldsC_moveG (wanted_none rfl) _ rfl (HF.get 4 rfl)) ?_
  replace HF := HF.put 33 (.slice (some ⟨gz, 0, none⟩) n' cv) (by decide) rfl
  generalize hB2_33 : Act.put _ _ _ = A at HF ⊢
  refine anyC_takeD (i := 2) (v := .slice (some ⟨gi, 0, none⟩) ins.length ci) (some 34) rfl rfl (by kernel_rfl) (by kernel_rfl) (by kernel_rfl) (fun c a w => FINQ c a _ _ w) (KC.out wr MR.out) (by exact yieldsC_cell (C := (AftC d w5.heap.size (w6.heap.size + 1) gi ins.length ci)) (wanted_none rfl) 34 _ rfl (w6.heap.size + 1) 0 (HF.get 4 rfl) (.slice (some ⟨gi, 0, none⟩) ins.length ci) _ Tryd.underlying34 rfl (fun W hW => (box_cells hW.2).1)) ?_
  replace HF := HF.put 34 (.slice (some ⟨gi, 0, none⟩) ins.length ci) (by decide) rfl
  generalize hB3_34 : Act.put _ _ _ = A at HF ⊢
  refine anyC_takeD (i := 3) (v := .int .i64 0) (some 35) rfl rfl (by kernel_rfl) (by kernel_rfl) (by kernel_rfl) (fun c a w => FINQ c a _ _ w) (KC.out wr MR.out) (by exact yieldsC_moveG (wanted_none rfl) _ rfl (HF.get 7 rfl)) ?_
  replace HF := HF.put 35 (.int .i64 0) (by decide) rfl
  generalize hB4_35 : Act.put _ _ _ = A at HF ⊢
  refine anyC_takeD (i := 4) (v := .bool true) (some 36) rfl rfl (by kernel_rfl) (by kernel_rfl) (by kernel_rfl) (fun c a w => FINQ c a _ _ w) (KC.out wr MR.out) (by exact (Or.inl ⟨(wanted_none rfl), fun W hW => by have h5 := (HF.getD 0 rfl); go_simp⟩)) ?_
  replace HF := HF.put 36 (.bool true) (by decide) rfl
  generalize hB5_36 : Act.put _ _ _ = A at HF ⊢
  refine anyC_takeD (i := 5) (v := .bool true) (some 37) rfl rfl (by kernel_rfl) (by kernel_rfl) (by kernel_rfl) (fun c a w => FINQ c a _ _ w) (KC.out wr MR.out) (by exact yieldsC_moveG (wanted_none rfl) _ rfl (HF.get 0 rfl)) ?_
  replace HF := HF.put 37 (.bool true) (by decide) rfl
  generalize hB6_37 : Act.put _ _ _ = A at HF ⊢
  refine anyC_takeD (i := 6) (v := .slice (some ⟨gz, 0, none⟩) n' cv) (some 38) rfl rfl (by kernel_rfl) (by kernel_rfl) (by kernel_rfl) (fun c a w => FINQ c a _ _ w) (KC.out wr MR.out) (by exact yieldsC_moveG (wanted_g 5 true 37 rfl rfl (HF.at (by decide) 0 rfl)) _ rfl (HF.get 9 rfl)) ?_
  replace HF := HF.put 38 (.slice (some ⟨gz, 0, none⟩) n' cv) (by decide) rfl
  generalize hB7_38 : Act.put _ _ _ = A at HF ⊢
  refine anyC_takeD (i := 7) (v := .int .i64 (n' : Int)) (some 39) rfl rfl (by kernel_rfl) (by kernel_rfl) (by kernel_rfl) (fun c a w => FINQ c a _ _ w) (KC.out wr MR.out) (by exact (Or.inl ⟨(wanted_g 5 true 37 rfl rfl (HF.at (by decide) 1 rfl)), fun W hW => by have h5 := (HF.getD 0 rfl); go_simp⟩)) ?_
  replace HF := HF.put 39 (.int .i64 (n' : Int)) (by decide) rfl
  generalize hB8_39 : Act.put _ _ _ = A at HF ⊢
  refine anyC_takeD (i := 8) (v := .slice (some ⟨g, 0, none⟩) n' n') (some 40) rfl rfl (by kernel_rfl) (by kernel_rfl) (by kernel_rfl) (fun c a w => FINQ c a _ _ w) (KC.out wr MR.out) (by exact yieldsC_moveG (wanted_g 5 true 37 rfl rfl (HF.at (by decide) 2 rfl)) _ rfl (HF.get 13 rfl)) ?_
  replace HF := HF.put 40 (.slice (some ⟨g, 0, none⟩) n' n') (by decide) rfl
  generalize hB9_40 : Act.put _ _ _ = A at HF ⊢
  refine anyC_takeD (i := 9) (v := .int .i64 (n' : Int)) (some 41) rfl rfl (by kernel_rfl) (by kernel_rfl) (by kernel_rfl) (fun c a w => FINQ c a _ _ w) (KC.out wr MR.out) (by exact (Or.inl ⟨(wanted_g 5 true 37 rfl rfl (HF.at (by decide) 3 rfl)), fun W hW => by have h5 := (HF.getD 0 rfl); go_simp⟩)) ?_
  replace HF := HF.put 41 (.int .i64 (n' : Int)) (by decide) rfl
  generalize hB10_41 : Act.put _ _ _ = A at HF ⊢
  refine anyC_takeD (i := 10) (v := .bool true) (some 42) rfl rfl (by kernel_rfl) (by kernel_rfl) (by kernel_rfl) (fun c a w => FINQ c a _ _ w) (KC.out wr MR.out) (by exact yieldsC_eqI (wanted_g 5 true 37 rfl rfl (HF.at (by decide) 4 rfl)) rfl (HF.get 2 rfl) (HF.get 0 rfl) true (by simp)) ?_
  replace HF := HF.put 42 (.bool true) (by decide) rfl
  generalize hB11_42 : Act.put _ _ _ = A at HF ⊢
  refine anyC_takeD (i := 11) (v := .bool true) (some 43) rfl rfl (by kernel_rfl) (by kernel_rfl) (by kernel_rfl) (fun c a w => FINQ c a _ _ w) (KC.out wr MR.out) (by exact yieldsC_pickT (wanted_none rfl) rfl (HF.get 5 rfl) (HF.get 0 rfl)) ?_
  replace HF := HF.put 43 (.bool true) (by decide) rfl
  generalize hB12_43 : Act.put _ _ _ = A at HF ⊢
  refine anyC_oneK (i := 12) none (by kernel_rfl) rfl (wanted_none rfl) rfl (fun K hK => ?_)
  refine wp_store_row 28 _ _ rfl (w.heap.size + 2) _ (HF.get 12 rfl) (HF.get 11 rfl) 28 zero24 (MR.out.block RC7.out) (by kernel_rfl) rfl (arr_one d) ?_
  have CS := KS.out wr MR.out
  refine hK _ _ CS ?_
  clear hK K
  replace HF := HF.skip2 undef
  generalize hBN : Act.put _ _ _ = A at HF ⊢
  refine anyC_takeD (i := 13) (v := .slice (some ⟨gz, 0, none⟩) n' cv) (some 5) rfl rfl (by kernel_rfl) (by kernel_rfl) (by kernel_rfl) (fun c a w => FINQ c a _ _ w) CS (by exact yieldsC_assign (wanted_none rfl) _ rfl (HF.get 10 rfl)) ?_
  replace HF := HF.put 5 (.slice (some ⟨gz, 0, none⟩) n' cv) (by decide) rfl
  generalize hB13_5 : Act.put _ _ _ = A at HF ⊢
  refine anyC_takeD (i := 14) (v := .slice (some ⟨gi, 0, none⟩) ins.length ci) (some 6) rfl rfl (by kernel_rfl) (by kernel_rfl) (by kernel_rfl) (fun c a w => FINQ c a _ _ w) CS (by exact yieldsC_assign (wanted_none rfl) _ rfl (HF.get 10 rfl)) ?_
  replace HF := HF.put 6 (.slice (some ⟨gi, 0, none⟩) ins.length ci) (by decide) rfl
  generalize hB14_6 : Act.put _ _ _ = A at HF ⊢
  refine anyC_takeD (i := 15) (v := .bool true) (some 7) rfl rfl (by kernel_rfl) (by kernel_rfl) (by kernel_rfl) (fun c a w => FINQ c a _ _ w) CS (by exact yieldsC_assign (wanted_none rfl) _ rfl (HF.get 2 rfl)) ?_
  replace HF := HF.put 7 (.bool true) (by decide) rfl
  generalize hB15_7 : Act.put _ _ _ = A at HF ⊢
  exact anyC_done (by kernel_rfl) (FINE _ _ ⟨(.agg d.arr), (.slice (some ⟨gz, 0, none⟩) n' cv), (.slice (some ⟨gi, 0, none⟩) ins.length ci), (.int .i64 0), (.bool true), (.bool true), (.slice (some ⟨gz, 0, none⟩) n' cv), (.int .i64 (n' : Int)), (.slice (some ⟨g, 0, none⟩) n' n'), (.int .i64 (n' : Int)), (.bool true), (.bool true), wr, by rw [← hB15_7, ← hB14_6, ← hB13_5, ← hBN, ← hB12_43, ← hB11_42, ← hB10_41, ← hB9_40, ← hB8_39, ← hB7_38, ← hB6_37, ← hB5_36, ← hB4_35, ← hB3_34, ← hB2_33, ← hB1_32], MR.out, rfl⟩)
end Go.Proofs.YtogfikemodaepaaDoor

namespace Go.Proofs.YtogfikemodaepaaDoor
open Go.RowKit Go.Sort Go.Maps Go.Shelf
set_option linter.unusedVariables false
set_option linter.unusedSimpArgs false

def live10P (pg st : Int) : Prg (List Int × List Int) := bindP (plLinkP pg st 3 0 2) (fun _ => bindP (plLinkP pg st 5 0 2) (fun _ => bindP (plListP pg st 0 2) (fun a => bindP (plUnlinkP pg st 5 0 2) (fun _ => bindP (plListP pg st 0 2) (fun b => pureP (a, b))))))
theorem sound_live10 (pg st : Int) : Sound (live10P pg st) := sound_bind (sound_plLink _ _ _ _ _) (fun _ => sound_bind (sound_plLink _ _ _ _ _) (fun _ => sound_bind (sound_plList _ _ _ _) (fun _ => sound_bind (sound_plUnlink _ _ _ _ _) (fun _ => sound_bind (sound_plList _ _ _ _) (fun _ => sound_pure _)))))
theorem good_live10 {pg st : Int} {n : Nat} (H : HdIn pg st n) : Good n (fun _ => True) (live10P pg st) := good_bind (good_plLink H _ _ _) (fun _ _ => good_bind (good_plLink H _ _ _) (fun _ _ => good_bind (good_plList H _ _) (fun _ _ => good_bind (good_plUnlink H _ _ _) (fun _ _ => good_bind (good_plList H _ _) (fun _ _ => good_pure n trivial)))))
/-- A box of a slice of integers. -/
def BoxV (g : Nat) (w : World) (v : Value) : Prop := w.heap[g]? = some (.cells #[v] 31 (0, 0))
def BoxS (b g : Nat) (w : World) (xs : List Int) : Prop := ∃ v, BoxV g w v ∧ Rw b w v xs
theorem BoxS.keep {b g : Nat} {w w' : World} {xs : List Int} {S : Nat → Prop} (h : BoxS b g w xs) (t : Turned S w w') (hg : ¬ S g) (hs : ∀ k, b ≤ k → ¬ S k) : BoxS b g w' xs := by
  obtain ⟨v, h1, h2⟩ := h
  exact ⟨v, (t.block g (lt_of_heap h1) hg).trans h1, h2.keepT t (fun k q => hs k (h2.own q).1)⟩
structure L10Y (c : Cfg) (g1 g2 g3 : Nat) (w : World) : Prop where
  h1 : w.heap[g1]? = some (.cells c.arr 28 (0, 0))
  h2 : ∃ v, BoxV g2 w v
  h3 : ∃ v, BoxV g3 w v
theorem set_oth {w : World} {g b : Nat} {v : Value} {o : Obj} (h : w.heap[b]? = some o) (hne : b ≠ g) : (w.setCell ⟨g, 0, none⟩ v).heap[b]? = some o :=
  ((Turned.setCell (S := fun k => k = g) (Turned.refl _ w) ⟨g, 0, none⟩ v (fun _ => rfl)).block b (lt_of_heap h) hne).trans h
theorem OwnR.set {b g : Nat} {F : Nat → Prop} {w : World} {v u : Value} {xs : List Int} (h : OwnR b F w v xs) (hg : g < b) : OwnR b F (w.setCell ⟨g, 0, none⟩ u) v xs := by
  have t : Turned (fun k => k = g) w (w.setCell ⟨g, 0, none⟩ u) := Turned.setCell (Turned.refl _ w) ⟨g, 0, none⟩ u (fun _ => rfl)
  exact ⟨h.1.keepT t (fun k q e => by have := (h.2 k q).2.1; omega), fun k q => ⟨(h.2 k q).1, (h.2 k q).2.1, by have := (h.2 k q).2.2; simpa [World.setCell] using this⟩⟩

set_option maxRecDepth 100000 in
set_option maxHeartbeats 2000000 in
theorem live10_clo {c : Cfg} (R : c.Ok) {n : Nat} (H : HdIn c.pg c.st n) (hn : n ≤ 10000) (F : Nat → Prop) (p g1 g2 g3 : Nat) (kn : Int → Option Int) (W : World) (hv : ViewAt W F p kn []) (hk : OkK kn) (hY : L10Y c g1 g2 g3 W) (n1 : ¬ F g1) (n2 : ¬ F g2) (n3 : ¬ F g3) (hd : g1 ≠ g2 ∧ g1 ≠ g3 ∧ g2 ≠ g3) (a0 b0 : List Int)
    (ht : ∀ x D, live10P c.pg c.st kn [] = .ok x D → x = (a0, b0)) :
    Calls Tryd.prog 28 #[.pointer (some ⟨p, 0, none⟩), .pointer (some ⟨g1, 0, none⟩), .pointer (some ⟨g2, 0, none⟩), .pointer (some ⟨g3, 0, none⟩)] W (WentY W F (fun b => b = g2 ∨ b = g3) (fun w' => L10Y c g1 g2 g3 w') (fun w' => BoxS W.heap.size g2 w' a0 ∧ BoxS W.heap.size g3 w' b0) p kn (ranOf (live10P c.pg c.st kn []))) := by
  obtain ⟨Rr, hR⟩ : ∃ Rr, live10P c.pg c.st kn [] = Rr := ⟨_, rfl⟩
  rw [hR] at ht ⊢
  obtain ⟨h1, ⟨z2, h2⟩, ⟨z3, h3⟩⟩ := hY
  have l1 := lt_of_heap h1
  have l2 := lt_of_heap h2
  have l3 := lt_of_heap h3
  have H1 := Lib.hid h1
  have HK := Lib.hid hk
  have HR := Lib.hid R
  have HH := Lib.hid H
  have HRr := Lib.hid hR
  have M0 : Hid (MidV W W F (fun b => b = g2 ∨ b = g3) p kn n [] F) := Lib.hid (MidV.begin hv (invD_nil n))
  have B0 := Lib.hid (And.intro h2 h3)
  have nf2 : ∀ D wr {F'}, MidV W wr F (fun b => b = g2 ∨ b = g3) p kn n D F' → ¬ F' g2 := fun D wr F' h => h.off l2 n2
  have nf3 : ∀ D wr {F'}, MidV W wr F (fun b => b = g2 ∨ b = g3) p kn n D F' → ¬ F' g3 := fun D wr F' h => h.off l3 n3
  have KL : Hid (∀ wr D' F', MidV W wr F (fun b => b = g2 ∨ b = g3) p kn n D' F' → wr.heap[g1]? = some (.cells c.arr 28 (0, 0))) := Lib.hid fun wr D' F' h => mid_own h H1.out n1 (by rintro (q | q); exact hd.1 q; exact hd.2.1 q)
  have NEED : Hid (∀ a w2, Rr = .need a → DeadAt w2 p a → Turned (fun b => F b ∨ (b = g2 ∨ b = g3)) W w2 → (∃ x, BoxV g2 w2 x) → (∃ x, BoxV g3 w2 x) → WentY W F (fun b => b = g2 ∨ b = g3) (fun w' => L10Y c g1 g2 g3 w') (fun w' => BoxS W.heap.size g2 w' a0 ∧ BoxS W.heap.size g3 w' b0) p kn (ranOf Rr) (.panicked (endOf p)) w2) := Lib.hid fun a w2 e hd' ht' q2 q3 =>
    wy_need (ranOf_need e) hd' ht' ⟨(ht'.block g1 l1 (by rintro (q | q | q); exact n1 q; exact hd.1 q; exact hd.2.1 q)).trans H1.out, q2, q3⟩
  have HT := Lib.hid ht
  clear h1 h2 h3 hv hk R H hR ht n1
  go_enter Tryd.func28, Tryd.ntmps28
  go_wp2_with (first | (refine wpList_load_row rfl 28 _ rfl _ rfl 28 _ _ _ H1.out Tryd.underlying28 rfl (by kernel_rfl) ?_) | (refine wpList_load_rowG rfl 28 _ rfl _ rfl 28 _ _ _ H1.out Tryd.underlying28 rfl (by kernel_rfl) ?_))
  refine (pl_Link HR.out HH.out hn F p kn [] 3 0 2 W M0.out.view HK.out M0.out.inv).mono ?_
  intro e w1 he
  rcases M0.out.step (More.refl _) HK.out (good_plLink HH.out _ _ _) he with ⟨a', hE, rfl, hd', ht', hk'⟩ | ⟨x1, D1, F1, hE, rfl, M1, hq1, hk', hf'⟩
  · exact ⟨rfl, NEED.out a' w1 (HRr.out.symm.trans (bindP_need hE)) hd' ht' ⟨_, hk' _ _ (nf2 _ _ M0.out) B0.out.1⟩ ⟨_, hk' _ _ (nf3 _ _ M0.out) B0.out.2⟩⟩
  have B1 := Lib.hid (And.intro (hk' _ _ (nf2 _ _ M0.out) B0.out.1) (hk' _ _ (nf3 _ _ M0.out) B0.out.2))
  skip
  have R1 := Lib.hid ((bindP_ok hE).symm.trans HRr.out)
  have M1 := Lib.hid M1
  have L1 := Lib.hid (KL.out _ _ _ M1.out)
  clear he hE hk' hf'
  go_wp2_with (first | (refine wpList_load_row rfl 28 _ rfl _ rfl 28 _ _ _ L1.out Tryd.underlying28 rfl (by kernel_rfl) ?_) | (refine wpList_load_rowG rfl 28 _ rfl _ rfl 28 _ _ _ L1.out Tryd.underlying28 rfl (by kernel_rfl) ?_))
  refine (pl_Link HR.out HH.out hn F1 p kn D1 5 0 2 w1 M1.out.view HK.out M1.out.inv).mono ?_
  intro e w2 he
  rcases M1.out.step (More.refl _) HK.out (good_plLink HH.out _ _ _) he with ⟨a', hE, rfl, hd', ht', hk'⟩ | ⟨x2, D2, F2, hE, rfl, M2, hq2, hk', hf'⟩
  · exact ⟨rfl, NEED.out a' w2 (R1.out.symm.trans (bindP_need hE)) hd' ht' ⟨_, hk' _ _ (nf2 _ _ M1.out) B1.out.1⟩ ⟨_, hk' _ _ (nf3 _ _ M1.out) B1.out.2⟩⟩
  have B2 := Lib.hid (And.intro (hk' _ _ (nf2 _ _ M1.out) B1.out.1) (hk' _ _ (nf3 _ _ M1.out) B1.out.2))
  skip
  have R2 := Lib.hid ((bindP_ok hE).symm.trans R1.out)
  have M2 := Lib.hid M2
  have L2 := Lib.hid (KL.out _ _ _ M2.out)
  clear he hE hk' hf'
  go_wp2_with (first | (refine wpList_load_row rfl 28 _ rfl _ rfl 28 _ _ _ L2.out Tryd.underlying28 rfl (by kernel_rfl) ?_) | (refine wpList_load_rowG rfl 28 _ rfl _ rfl 28 _ _ _ L2.out Tryd.underlying28 rfl (by kernel_rfl) ?_))
  refine (pl_List HR.out HH.out F2 p kn D2 0 2 w2 M2.out.view HK.out M2.out.inv).mono ?_
  intro e w3 he
  rcases M2.out.stepR (More.refl _) HK.out (good_plList HH.out _ _) he with ⟨a', hE, rfl, hd', ht', hk'⟩ | ⟨x3, D3, F3, v3, hE, rfl, hp3, M3, hq3, hk', hf'⟩
  · exact ⟨rfl, NEED.out a' w3 (R2.out.symm.trans (bindP_need hE)) hd' ht' ⟨_, hk' _ _ (nf2 _ _ M2.out) B2.out.1⟩ ⟨_, hk' _ _ (nf3 _ _ M2.out) B2.out.2⟩⟩
  have B3 := Lib.hid (And.intro (hk' _ _ (nf2 _ _ M2.out) B2.out.1) (hk' _ _ (nf3 _ _ M2.out) B2.out.2))
  have hp3 : OwnR W.heap.size F3 w3 v3 x3 := OwnR.mono hp3 M2.out.size
  skip
  have R3 := Lib.hid ((bindP_ok hE).symm.trans R2.out)
  have M3 := Lib.hid M3
  clear he hE hk' hf'
  obtain ⟨a3, c3, rfl, _⟩ := hp3.1.reads
  obtain ⟨c2, f2, k2⟩ := box_cells B3.out.1
  obtain ⟨w4, e4⟩ : ∃ w4, w3.setCell ⟨g2, 0, none⟩ (.slice a3 x3.length c3) = w4 := ⟨_, rfl⟩
  have M4 : Hid (MidV W w4 F (fun b => b = g2 ∨ b = g3) p kn n D3 F3) := Lib.hid (by rw [← e4]; exact M3.out.box (fun _ => .inl rfl) (nf2 _ _ M3.out) _ B3.out.1)
  have B4 : Hid (BoxV g2 w4 (.slice a3 x3.length c3) ∧ BoxV g3 w4 z3) := Lib.hid (by rw [← e4]; exact ⟨setCell_one B3.out.1 _, set_oth B3.out.2 (Ne.symm hd.2.2)⟩)
  have O4 : Hid (OwnR W.heap.size F3 w4 (.slice a3 x3.length c3) x3) := Lib.hid (by rw [← e4]; exact hp3.set l2)
  have L4 := Lib.hid (KL.out _ _ _ M4.out)
  clear hp3
  go_wp2_with (first | (refine wpList_load_row rfl 28 _ rfl _ rfl 28 _ _ _ L4.out Tryd.underlying28 rfl (by kernel_rfl) ?_) | (refine wpList_load_rowG rfl 28 _ rfl _ rfl 28 _ _ _ L4.out Tryd.underlying28 rfl (by kernel_rfl) ?_))
  clear c2 f2 k2
  refine (pl_Unlink HR.out HH.out hn F3 p kn D3 5 0 2 w4 M4.out.view HK.out M4.out.inv).mono ?_
  intro e w5 he
  rcases M4.out.step (More.refl _) HK.out (good_plUnlink HH.out _ _ _) he with ⟨a', hE, rfl, hd', ht', hk'⟩ | ⟨x5, D5, F5, hE, rfl, M5, hq5, hk', hf'⟩
  · exact ⟨rfl, NEED.out a' w5 (R3.out.symm.trans (bindP_need hE)) hd' ht' ⟨_, hk' _ _ (nf2 _ _ M4.out) B4.out.1⟩ ⟨_, hk' _ _ (nf3 _ _ M4.out) B4.out.2⟩⟩
  have B5 := Lib.hid (And.intro (hk' _ _ (nf2 _ _ M4.out) B4.out.1) (hk' _ _ (nf3 _ _ M4.out) B4.out.2))
  have O5 := Lib.hid (O4.out.went hk' hf')
  have R5 := Lib.hid ((bindP_ok hE).symm.trans R3.out)
  have M5 := Lib.hid M5
  have L5 := Lib.hid (KL.out _ _ _ M5.out)
  clear he hE hk' hf'
  go_wp2_with (first | (refine wpList_load_row rfl 28 _ rfl _ rfl 28 _ _ _ L5.out Tryd.underlying28 rfl (by kernel_rfl) ?_) | (refine wpList_load_rowG rfl 28 _ rfl _ rfl 28 _ _ _ L5.out Tryd.underlying28 rfl (by kernel_rfl) ?_))
  refine (pl_List HR.out HH.out F5 p kn D5 0 2 w5 M5.out.view HK.out M5.out.inv).mono ?_
  intro e w6 he
  rcases M5.out.stepR (More.refl _) HK.out (good_plList HH.out _ _) he with ⟨a', hE, rfl, hd', ht', hk'⟩ | ⟨x6, D6, F6, v6, hE, rfl, hp6, M6, hq6, hk', hf'⟩
  · exact ⟨rfl, NEED.out a' w6 (R5.out.symm.trans (bindP_need hE)) hd' ht' ⟨_, hk' _ _ (nf2 _ _ M5.out) B5.out.1⟩ ⟨_, hk' _ _ (nf3 _ _ M5.out) B5.out.2⟩⟩
  have B6 := Lib.hid (And.intro (hk' _ _ (nf2 _ _ M5.out) B5.out.1) (hk' _ _ (nf3 _ _ M5.out) B5.out.2))
  have hp6 : OwnR W.heap.size F6 w6 v6 x6 := OwnR.mono hp6 M5.out.size
  have O6 := Lib.hid (O5.out.went hk' hf')
  have R6 := Lib.hid ((bindP_ok hE).symm.trans R5.out)
  have M6 := Lib.hid M6
  clear he hE hk' hf'
  obtain ⟨a6, c6, rfl, _⟩ := hp6.1.reads
  obtain ⟨c2, f2, k2⟩ := box_cells B6.out.2
  obtain ⟨w7, e7⟩ : ∃ w7, w6.setCell ⟨g3, 0, none⟩ (.slice a6 x6.length c6) = w7 := ⟨_, rfl⟩
  have M7 : Hid (MidV W w7 F (fun b => b = g2 ∨ b = g3) p kn n D6 F6) := Lib.hid (by rw [← e7]; exact M6.out.box (fun _ => .inr rfl) (nf3 _ _ M6.out) _ B6.out.2)
  have B7 : Hid (BoxV g2 w7 (.slice a3 x3.length c3) ∧ BoxV g3 w7 (.slice a6 x6.length c6)) := Lib.hid (by rw [← e7]; exact ⟨set_oth B6.out.1 hd.2.2, setCell_one B6.out.2 _⟩)
  have O7 : Hid (OwnR W.heap.size F6 w7 (.slice a3 x3.length c3) x3) := Lib.hid (by rw [← e7]; exact O6.out.set l3)
  have P7 : Hid (OwnR W.heap.size F6 w7 (.slice a6 x6.length c6) x6) := Lib.hid (by rw [← e7]; exact hp6.set l3)
  have hx := HT.out (x3, x6) _ R6.out.symm
  have FN : Hid (WentY W F (fun b => b = g2 ∨ b = g3) (fun w' => L10Y c g1 g2 g3 w') (fun w' => BoxS W.heap.size g2 w' a0 ∧ BoxS W.heap.size g3 w' b0) p kn (ranOf Rr) (.returned (.tuple #[])) w7) := Lib.hid (wy_done M7.out (ranOf_ok R6.out.symm) ⟨KL.out _ _ _ M7.out, ⟨_, B7.out.1⟩, ⟨_, B7.out.2⟩⟩ (by
    simp only [Prod.mk.injEq] at hx
    obtain ⟨rfl, rfl⟩ := hx
    exact ⟨⟨_, B7.out.1, O7.out.1⟩, ⟨_, B7.out.2, P7.out.1⟩⟩))
  clear hx hp6
  go_wp2_with fail
  go_end0
  exact FN.out

def live6 : Cfg := ⟨2, 2, 6, 2, 0, 0, 1, 2, 0, 0, 2⟩
theorem live6_ok : live6.Ok := by constructor <;> decide
theorem live6_words : live6.words = (576 : Nat) := by decide
theorem live6_hd : HdIn live6.pg live6.st 576 := { st1 := by decide, st2 := by decide, pg1 := by decide, pg2 := by decide, top := by decide, top5 := by decide, top62 := by decide }
def liveS10 : Cfg := ⟨withinV 0 1 64, withinV 0 1 8, withinV 0 1 256, withinV 0 1 64, withinV 0 0 16, withinV 0 0 64, withinV 0 1 1099511627776, withinV 0 1 8, withinV 0 0 8, withinV 0 0 16, withinV 0 1 8⟩
theorem liveS10_ok : liveS10.Ok := some_ok 0 0 0 0 0 0 0 0 0 0 0
theorem liveS10_is : smallC liveS10 = ⟨2, 2, 2, 2, 0, 0, 1, 2, 0, 0, 2⟩ := by rfl
def live10D : List KV := [(28, 0), (30, 0), (34, 0), (36, 0), (38, 4)]
theorem live10_run : live10P live6.pg live6.st (allK (zeros 576)) [] = .ok ([5, 3], [3]) live10D := by kernel_rfl
theorem live10_ends : ∃ K', doP (fun K => ranOf (live10P live6.pg live6.st (look K) [])) (zeros 576) ((zeros 576).length + 1) [] = some (applyD (zeros 576) live10D, K') := by
  have H : HdIn live6.pg live6.st (zeros 576).length := by rw [zeros_len]; exact live6_hd
  obtain ⟨K', _, h⟩ := doP_run (sound_live10 _ _) (good_live10 H) (okW_zeros 576) live10_run ((zeros 576).length + 1) [] (okKn_nil _) (by simp)
  exact ⟨K', h⟩
theorem live10_len : (applyD (zeros 576) live10D).length = 576 := by rw [len_apply, zeros_len]
theorem live10_do (w : World) (g1 g2 g3 : Nat) (a : Option Addr) (cap : Nat) (hY : L10Y live6 g1 g2 g3 w) (hd : g1 ≠ g2 ∧ g1 ≠ g3 ∧ g2 ≠ g3) (hz : IsWords w a (zeros 576)) :
    Calls Tryd.prog 9 #[.slice a 576 cap, .func (.func 28) #[] #[.pointer (some ⟨g1, 0, none⟩), .pointer (some ⟨g2, 0, none⟩), .pointer (some ⟨g3, 0, none⟩)]] w (fun e w' => ∃ v1 v2, e = .returned (.tuple #[v1, v2, .int .i64 0]) ∧ Rw w.heap.size w' v1 (applyD (zeros 576) live10D) ∧ w'.heap[g1]? = some (.cells live6.arr 28 (0, 0)) ∧ (BoxS w.heap.size g2 w' [5, 3] ∧ BoxS w.heap.size g3 w' [3]) ∧ Turned (fun b => b = g2 ∨ b = g3) w w') := by
  have hl : (zeros 576).length = 576 := zeros_len 576
  obtain ⟨K', hK'⟩ := live10_ends
  have l1 := lt_of_heap hY.h1
  have l2 : g2 < w.heap.size := by obtain ⟨x, h⟩ := hY.h2; exact lt_of_heap h
  have l3 : g3 < w.heap.size := by obtain ⟨x, h⟩ := hY.h3; exact lt_of_heap h
  have H : HdIn live6.pg live6.st (zeros 576).length := by rw [hl]; exact live6_hd
  have M := doX_ok a cap (zeros 576) (fun K => ranOf (live10P live6.pg live6.st (look K) [])) (some (applyD (zeros 576) live10D, K')) (zeros 576).length w hz (by omega) (okW_zeros _) (fine_of (good_live10 H) (okW_zeros _) (by omega)) (by omega) hK' 28 #[.pointer (some ⟨g1, 0, none⟩), .pointer (some ⟨g2, 0, none⟩), .pointer (some ⟨g3, 0, none⟩)] (fun b => b = g2 ∨ b = g3)
    (fun w' => L10Y live6 g1 g2 g3 w') (fun b w' => BoxS b g2 w' [5, 3] ∧ BoxS b g3 w' [3])
    (fun k q => by rcases q with rfl | rfl; exact l2; exact l3)
    (fun w' w'' y t => by
      obtain ⟨y1, ⟨x2, y2⟩, ⟨x3, y3⟩⟩ := y
      exact ⟨(t.block g1 (lt_of_heap y1) (by omega)).trans y1, ⟨x2, (t.block g2 (lt_of_heap y2) (by omega)).trans y2⟩, ⟨x3, (t.block g3 (lt_of_heap y3) (by omega)).trans y3⟩⟩)
    (fun b w' w'' hb y t => ⟨y.1.keep t (by omega) (fun k hk => by omega), y.2.keep t (by omega) (fun k hk => by omega)⟩) hY (enters_of Tryd.func28 (by kernel_rfl) rfl)
    (fun K hK W F p t y hv hF => live10_clo live6_ok live6_hd (by omega) F p g1 g2 g3 (look K) W hv (okK_of hK (okW_zeros _)) y (fun q => by have := hF _ q; omega) (fun q => by have := hF _ q; omega) (fun q => by have := hF _ q; omega) hd [5, 3] [3]
      (fun x D e => (sound_same (sound_live10 _ _) hK live10_run e).1))
  rw [hl] at M
  refine M.mono ?_
  rintro e w' ⟨v1, v2, b, rfl, r1, _, t, y, hb, x⟩
  refine ⟨v1, v2, rfl, r1, y.h1, ⟨?_, ?_⟩, t⟩
  · obtain ⟨v, q1, q2⟩ := x.1; exact ⟨v, q1, q2.mono hb⟩
  · obtain ⟨v, q1, q2⟩ := x.2; exact ⟨v, q1, q2.mono hb⟩
theorem rw_two (w : World) (a b : Int) : Rw 0 (w.alloc (.cells #[.int .i64 a, .int .i64 b] 3)) (.slice (some ⟨w.heap.size, 0, none⟩) 2 2) [a, b] := by
  have h := heap_new w (.cells #[.int .i64 a, .int .i64 b] 3)
  exact Ws.rw' (base := 0) (zs := [a, b]) (cap := 2) ⟨_, h, Nat.le_refl _, by unfold maxLen; omega, rfl, fun i hi => by
    match i, hi with
    | 0, _ => rfl
    | 1, _ => rfl⟩ (Nat.zero_le _)
theorem rw_one (w : World) (a : Int) : Rw 0 (w.alloc (.cells #[.int .i64 a] 3)) (.slice (some ⟨w.heap.size, 0, none⟩) 1 1) [a] := by
  have h := heap_new w (.cells #[.int .i64 a] 3)
  exact Ws.rw' (base := 0) (zs := [a]) (cap := 1) ⟨_, h, Nat.le_refl _, by unfold maxLen; omega, rfl, fun i hi => by
    match i, hi with
    | 0, _ => rfl⟩ (Nat.zero_le _)

set_option maxRecDepth 100000 in
set_option maxHeartbeats 2000000 in
theorem lives10_ok (w : World) : Calls Tryd.prog 6 #[] w (Gives w (.bool true)) := by
  have SM := Lib.hid (small_any liveS10_ok 0 0 0 0 0 0 0 0 0 0 0 _ w (fun W => some_any 0 0 0 0 0 0 0 0 0 0 0 W (by omega) (by omega) (by omega) (by omega) (by omega) (by omega) (by omega) (by omega) (by omega) (by omega) (by omega)) rfl)
  have D0 : Hid ((smallC liveS10).cells.setIfInBounds 2 (.int .i64 6) = live6.cells) := Lib.hid (by rw [liveS10_is]; rfl)
  generalize smallC liveS10 = d at SM D0
  have R5 := Lib.hid live6_ok
  have hc4 := cells_one d
  go_enter Tryd.func6, Tryd.ntmps6
  go_wp2_with fail
  refine (SM.out).mono ?_
  rintro e w1 ⟨rfl, m1⟩
  have MA := Lib.hid m1
  have hs1 := m1.size
  have C2 := row_new w1 #[.int .i64 0, .int .i64 0, .int .i64 0, .int .i64 0, .int .i64 0, .int .i64 0, .int .i64 0, .int .i64 0, .int .i64 0, .int .i64 0, .int .i64 0] 23
  clear m1 SM
  go_wp2_with (first
    | (refine wpList_store_row rfl 23 _ _ rfl w1.heap.size d.cells rfl rfl 23 _ C2 (by kernel_rfl) rfl hc4 ?_; have C3 := setRow_heap _ _ _ d.cells _ _ C2; have M5 : Hid (More w ((w1.alloc (.cells #[.int .i64 0, .int .i64 0, .int .i64 0, .int .i64 0, .int .i64 0, .int .i64 0, .int .i64 0, .int .i64 0, .int .i64 0, .int .i64 0, .int .i64 0] 23)).setRow w1.heap.size d.cells)) := Lib.hid ((MA.out.alloc _).setRow _ _ hs1); generalize World.setRow _ _ _ = w5 at C3 M5 ⊢; clear C2)
    | (refine wpList_store_int rfl 3 _ _ rfl rfl w1.heap.size 2 rfl 6 rfl _ _ C3 (by simp [Cfg.cells]) (by kernel_rfl) ?_; rw [D0.out]; intro w6 hb6 ht6; have HB := Lib.hid hb6; have HM : Hid (More w w6) := Lib.hid (Turned.mono (turned_own (F := fun _ => False) M5.out ht6 (fun k q => .inr (by omega))) (fun _ _ q => q)); clear hb6 ht6)
    | (refine wpList_load_row rfl 23 _ rfl w1.heap.size rfl 23 _ _ _ HB.out Tryd.underlying23 rfl (by kernel_rfl) ?_))
  refine (y_of R5.out _).mono ?_
  rintro e w7 ⟨rfl, m7⟩
  have D1 := row_new w7 zero24 28
  have D2 := setRow_heap (w7.alloc (.cells zero24 28)) w7.heap.size _ live6.arr _ _ D1
  have M7 := HM.out.trans m7
  have M8 : More w ((w7.alloc (.cells zero24 28)).setRow w7.heap.size live6.arr) := (M7.alloc _).setRow _ _ M7.size
  have s8 : ((w7.alloc (.cells zero24 28)).setRow w7.heap.size live6.arr).heap.size = w7.heap.size + 1 := by simp
  have hs7 := M7.size
  have D1 := Lib.hid D1
  obtain ⟨w8, e8⟩ : ∃ w8, (w7.alloc (.cells zero24 28)).setRow w7.heap.size live6.arr = w8 := ⟨_, rfl⟩
  rw [e8] at D2 M8 s8
  obtain ⟨w9, e9, ha, hb, m9, s9⟩ := entry2 w8 (.cells #[.slice none 0 0] 31) (.cells #[.slice none 0 0] 31)
  have M13 := Lib.hid (M8.trans m9)
  have HD := Lib.hid (m9.block D2)
  have HA := Lib.hid ha
  have HBB := Lib.hid hb
  have l7 : w7.heap.size < w8.heap.size := by omega
  clear m7 HM HB C3 M5 M7 M8 ha hb m9 hc4 D2 s8
  go_wp2_with (first
    | (refine wpList_store_row rfl 28 _ _ rfl w7.heap.size live6.arr rfl rfl 28 _ D1.out (by kernel_rfl) rfl (arr_one live6) ?_)
    | (refine wpList_load_row rfl 28 _ rfl w7.heap.size rfl 28 _ _ _ HD.out Tryd.underlying28 rfl (by kernel_rfl) ?_))
  refine (y_words R5.out _).mono ?_
  rw [live6_words]
  rintro e w14 ⟨rfl, m14⟩
  obtain ⟨w15, hmk, N1, m15, s15⟩ : ∃ w15, (Instr.makeSlice 31 (.int .i64 576) (.int .i64 576)).run Tryd.prog w14 = .ok (.slice (some ⟨w14.heap.size, 0, none⟩) 576 576) w15 ∧ w15.heap[w14.heap.size]? = some (.cells (rowOf (zeros 576)) 3 (0, 0)) ∧ More w14 w15 ∧ w15.heap.size = w14.heap.size + 1 :=
    ⟨_, run_make_zeros 576 (by omega) w14, row_new w14 _ _, (More.refl _).alloc _, by simp⟩
  have mm := m14.trans m15
  have DO := Lib.hid (live10_do w15 w7.heap.size w8.heap.size (w8.heap.size + 1) (some ⟨w14.heap.size, 0, none⟩) 576 ⟨mm.block HD.out, ⟨_, mm.block HA.out⟩, ⟨_, mm.block HBB.out⟩⟩ ⟨by omega, by omega, by omega⟩ (zeros_row _ _ _ N1))
  have M15 := Lib.hid (M13.out.trans mm)
  have hw8 : w.heap.size ≤ w8.heap.size := by omega
  clear m14 m15 mm N1 s15 HD HA HBB M13 e8 e9 D1 s9
  go_wp2_with fail
  refine DO.out.mono ?_
  rintro e w16 ⟨v1, v2, rfl, hr, h1, ⟨⟨u2, q2, r2⟩, ⟨u3, q3, r3⟩⟩, ht⟩
  obtain ⟨a, cap, rfl, hrd⟩ := hr.reads
  rw [live10_len]
  obtain ⟨a2, c2, rfl, _⟩ := r2.reads
  obtain ⟨a3, c3, rfl, _⟩ := r3.reads
  have L1 := Lib.hid h1
  have ca := (box_cells q2).1
  have Q3 := Lib.hid q3
  have R2 := Lib.hid (rows_same [5, 3] _ _ _ 0 (w16.alloc (.cells #[.int .i64 5, .int .i64 3] 3)) (by simp) (r2.more ((More.refl w16).alloc _)) (rw_two w16 5 3))
  have R3 := Lib.hid r3
  have FIN := Lib.hid (Turned.mono (turned_own (F := fun _ => False) M15.out ht (fun k q => .inr (by omega))) (fun _ _ q => q))
  clear hr hrd h1 q2 q3 ht r2 r3 DO M15
  go_wp2_with fail
  refine R2.out.mono ?_
  rintro e w17 ⟨rfl, m17⟩
  have mm := ((More.refl w16).alloc (.cells #[.int .i64 5, .int .i64 3] 3)).trans m17
  have cb := (box_cells (mm.block Q3.out)).1
  have L2 := Lib.hid (mm.block L1.out)
  have F17 := Lib.hid (FIN.out.trans mm)
  have S3 := Lib.hid (rows_same [3] _ _ _ 0 (w17.alloc (.cells #[.int .i64 3] 3)) (by simp) ((R3.out.more mm).more ((More.refl w17).alloc _)) (rw_one w17 3))
  clear m17 mm ca Q3 L1 FIN R2 R3
  go_wp2_with fail
  refine S3.out.mono ?_
  rintro e w18 ⟨rfl, m18⟩
  have mm := ((More.refl w17).alloc (.cells #[.int .i64 3] 3)).trans m18
  have L3 := Lib.hid (mm.block L2.out)
  have F18 := Lib.hid (F17.out.trans mm)
  clear m18 mm cb L2 F17 S3
  go_wp2_with (refine wpList_load_rowG rfl 28 _ rfl _ rfl 28 _ _ _ L3.out Tryd.underlying28 rfl (by kernel_rfl) ?_)
  refine (y_words R5.out _).mono ?_
  rw [live6_words]
  rintro e w19 ⟨rfl, m19⟩
  have F19 := Lib.hid (F18.out.trans m19)
  clear m19
  go_wp2_with fail
  go_ret
  exact ⟨rfl, F19.out⟩
end Go.Proofs.YtogfikemodaepaaDoor

