/-
  The landed package view: a run of a program, its end by a panic that is recovered.
-/
import Derived.Test.YtflihdcliknggaaViewTold
import Derived.Recover
namespace Go.Proofs.Ytflihdcliknggaa
open Go.RowKit Go.Sort Go.Maps
set_option linter.unusedVariables false
set_option linter.unusedSimpArgs false

set_option maxHeartbeats 1000000 in
theorem told_ok (F : Nat → Prop) (p q : Nat) (D : List KV) (W : World) (hp : W.cell? ⟨p, 2, none⟩ = some (.pointer (some ⟨q, 0, none⟩))) (hm : MapAt W F q D) :
    Calls Try.prog 29 #[.pointer (some ⟨p, 0, none⟩)] W fun e w' => ∃ v, e = .returned v ∧ PRw W.heap.size w' v D ∧ More W w' := by
  have M1 : More W (W.alloc (.cells #[.slice none 0 0] 24)) := (More.refl W).alloc _
  have hb := heap_new W (.cells #[.slice none 0 0] 24)
  have E := Lib.hid (each_told F q D W.heap.size _ (hm.more M1) hb (fun r => by have := hm.lt _ r; omega))
  have hp1 := M1.cell hp
  have hlp := lt_of_cell hp
  have HM := Lib.hid M1
  clear hm hb M1
  go_enter Try.func29, Try.ntmps29
  go_wp2_with fail
  refine E.out.mono ?_
  rintro e w1 ⟨rfl, ht, v, hv, hr⟩
  have FIN : Hid (PRw W.heap.size w1 v D ∧ More W w1) := Lib.hid ⟨hr.mono (by simp), Turned.mono (turned_own (F := fun _ => False) HM.out ht (fun k hk => .inr (by omega))) (fun _ _ q => q)⟩
  obtain ⟨c0, f0, l0⟩ := box_cells hv
  clear ht hr hv
  go_wp2_with fail
  go_ret
  exact ⟨_, rfl, FIN.out⟩

theorem assert_end (v : Value) (w : World) : (Instr.typeAssert (.iface 63 v) 20 63 true).run Try.prog w = .ok (.tuple #[v, .bool true]) w := by kernel_rfl
theorem assert_none (w : World) : (Instr.typeAssert .nilIface 20 63 true).run Try.prog w = .ok (.tuple #[.agg #[.pointer none], .bool false]) w := by kernel_rfl

/-- What the deferred function of a run leaves. -/
def Caught (w : World) (p bn : Nat) (a : Int) (w' : World) : Prop := DeadAt w' p a ∧ w'.heap[bn]? = some (.cells #[.int .i64 a] 3 (0, 0)) ∧ Turned (fun k => k = p ∨ k = bn) w w'

set_option maxHeartbeats 1000000 in
theorem catch_end (p bv bn : Nat) (a n : Int) (w : World) (h : DeadAt w p a) (hv : w.heap[bv]? = some (.cells #[.pointer (some ⟨p, 0, none⟩)] 28 (0, 0))) (hn : w.heap[bn]? = some (.cells #[.int .i64 n] 3 (0, 0))) (h1 : bv ≠ p) (h2 : bn ≠ p) (h3 : bv ≠ bn) :
    CallsD Try.prog 28 #[.pointer (some ⟨bv, 0, none⟩), .pointer (some ⟨bn, 0, none⟩)] (.panicking (endOf p)) w fun e u' w' =>
      e = .returned (.tuple #[]) ∧ u' = .panicking [{ v := .iface 63 (.agg #[.pointer (some ⟨p, 0, none⟩)]), recovered := true }] ∧ Caught w p bn a w' := by
  have hq := fun w => neq_view ⟨p, 0, none⟩ w
  obtain ⟨M, q, hp⟩ := h
  obtain ⟨c0, c1, c2, c3, cf, cl⟩ := view_cells hp
  obtain ⟨v0, vf, vl⟩ := box_cells hv
  obtain ⟨n0, nf, nl⟩ := box_cells hn
  refine callsD_of_wpS Try.func28 rfl fun c₀ cs hu => ?_
  apply wpS_seq
  apply wpS_region
  simp [wpOpsS, go_sem, recoverD, hu, Try.ntmps28, Exit.thenS, v0, c0, cf, vf]
  apply wpS_seq
  apply wpS_seq
  apply wpS_region
  simp [wpOpsS, go_sem, recoverD, hu, endOf, Exit.thenS, Array.replicate_succ, v0, c0, cf, vf, assert_end]
  have t1 : Turned (fun k => k = p ∨ k = bn) w ((w.setCell ⟨p, 0, none⟩ (.pointer none)).alloc (.cells #[.pointer (some ⟨p, 0, none⟩)] 63)) := Turned.alloc (turned_setCell (Turned.refl _ w) (fun _ => .inl rfl) _) _
  have hp1 : ((w.setCell ⟨p, 0, none⟩ (.pointer none)).alloc (.cells #[.pointer (some ⟨p, 0, none⟩)] 63)).heap[p]? = some (.cells (viewCells none M q a) 61 (0, 0)) := by
    rw [Below.heap_alloc _ _ _ (by simpa using cl)]
    have := heap_setCell (o := 0) (.pointer none) hp
    simpa [viewCells] using this
  have hv1 : ((w.setCell ⟨p, 0, none⟩ (.pointer none)).alloc (.cells #[.pointer (some ⟨p, 0, none⟩)] 63)).heap[bv]? = some (.cells #[.pointer (some ⟨p, 0, none⟩)] 28 (0, 0)) := by
    rw [Turned.block t1 bv vl (by omega)]; exact hv
  have hs1 := heap_new (w.setCell ⟨p, 0, none⟩ (.pointer none)) (.cells #[.pointer (some ⟨p, 0, none⟩)] 63)
  rw [show (w.setCell ⟨p, 0, none⟩ (.pointer none)).heap.size = w.heap.size by simp] at hs1
  have hn1 : ((w.setCell ⟨p, 0, none⟩ (.pointer none)).alloc (.cells #[.pointer (some ⟨p, 0, none⟩)] 63)).heap[bn]? = some (.cells #[.int .i64 n] 3 (0, 0)) := by
    rw [Below.heap_alloc _ _ _ (by simpa using nl), Below.heap_setCell _ _ _ _ h2]; exact hn
  generalize (w.setCell ⟨p, 0, none⟩ (.pointer none)).alloc (.cells #[.pointer (some ⟨p, 0, none⟩)] 63) = W1 at t1 hp1 hv1 hs1 hn1 ⊢
  generalize w.heap.size = bs at hs1 ⊢
  obtain ⟨_, _, _, x3, _, xl⟩ := view_cells hp1
  obtain ⟨y0, yf, yl⟩ := box_cells hv1
  obtain ⟨z0, zf, zl⟩ := box_cells hs1
  obtain ⟨n1, nf1, nl1⟩ := box_cells hn1
  have FIN : Hid (Caught w p bn a (W1.setCell ⟨bn, 0, none⟩ (.int .i64 a))) := Lib.hid ⟨⟨M, q, by rw [Below.heap_setCell _ _ _ _ (Ne.symm h2)]; exact hp1⟩, box_put _ hn1, turned_setCell t1 (fun _ => .inr rfl) _⟩
  clear c0 c1 c2 c3 cf cl v0 vf vl n0 nf nl hp hv hn hp1 hv1 hs1 hn1 t1
  refine wpS_of_wp ?_
  go_wp2_with fail
  refine wpS_of_wp ?_
  go_wp2_with fail
  exact ⟨rfl, _, rfl, _, results_none rfl _ _ _, rfl, rfl, FIN.out⟩

set_option maxHeartbeats 1000000 in
theorem catch_idle (p bv bn M q : Nat) (n : Int) (w : World) (hp : w.heap[p]? = some (.cells (viewCells (some ⟨p, 0, none⟩) M q (-1)) 61 (0, 0))) (hv : w.heap[bv]? = some (.cells #[.pointer (some ⟨p, 0, none⟩)] 28 (0, 0))) (hn : w.heap[bn]? = some (.cells #[.int .i64 n] 3 (0, 0))) (h1 : bv ≠ p) (h2 : bn ≠ p) (h3 : bv ≠ bn) :
    CallsD Try.prog 28 #[.pointer (some ⟨bv, 0, none⟩), .pointer (some ⟨bn, 0, none⟩)] .returning w fun e u' w' =>
      e = .returned (.tuple #[]) ∧ u' = .returning ∧ Caught w p bn (-1) w' := by
  obtain ⟨c0, c1, c2, c3, cf, cl⟩ := view_cells hp
  obtain ⟨v0, vf, vl⟩ := box_cells hv
  obtain ⟨n0, nf, nl⟩ := box_cells hn
  refine callsD_of_wpS Try.func28 rfl fun c₀ cs hu => ?_
  apply wpS_seq
  apply wpS_region
  simp [wpOpsS, go_sem, recoverD, hu, Try.ntmps28, Exit.thenS, v0, c0, cf, vf]
  apply wpS_seq
  apply wpS_seq
  apply wpS_region
  simp [wpOpsS, go_sem, recoverD, hu, endOf, Exit.thenS, Array.replicate_succ, v0, c0, cf, vf, assert_none]
  have t1 : Turned (fun k => k = p ∨ k = bn) w ((w.setCell ⟨p, 0, none⟩ (.pointer none)).alloc (.cells #[.pointer none] 63)) := Turned.alloc (turned_setCell (Turned.refl _ w) (fun _ => .inl rfl) _) _
  have hp1 : ((w.setCell ⟨p, 0, none⟩ (.pointer none)).alloc (.cells #[.pointer none] 63)).heap[p]? = some (.cells (viewCells none M q (-1)) 61 (0, 0)) := by
    rw [Below.heap_alloc _ _ _ (by simpa using cl)]
    have := heap_setCell (o := 0) (.pointer none) hp
    simpa [viewCells] using this
  have hv1 : ((w.setCell ⟨p, 0, none⟩ (.pointer none)).alloc (.cells #[.pointer none] 63)).heap[bv]? = some (.cells #[.pointer (some ⟨p, 0, none⟩)] 28 (0, 0)) := by
    rw [Turned.block t1 bv vl (by omega)]; exact hv
  have hn1 : ((w.setCell ⟨p, 0, none⟩ (.pointer none)).alloc (.cells #[.pointer none] 63)).heap[bn]? = some (.cells #[.int .i64 n] 3 (0, 0)) := by
    rw [Below.heap_alloc _ _ _ (by simpa using nl), Below.heap_setCell _ _ _ _ h2]; exact hn
  generalize (w.setCell ⟨p, 0, none⟩ (.pointer none)).alloc (.cells #[.pointer none] 63) = W1 at t1 hp1 hv1 hn1 ⊢
  obtain ⟨_, _, _, x3, _, xl⟩ := view_cells hp1
  obtain ⟨y0, yf, yl⟩ := box_cells hv1
  obtain ⟨n1, nf1, nl1⟩ := box_cells hn1
  have FIN : Hid (Caught w p bn (-1) (W1.setCell ⟨bn, 0, none⟩ (.int .i64 (-1)))) := Lib.hid ⟨⟨M, q, by rw [Below.heap_setCell _ _ _ _ (Ne.symm h2)]; exact hp1⟩, box_put _ hn1, turned_setCell t1 (fun _ => .inr rfl) _⟩
  clear c0 c1 c2 c3 cf cl v0 vf vl n0 nf nl hp hv hn hp1 hv1 hn1 t1
  refine wpS_of_wp ?_
  go_wp2_with fail
  refine wpS_of_wp ?_
  go_wp2_with fail
  refine ⟨rfl, .returning, ?_, _, results_none rfl _ _ _, rfl, rfl, FIN.out⟩
  cases c₀
  simp_all

/-- What a program that is handed the view at p comes to: it may turn blocks of S besides; X: what is so then. -/
def WentS (w : World) (F S : Nat → Prop) (X : Nat → World → Prop) (p : Nat) (kn : Int → Option Int) (R : Ran) (e : Ending) (w' : World) : Prop :=
  match R with
  | .need a => e = .panicked (endOf p) ∧ DeadAt w' p a ∧ Turned (fun k => F k ∨ S k) w w'
  | .done D => e = .returned (.tuple #[]) ∧ (∃ F', ViewAt w' F' p kn D) ∧ Turned (fun k => F k ∨ S k) w w' ∧ X p w'
/-- What run comes to. -/
def RanS (w : World) (S : Nat → Prop) (X : Nat → World → Prop) (R : Ran) (e : Ending) (w' : World) : Prop :=
  match R with
  | .need a => e = .returned (.tuple #[.int .i64 a, .slice none 0 0]) ∧ Turned S w w'
  | .done D => ∃ v p, e = .returned (.tuple #[.int .i64 (-1), v]) ∧ PRw w.heap.size w' v D ∧ Turned S w w' ∧ X p w' ∧ DeadAt w' p (-1)

/-- The memory of a run, as its program is called: the boxes of need and of the view, and the view. -/
structure Begun (w W : World) (F : Nat → Prop) (p bv bn : Nat) (kn : Int → Option Int) : Prop where
  view : ViewAt W F p kn []
  v : W.heap[bv]? = some (.cells #[.pointer (some ⟨p, 0, none⟩)] 28 (0, 0))
  n : W.heap[bn]? = some (.cells #[.int .i64 0] 3 (0, 0))
  more : More w W
  new : ∀ k, F k → w.heap.size ≤ k
  fv : ¬ F bv
  fn : ¬ F bn
  vn : bv ≠ bn
  lv : w.heap.size ≤ bv
  ln : w.heap.size ≤ bn
  lp : w.heap.size ≤ p

theorem begun_of {w w1 : World} {M q n : Nat} {F0 : Nat → Prop} {kn : Int → Option Int} (hk : KnownAt w M n kn) (hm : MapAt w1 F0 q []) (hM : More (w.alloc (.cells #[.int .i64 0] 3)) w1) (hn : ∀ k, F0 k → (w.alloc (.cells #[.int .i64 0] 3)).heap.size ≤ k) :
    ∃ F, Begun w ((w1.alloc (.cells (viewCells (some ⟨w1.heap.size, 0, none⟩) M q (-1)) 61)).alloc (.cells #[.pointer (some ⟨w1.heap.size, 0, none⟩)] 28)) F w1.heap.size (w1.heap.size + 1) w.heap.size kn := by
  have m0 : More w (w.alloc (.cells #[.int .i64 0] 3)) := (More.refl w).alloc _
  have hb := heap_new w (.cells #[.int .i64 0] 3)
  have hs0 : (w.alloc (.cells #[.int .i64 0] 3)).heap.size = w.heap.size + 1 := by simp
  rw [hs0] at hn
  have h1 := hM.size
  rw [hs0] at h1
  have hp := heap_new w1 (.cells (viewCells (some ⟨w1.heap.size, 0, none⟩) M q (-1)) 61)
  have m2 : More w1 (w1.alloc (.cells (viewCells (some ⟨w1.heap.size, 0, none⟩) M q (-1)) 61)) := (More.refl w1).alloc _
  have hs2 : (w1.alloc (.cells (viewCells (some ⟨w1.heap.size, 0, none⟩) M q (-1)) 61)).heap.size = w1.heap.size + 1 := by simp
  generalize w1.alloc (.cells (viewCells (some ⟨w1.heap.size, 0, none⟩) M q (-1)) 61) = w2 at hp m2 hs2 ⊢
  have hv := heap_new w2 (.cells #[.pointer (some ⟨w1.heap.size, 0, none⟩)] 28)
  rw [hs2] at hv
  have m3 : More w2 (w2.alloc (.cells #[.pointer (some ⟨w1.heap.size, 0, none⟩)] 28)) := (More.refl w2).alloc _
  have hs3 : (w2.alloc (.cells #[.pointer (some ⟨w1.heap.size, 0, none⟩)] 28)).heap.size = w1.heap.size + 2 := by simp [hs2]
  generalize w2.alloc (.cells #[.pointer (some ⟨w1.heap.size, 0, none⟩)] 28) = w3 at hv m3 hs3 ⊢
  have lM := hk.lt
  have all : More w w3 := ((m0.trans hM).trans m2).trans m3
  refine ⟨fun k => F0 k ∨ k = w1.heap.size, ⟨⟨⟨M, q, n, F0, m3.block hp, hk.more all, (hm.more m2).more m3, .inr rfl, fun k hk => ⟨.inl hk, fun e => by have := hm.lt k hk; omega⟩, fun r => ?_⟩, fun k r => ?_⟩, hv, m3.block (m2.block (hM.block hb)), all, fun k r => ?_, fun r => ?_, fun r => ?_, by omega, by omega, Nat.le_refl _, by omega⟩⟩
  · rcases r with r | r
    · have := hn M r; omega
    · omega
  · rcases r with r | r
    · have := hm.lt k r; omega
    · omega
  · rcases r with r | r
    · have := hn k r; omega
    · omega
  · rcases r with r | r
    · have := hm.lt _ r; omega
    · omega
  · rcases r with r | r
    · have := hn _ r; omega
    · omega

theorem ran_turn {w W w2 w3 : World} {F S : Nat → Prop} {p bv bn : Nat} {kn : Int → Option Int} (hb : Begun w W F p bv bn kn) (t : Turned (fun k => F k ∨ S k) W w2) (t' : Turned (fun k => k = p ∨ k = bn) w2 w3) : Turned S w w3 := by
  have m : Turned S w W := Turned.mono hb.more (fun _ _ q => q.elim)
  have h1 : Turned S w w2 := turned_own m t (fun k q => by rcases q with q | q; exact .inr (hb.new k q); exact .inl q)
  exact turned_own h1 t' (fun k q => by have := hb.lp; have := hb.ln; rcases q with q | q <;> exact .inr (by omega))
theorem ran_box {w W w2 : World} {F S : Nat → Prop} {p bv bn : Nat} {kn : Int → Option Int} (hb : Begun w W F p bv bn kn) (hS : ∀ k, S k → k < w.heap.size) (t : Turned (fun k => F k ∨ S k) W w2) :
    w2.heap[bv]? = some (.cells #[.pointer (some ⟨p, 0, none⟩)] 28 (0, 0)) ∧ w2.heap[bn]? = some (.cells #[.int .i64 0] 3 (0, 0)) ∧ bv ≠ p ∧ bn ≠ p := by
  obtain ⟨M, q, n, F0, hp, _, _, fp, _⟩ := hb.view.ex
  refine ⟨?_, ?_, fun e => hb.fv (e ▸ fp), fun e => hb.fn (e ▸ fp)⟩
  · rw [Turned.block t bv (lt_of_heap hb.v) (fun q => by rcases q with q | q; exact hb.fv q; have := hS _ q; have := hb.lv; omega)]; exact hb.v
  · rw [Turned.block t bn (lt_of_heap hb.n) (fun q => by rcases q with q | q; exact hb.fn q; have := hS _ q; have := hb.ln; omega)]; exact hb.n

set_option maxHeartbeats 4000000 in
theorem run_ok (kn : Int → Option Int) (R : Ran) (M n : Nat) (w : World) (hk : KnownAt w M n kn) (f : Nat) (cap : Array Value) (S : Nat → Prop) (X : Nat → World → Prop)
    (henter : ∀ args w, Sem.run Try.prog (callFunc f args) w = .ok (.enter f args) w) (hS : ∀ k, S k → k < w.heap.size) (hX : ∀ p w' w'', X p w' → Turned (fun k => w.heap.size ≤ k) w' w'' → X p w'')
    (hprog : ∀ (W : World) (F : Nat → Prop) (p : Nat), More w W → ViewAt W F p kn [] → (∀ k, F k → w.heap.size ≤ k) → Calls Try.prog f (#[.pointer (some ⟨p, 0, none⟩)] ++ cap) W (WentS W F S X p kn R)) :
    Calls Try.prog 19 #[.map (some M), .func (.func f) #[] cap] w (RanS w S X R) := by
  have hq : ∀ w, Sem.run Try.prog (binOp BinOp.eql 34 (Value.func (.func f) #[] cap) Value.nilFunc) w = .ok (.bool false) w := fun w => run_eql_func w _ Try.underlying34 _ _ _
  have hmf : ∀ (fn : Fn) (first cap : Array Value) (w : World), (Instr.makeFunc fn first cap).run Try.prog w = .ok (.func fn first cap) w := fun _ _ _ _ => rfl
  have HK := Lib.hid hk
  have HS := Lib.hid hS
  have HX := Lib.hid hX
  have HP := Lib.hid hprog
  clear hk hS hX hprog
  go_enter_defers Try.func19, Try.ntmps19
  go_wp2_with fail
  refine (new_ok _).mono ?_
  rintro e w1 ⟨F0, q, rfl, m1, M1, n1⟩
  obtain ⟨F, hbeg⟩ := begun_of HK.out m1 M1 n1
  have HB := Lib.hid hbeg
  have hws : w.heap.size < w1.heap.size := by have := M1.size; simp at this; omega
  clear hbeg m1 M1 n1
  go_wp2_with fail
  change Calls _ _ _ ((w1.alloc (.cells (viewCells (some ⟨w1.heap.size, 0, none⟩) M q (-1)) 61)).alloc (.cells #[.pointer (some ⟨w1.heap.size, 0, none⟩)] 28)) _
  generalize (w1.alloc (.cells (viewCells (some ⟨w1.heap.size, 0, none⟩) M q (-1)) 61)).alloc (.cells #[.pointer (some ⟨w1.heap.size, 0, none⟩)] 28) = W at HB ⊢
  generalize w1.heap.size + 1 = bv at HB ⊢
  generalize w1.heap.size = p at HB ⊢
  have hlw : Hid (∀ k, k < w.heap.size → k ≠ bv ∧ k ≠ p) := Lib.hid fun k hk => by have := HB.out.lv; have := HB.out.lp; omega
  clear hws
  refine (HP.out W F p HB.out.more HB.out.view HB.out.new).mono ?_
  intro e w2 he
  cases R with
  | need a =>
    obtain ⟨rfl, hd, ht⟩ := he
    obtain ⟨hv2, hn2, ne1, ne2⟩ := ran_box HB.out HS.out ht
    change bodyPostD _ _ _ (Exit.panic (endOf p)) _ _
    refine leaves_cons (f := 28) (args := #[.pointer (some ⟨bv, 0, none⟩), .pointer (some ⟨w.heap.size, 0, none⟩)]) (by simp) (by simp [go_sem]) ?_
    refine (catch_end p bv w.heap.size a 0 w2 hd hv2 hn2 ne1 ne2 HB.out.vn).mono ?_
    rintro e u' w3 ⟨rfl, rfl, hc⟩
    obtain ⟨b0, _, _⟩ := box_cells hc.2.1
    have FIN : Turned S w w3 := ran_turn HB.out ht hc.2.2
    simp [Leaves, settle, results, Try.results19, go_sem, b0]
    exact ⟨rfl, FIN⟩
  | done D =>
    obtain ⟨rfl, ⟨F', hv⟩, ht, hx⟩ := he
    obtain ⟨hv2, hn2, ne1, ne2⟩ := ran_box HB.out HS.out ht
    obtain ⟨M', q', n', F0', hp2, hk2, hm2, fp2, f02, fM2⟩ := hv.ex
    obtain ⟨c0, c1, c2, c3, cf, cl⟩ := view_cells hp2
    obtain ⟨v0, vf, vl⟩ := box_cells hv2
    have TOLD := Lib.hid (told_ok F0' p q' D w2 c2 hm2)
    have HT := Lib.hid ht
    have HX2 := Lib.hid hx
    have HP2 := Lib.hid hp2
    have HV2 := Lib.hid hv2
    have HN2 := Lib.hid hn2
    clear hv hk2 hm2 fp2 f02 fM2 hp2 hv2 hn2 ht hx
    go_wp2_with fail
    refine TOLD.out.mono ?_
    rintro e w3 ⟨v, rfl, hr, hm3⟩
    obtain ⟨n0, nf, nl⟩ := box_cells (hm3.block HN2.out)
    have HR := Lib.hid hr
    have HM3 := Lib.hid hm3
    clear hr hm3
    go_wp2_with fail
    have t4 : Turned (fun k => k = p ∨ k = w.heap.size) w3 (w3.setCell ⟨w.heap.size, 0, none⟩ (.int .i64 (-1))) := turned_setCell (Turned.refl _ w3) (fun _ => .inr rfl) _
    have hp4 : (w3.setCell ⟨w.heap.size, 0, none⟩ (.int .i64 (-1))).heap[p]? = _ := (Below.heap_setCell _ _ _ _ (Ne.symm ne2)).trans (HM3.out.block HP2.out)
    have hv4 : (w3.setCell ⟨w.heap.size, 0, none⟩ (.int .i64 (-1))).heap[bv]? = _ := (Below.heap_setCell _ _ _ _ HB.out.vn).trans (HM3.out.block HV2.out)
    have hn4 := box_put (.int .i64 (-1)) (HM3.out.block HN2.out)
    have hm3 := HM3.out
    have hr := HR.out
    have hlp2 := cl
    have hln2 : w.heap.size < w2.heap.size := lt_of_heap HN2.out
    generalize w3.setCell ⟨w.heap.size, 0, none⟩ (.int .i64 (-1)) = w4 at t4 hp4 hv4 hn4 ⊢
    refine leaves_cons (f := 28) (args := #[.pointer (some ⟨bv, 0, none⟩), .pointer (some ⟨w.heap.size, 0, none⟩)]) (by simp) (by simp [go_sem]) ?_
    refine (catch_idle p bv w.heap.size M' q' (-1) w4 hp4 hv4 hn4 ne1 ne2 HB.out.vn).mono ?_
    rintro e u' w5 ⟨rfl, rfl, hc⟩
    obtain ⟨b0, _, _⟩ := box_cells hc.2.1
    have t35 : Turned (fun k => k = p ∨ k = w.heap.size) w3 w5 := t4.trans hc.2.2
    have FIN : RanS w S X (.done D) (.returned (.tuple #[.int .i64 (-1), v])) w5 := by
      refine ⟨v, p, rfl, (hr.keep t35 (fun k hk q => by rcases q with q | q <;> omega)).mono (by omega), ?_, ?_, hc.1⟩
      · exact ran_turn HB.out HT.out ((Turned.mono hm3 (fun _ _ q => q.elim)).trans t35)
      · have hlp := HB.out.lp
        exact HX.out p w2 w5 HX2.out ((Turned.mono hm3 (fun _ _ q => q.elim)).trans (t35.mono (fun k _ q => by rcases q with q | q <;> omega)))
    simp [Leaves, settle, results, Try.results19, go_sem, b0]
    exact FIN
end Go.Proofs.Ytflihdcliknggaa
