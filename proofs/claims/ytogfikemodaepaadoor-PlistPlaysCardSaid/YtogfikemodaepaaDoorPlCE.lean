/-
  A function that is handed the view, and hands back what lies in blocks of its own.
-/
import Derived.Test.YtogfikemodaepaaDoorWay
import Derived.Test.YtogfikemodaepaaDoorInts
import Derived.Test.YtogfikemodaepaaDoorPlA
import Derived.ScopeJumps
import Derived.WalkMore
namespace Go.Proofs.YtogfikemodaepaaDoor
open Go.RowKit
set_option linter.unusedVariables false
set_option linter.unusedSimpArgs false
set_option linter.unusedSectionVars false

/-- As WentV; Post tells of what is handed back. -/
def WentR {α : Type} (w : World) (F : Nat → Prop) (p : Nat) (kn : Int → Option Int) (Post : α → Value → World → (Nat → Prop) → Prop) (R : Res α) (e : Ending) (w' : World) : Prop :=
  match R with
  | .need a => Ended w F p a e w'
  | .ok x D => ∃ v F', e = .returned v ∧ Post x v w' F' ∧ ViewAt w' F' p kn D ∧ Turned F w w' ∧ ∀ k, F' k → F k ∨ w.heap.size ≤ k
/-- A row of integers of its own, that is not the view's. -/
def OwnR (b : Nat) (F : Nat → Prop) (w : World) (v : Value) (xs : List Int) : Prop := Rw b w v xs ∧ (∀ k, v.ownBlock = some k → ¬ F k ∧ b ≤ k ∧ k < w.heap.size)
theorem OwnR.nil (b : Nat) (F : Nat → Prop) (w : World) : OwnR b F w (.slice none 0 0) [] := ⟨Rw.nil _ _, fun k q => by cases q⟩
theorem Rw.own {b : Nat} {w : World} {v : Value} {xs : List Int} (h : Rw b w v xs) {k : Nat} (q : v.ownBlock = some k) : b ≤ k ∧ k < w.heap.size := by
  rcases h.2 with ⟨rfl, _⟩ | ⟨g, cap, cur, rfl, hb, hg, _⟩
  · cases q
  · have : g = k := by simpa [Value.ownBlock] using q
    subst this
    exact ⟨hb, lt_of_heap hg⟩
theorem Rw.keepT {b : Nat} {S : Nat → Prop} {w w' : World} {v : Value} {xs : List Int} (h : Rw b w v xs) (t : Turned S w w') (hs : ∀ k, v.ownBlock = some k → ¬ S k) : Rw b w' v xs := by
  refine ⟨h.1, ?_⟩
  rcases h.2 with q | ⟨g, cap, cur, rfl, hb, hg, r⟩
  · exact .inl q
  · exact .inr ⟨g, cap, cur, rfl, hb, (t.block g (lt_of_heap hg) (hs g rfl)).trans hg, r⟩
theorem OwnR.more {b : Nat} {F : Nat → Prop} {w w' : World} {v : Value} {xs : List Int} (h : OwnR b F w v xs) (m : More w w') : OwnR b F w' v xs :=
  ⟨h.1.more m, fun k q => ⟨(h.2 k q).1, (h.2 k q).2.1, Nat.lt_of_lt_of_le (h.2 k q).2.2 m.size⟩⟩
/-- Behind a call that is handed the view. -/
theorem OwnR.went {b : Nat} {F F' : Nat → Prop} {w w' : World} {v : Value} {xs : List Int} (h : OwnR b F w v xs) (hk : ∀ k o, ¬ F k → w.heap[k]? = some o → w'.heap[k]? = some o) (hf : ∀ k, F' k → F k ∨ w.heap.size ≤ k) : OwnR b F' w' v xs := by
  obtain ⟨r, n⟩ := h
  have key : ∀ k, v.ownBlock = some k → ¬ F' k := fun k q z => by
    rcases hf k z with y | y
    · exact (n k q).1 y
    · have := (n k q).2.2; omega
  rcases r with ⟨h1, q | ⟨g, cap, cur, rfl, hb, hg, rest⟩⟩
  · exact ⟨⟨h1, .inl q⟩, fun k q' => by rw [q.1] at q'; cases q'⟩
  · have hg' := hk g _ (n g rfl).1 hg
    exact ⟨⟨h1, .inr ⟨g, cap, cur, rfl, hb, hg', rest⟩⟩, fun k q => by
      have : g = k := by simpa [Value.ownBlock] using q
      subst this
      exact ⟨key g rfl, hb, lt_of_heap hg'⟩⟩
theorem OwnR.mono {b b' : Nat} {F : Nat → Prop} {w : World} {v : Value} {xs : List Int} (h : OwnR b F w v xs) (hb : b' ≤ b) : OwnR b' F w v xs := ⟨h.1.mono hb, fun k q => ⟨(h.2 k q).1, by have := (h.2 k q).2.1; omega, (h.2 k q).2.2⟩⟩

namespace MidV
variable {W wr w1 w2 : World} {F S F' : Nat → Prop} {p n : Nat} {kn : Int → Option Int} {D : List KV}
theorem stepR {α : Type} {Post : α → Value → World → (Nat → Prop) → Prop} {Q : α → Prop} {pr : Prg α} {e : Ending} (h : MidV W wr F S p kn n D F') (m : More wr w1) (hk : OkK kn) (G : Good n Q pr) (he : WentR w1 F' p kn Post (pr kn D) e w2) :
    (∃ a, pr kn D = .need a ∧ e = .panicked (endOf p) ∧ DeadAt w2 p a ∧ Turned (fun b => F b ∨ S b) W w2 ∧ ∀ b o, ¬ F' b → wr.heap[b]? = some o → w2.heap[b]? = some o) ∨
    (∃ x D1 F1 v, pr kn D = .ok x D1 ∧ e = .returned v ∧ Post x v w2 F1 ∧ MidV W w2 F S p kn n D1 F1 ∧ Q x ∧ (∀ b o, ¬ F' b → wr.heap[b]? = some o → w2.heap[b]? = some o) ∧ ∀ b, F1 b → F' b ∨ wr.heap.size ≤ b) := by
  have hm := h.more m
  have hs := m.size
  have hK : ∀ t, Turned F' w1 t → ∀ b o, ¬ F' b → wr.heap[b]? = some o → t.heap[b]? = some o := fun t ht b o nb hb => (ht.block b (lt_of_heap (m.block hb)) nb).trans (m.block hb)
  cases hE : pr kn D with
  | need a =>
    rw [hE] at he
    obtain ⟨h1, h2, h3⟩ := he
    exact .inl ⟨a, rfl, h1, h2, turned_own hm.turn h3 (fun k q => (h.from' k q).imp .inl id), hK _ h3⟩
  | ok x D1 =>
    rw [hE] at he
    obtain ⟨v, F1, h1, hp, hv, ht, hn⟩ := he
    obtain ⟨i1, q1⟩ := G.ok hk h.inv hE
    refine .inr ⟨x, D1, F1, v, rfl, h1, hp, ⟨hv, fun k q => ?_, turned_own hm.turn ht (fun k q => (h.from' k q).imp .inl id), i1⟩, q1, hK _ ht, fun b q => (hn b q).imp id (fun r => by omega)⟩
    rcases hn k q with r | r
    · exact h.from' k r
    · have := hm.size; exact .inr (by omega)
/-- A row of the function's own has grown. -/
theorem grew {v v' : Value} {b : Nat} {xs ys : List Int} (h : MidV W wr F S p kn n D F') (hr : OwnR b F' wr v xs) (hb : W.heap.size ≤ b) (t : Turned (fun k => v.ownBlock = some k) wr w1) (hr' : Rw b w1 v' ys) (hv' : ∀ k, v'.ownBlock = some k → v.ownBlock = some k ∨ k = wr.heap.size) : MidV W w1 F S p kn n D F' ∧ OwnR b F' w1 v' ys := by
  have lt := h.view.lt
  have hnc : ∀ (k : Nat) es cl, v.ownBlock = some k → wr.heap[k]? ≠ some (.map es cl) := fun k es cl q z => by
    rcases hr.1.2 with ⟨q', _⟩ | ⟨g, cap, cur, q', _, hg, _⟩
    · rw [q'] at q; cases q
    · rw [q'] at q
      have : g = k := by simpa [Value.ownBlock] using q
      subst this
      rw [hg] at z; cases z
  refine ⟨⟨h.view.keepS t (fun k q e => (hr.2 k e).1 q) (fun k es cl e q => hnc k es cl e q), h.from', turned_own h.turn t (fun k q => .inr (by have := (hr.2 k q).2.1; omega)), h.inv⟩, hr', fun k q => ?_⟩
  have hl := hr'.own q
  refine ⟨fun z => ?_, hl.1, hl.2⟩
  rcases hv' k q with r | r
  · exact (hr.2 k r).1 z
  · have := lt k z; omega
end MidV
theorem midR_need {α : Type} {w w1 w2 : World} {F S : Nat → Prop} {p : Nat} {kn : Int → Option Int} {Post : α → Value → World → (Nat → Prop) → Prop} {R : Res α} {a : Int} (m : More w w1) (hS : ∀ b, S b → w.heap.size ≤ b) (hR : R = .need a) (hd : DeadAt w2 p a) (ht : Turned (fun b => F b ∨ S b) w1 w2) : WentR w F p kn Post R (.panicked (endOf p)) w2 := by
  subst hR
  exact ⟨rfl, hd, turned_own (Turned.mono m (fun _ _ q => q.elim)) ht (fun k q => q.imp id (hS k))⟩
theorem midR_done {α : Type} {w w1 w2 : World} {F S F' : Nat → Prop} {p n : Nat} {kn : Int → Option Int} {Post : α → Value → World → (Nat → Prop) → Prop} {R : Res α} {x : α} {D : List KV} {v : Value} (m : More w w1) (hS : ∀ b, S b → w.heap.size ≤ b) (h : MidV w1 w2 F S p kn n D F') (hR : R = .ok x D) (hp : Post x v w2 F') : WentR w F p kn Post R (.returned v) w2 := by
  subst hR
  exact ⟨v, F', rfl, hp, h.view, turned_own (Turned.mono m (fun _ _ q => q.elim)) h.turn (fun k q => q.imp id (hS k)), fun k q => (h.from' k q).imp id (fun r => Nat.le_trans m.size r)⟩
end Go.Proofs.YtogfikemodaepaaDoor

namespace Go.Proofs.YtogfikemodaepaaDoor
open Go.RowKit Go.Sort Go.Maps Go.Shelf
set_option linter.unusedVariables false
set_option linter.unusedSimpArgs false

/-- What through hands back: a row, and whether the page was met. -/
def ThrPost (b : Nat) (r : List Int × Bool) (v : Value) (w : World) (F : Nat → Prop) : Prop := ∃ u, v = .tuple #[u, .bool r.2] ∧ OwnR b F w u r.1
set_option maxRecDepth 100000 in
set_option maxHeartbeats 8000000 in
theorem pl_through {c : Cfg} (R : c.Ok) {n : Nat} (H : HdIn c.pg c.st n) (F : Nat → Prop) (p : Nat) (kn : Int → Option Int) (D : List KV) (q cl f : Int) (w : World) (hv : ViewAt w F p kn D) (hk : OkK kn) (hD : InvD n D) :
    Calls Tryd.prog 33 #[.pointer (some ⟨p, 0, none⟩), .agg c.arr, .int .i64 q, .int .i64 cl, .int .i64 f] w (WentR w F p kn (ThrPost w.heap.size) (plThrP c.pg c.st q cl f kn D)) := by
  obtain ⟨Rr, hRr⟩ : ∃ Rr, plThrP c.pg c.st q cl f kn D = Rr := ⟨_, rfl⟩
  rw [hRr]
  obtain ⟨w1, e1, hl1, m1, s1⟩ := entry1 w (.cells c.arr 28)
  have nFl : ¬ F w.heap.size := fun q => by have := hv.lt _ q; omega
  have MM := Lib.hid m1
  have L0 := Lib.hid hl1
  have M0 : Hid (MidV w1 w1 F (fun _ => False) p kn n D F) := Lib.hid (MidV.begin (hv.more m1) hD)
  have KL : Hid (∀ wr D' F', MidV w1 wr F (fun _ => False) p kn n D' F' → wr.heap[w.heap.size]? = some (.cells c.arr 28 (0, 0))) := Lib.hid fun wr D' F' h => mid_own h L0.out nFl (fun q => q)
  have NEED : Hid (∀ a w2, Rr = .need a → DeadAt w2 p a → Turned (fun b => F b ∨ False) w1 w2 → WentR w F p kn (ThrPost w.heap.size) Rr (.panicked (endOf p)) w2) := Lib.hid fun a w2 e hd ht => midR_need MM.out (fun _ q => q.elim) e hd ht
  have DONE : Hid (∀ x v w2 D' F', Rr = .ok x D' → MidV w1 w2 F (fun _ => False) p kn n D' F' → (ThrPost w.heap.size) x v w2 F' → WentR w F p kn (ThrPost w.heap.size) Rr (.returned v) w2) := Lib.hid fun x v w2 D' F' e h hp => midR_done MM.out (fun _ q => q.elim) h e hp
  have HK := Lib.hid hk
  have HR := Lib.hid R
  have HH := Lib.hid H
  clear hl1 m1 hv hD hk R H nFl
  unfold plThrP at hRr
  have HRr := Lib.hid hRr
  have hfl := field_pages c
  have pg1 := HR.out.pg1
  have pg2 := HR.out.pg2
  have hw1 : w.heap.size ≤ w1.heap.size := by omega
  clear hRr
  go_enter Tryd.func33, Tryd.ntmps33
  go_wp2_with fail
  refine wp_scope_jumps 0 (fun a' w' => ∃ (v : Value) (b : Bool) (u12 u13 u14 u15 u16 u17 u18 u19 u20 u21 u22 u23 u24 u25 u26 u27 u28 u29 u30 u31 u32 u33 u34 u35 u36 u37 u38 u39 u40 u41 u42 : Value), a' = { tmps := #[.pointer (some ⟨p, 0, none⟩), .agg c.arr, .int .i64 q, .int .i64 cl, .int .i64 f, undef, .pointer (some ⟨w.heap.size, 0, none⟩), undef, undef, undef, v, .bool b, u12, u13, u14, u15, u16, u17, u18, u19, u20, u21, u22, u23, u24, u25, u26, u27, u28, u29, u30, u31, u32, u33, u34, u35, u36, u37, u38, u39, u40, u41, u42], defers := [] } ∧ ∃ (l : List Int) (D4 : List KV) (F4 : Nat → Prop), Rr = .ok (l, b) D4 ∧ MidV w1 w' F (fun _ => False) p kn n D4 F4 ∧ OwnR w1.heap.size F4 w' v l) (fun _ _ => 0) rfl ?_ ?_
  · go_wp2_with (first | (refine wpList_load_row rfl 28 _ rfl _ rfl 28 _ _ _ L0.out Tryd.underlying28 rfl (by kernel_rfl) ?_) | (refine wpList_load_rowG rfl 28 _ rfl _ rfl 28 _ _ _ L0.out Tryd.underlying28 rfl (by kernel_rfl) ?_))
    refine (y_head HR.out _ cl f).mono ?_
    rintro e w2 ⟨rfl, h2⟩
    have M2 := Lib.hid (M0.out.more h2)
    have L2 := Lib.hid (KL.out _ _ _ M2.out)
    clear h2
    go_wp2_with (first | (refine wpList_load_row rfl 28 _ rfl _ rfl 28 _ _ _ L2.out Tryd.underlying28 rfl (by kernel_rfl) ?_) | (refine wpList_load_rowG rfl 28 _ rfl _ rfl 28 _ _ _ L2.out Tryd.underlying28 rfl (by kernel_rfl) ?_))
    refine (y_config HR.out _).mono ?_
    rintro e w3 ⟨rfl, h3⟩
    have M3 := Lib.hid (M2.out.more h3)
    clear h3 M2 L2
    go_wp2_with fail
    go_loopw [10, 11, 12, 21] (fun u10 v11 v12 v21 wr => ∃ (v10 : Value) (i : Nat) (a : Int) (l : List Int) (D' : List KV) (F' : Nat → Prop), v10 = u10 ∧ v11 = .bool false ∧ v21 = .int .i64 (i : Int) ∧ (i : Int) ≤ c.pg ∧ v12 = .int .i64 a ∧ W64 a ∧ a < n ∧ MidV w1 wr F (fun _ => False) p kn n D' F' ∧ OwnR w1.heap.size F' wr v10 l ∧ l.length = i ∧ plThrN c.pg c.st q (c.pg.toNat - i) a l kn D' = Rr) (fun _ _ _ v21 _ => c.pg.toNat - (intOf v21).toNat)
    case atStart => exact ⟨_, 0, _, [], D, F, rfl, rfl, rfl, by omega, rfl, (head_b HH.out).2.2, (head_b HH.out).2.1, M3.out, OwnR.nil _ _ _, rfl, HRr.out⟩
    case round =>
      clear M3 HRr
      obtain ⟨v10, i, a, l, D', F', rfl, rfl, rfl, hi, rfl, haw, han, MI, RWI, hl, hrest⟩ := hrel
      have MI := Lib.hid MI
      have RWI := Lib.hid RWI
      have LI := Lib.hid (KL.out _ _ _ MI.out)
      have qi : IntKind.i64.wrap ((i : Int) + 1) = (i : Int) + 1 := wrap_in (by omega) (by omega)
      by_cases hlt : (i : Int) < c.pg
      · have d3 : decide ((i : Int) < c.pg) = true := by simp [hlt]
        rw [show c.pg.toNat - i = (c.pg.toNat - (i + 1)) + 1 by omega] at hrest
        have RI := Lib.hid (show bindP (plLeadP c.pg a) (fun x => if x = q then pureP (l, true) else if x = -1 then pureP (l, false) else plThrN c.pg c.st q (c.pg.toNat - (i + 1)) (nA c.pg c.st x) (l ++ [x])) kn D' = Rr from hrest)
        clear hrest
        go_wp2_with (first | (refine wpList_load_row rfl 28 _ rfl _ rfl 28 _ _ _ LI.out Tryd.underlying28 rfl (by kernel_rfl) ?_) | (refine wpList_load_rowG rfl 28 _ rfl _ rfl 28 _ _ _ LI.out Tryd.underlying28 rfl (by kernel_rfl) ?_))
        refine (pl_leads HR.out HH.out F' p kn D' a haw han wr MI.out.view HK.out MI.out.inv).mono ?_
        intro e w4 he
        rcases MI.out.step (More.refl _) HK.out (good_plLead HH.out han) he with ⟨a', hE, rfl, hd', ht', _⟩ | ⟨x4, D4, F4, hE, rfl, M4, hq4, hkp, hnw⟩
        · exact ⟨rfl, NEED.out a' w4 (RI.out.symm.trans (bindP_need hE)) hd' ht'⟩
        have R4 := Lib.hid ((bindP_ok hE).symm.trans RI.out)
        have RW4 := Lib.hid (RWI.out.went hkp hnw)
        have M4 := Lib.hid M4
        clear he hE hkp hnw
        by_cases ex : x4 = q
        · have d4 : (x4 == q) = true := by simp [ex]
          have E4 := Lib.hid (show Rr = .ok (l, true) D4 from by have := R4.out; rw [if_pos ex] at this; exact this.symm)
          clear R4 ex
          go_wp2_with fail
          go_step3
          refine ⟨rfl, v10, true, _, _, _, _, _, _, _, _, _, _, _, _, _, _, _, _, _, _, _, _, _, _, _, _, _, _, _, _, _, _, _, rfl, ⟨l, D4, F4, E4.out, M4.out, RW4.out⟩⟩
        have d4 : (x4 == q) = false := by simp [ex]
        by_cases en : x4 = -1
        · have d5 : (x4 == -1) = true := by simp [en]
          have E4 := Lib.hid (show Rr = .ok (l, false) D4 from by have := R4.out; rw [if_neg ex, if_pos en] at this; exact this.symm)
          clear R4 ex en
          go_wp2_with fail
          go_step3
          refine ⟨rfl, v10, false, _, _, _, _, _, _, _, _, _, _, _, _, _, _, _, _, _, _, _, _, _, _, _, _, _, _, _, _, _, _, _, rfl, ⟨l, D4, F4, E4.out, M4.out, RW4.out⟩⟩
        have d5 : (x4 == -1) = false := by simp [en]
        have hpx := hq4.resolve_left en
        have P3 := Lib.hid (page3 (st := c.st) hpx)
        have NB := Lib.hid (nv_b HH.out hpx)
        have NX := Lib.hid (show plThrN c.pg c.st q (c.pg.toNat - (i + 1)) (nA c.pg c.st x4) (l ++ [x4]) kn D4 = Rr from by have := R4.out; rw [if_neg ex, if_neg en] at this; exact this)
        clear R4 ex en hq4 hpx haw han
        go_wp2_with fail
        refine wp_region_anyC (TrC c w.heap.size) (by kernel_rfl) ?_
        have MR := Lib.hid (M4.out.more ((More.refl w4).drewN 1))
        have RR := Lib.hid (RW4.out.more ((More.refl w4).drewN 1))
        change anyC _ _ _ _ _ _ _ _ (w4.drewN 1)
        generalize w4.drewN 1 = wq at MR RR ⊢
        clear M4 RW4 MI RWI LI
        generalize hA : Act.mk _ _ = A
        have HF : AG 43 A [(6, .pointer (some ⟨w.heap.size, 0, none⟩)), (13, .int .i64 x4), (10, v10)] := by
          rw [← hA]
          refine ⟨⟨Nat.le_of_ble_eq_true rfl, rfl⟩, ?_⟩
          intro z hz; simp only [List.mem_cons, List.not_mem_nil, or_false] at hz; rcases hz with rfl | rfl | rfl <;> rfl
        refine anyC_start (fun a W => ∃ (u28 u29 u32 u33 u30 u31 u34 v' : Value) (D9 : List KV) (F9 : Nat → Prop), a = (Act.put (Act.put (Act.put (Act.put (Act.put (Act.put (Act.put (Act.put (Act.put A (some 28) u28) (some 29) u29) (some 32) u32) (some 33) u33) (some 30) u30) (some 31) u31) (some 34) u34) (some 10) v') (some 12) (.int .i64 (nA c.pg c.st x4))) ∧ MidV w1 W F (fun _ => False) p kn n D4 F4 ∧ OwnR w1.heap.size F4 W v' (l ++ [x4])) (fun W => WentR w F p kn (ThrPost w.heap.size) Rr (.panicked (endOf p)) W) (endOf p) (fun a W hd h => ⟨hd, h⟩) (fun _ _ _ _ _ h => h) ?_ ?_
        · rintro a wa ⟨u28, u29, u32, u33, u30, u31, u34, v', _, _, rfl, MS, RS⟩
          rw [← hA]
          have MS := Lib.hid MS
          have RS := Lib.hid RS
          clear HF hA MR RR
          go_wp2_with fail
          go_roundw
          case rel => exact ⟨_, i + 1, _, l ++ [x4], D4, F4, rfl, rfl, by go_num, by omega, rfl, NB.out.1.2.2, NB.out.1.2.1, MS.out, RS.out, by simp [hl], NX.out⟩
          case measure => simp [intOf]; omega
        intro QQ FINE FIND FINQ
        clear hA
        refine anyC_takeD (i := 0) (v := v10) (some 28) rfl rfl (by kernel_rfl) (by kernel_rfl) (by kernel_rfl) (fun c a w => FINQ c a _ _ w) (KL.out _ _ _ MR.out) (by exact yieldsC_moveG (wanted_none rfl) _ rfl (HF.get 2 rfl)) ?_
        replace HF : AG 43 A [(6, .pointer (some ⟨w.heap.size, 0, none⟩)), (13, .int .i64 x4)] := HF.sub (fun z hz => by simp only [List.mem_cons, List.not_mem_nil, or_false] at hz ⊢; rcases hz with h | h; exact .inl h; exact .inr (.inl h))
        replace HF := HF.put 28 (v10) (by decide) rfl
        generalize hB1 : Act.put _ _ _ = A at HF ⊢
        refine anyC_takeD (i := 1) (v := .int .i64 x4) (some 29) rfl rfl (by kernel_rfl) (by kernel_rfl) (by kernel_rfl) (fun c a w => FINQ c a _ _ w) (KL.out _ _ _ MR.out) (by exact yieldsC_moveG (wanted_none rfl) _ rfl (HF.get 2 rfl)) ?_
        replace HF := HF.put 29 (.int .i64 x4) (by decide) rfl
        generalize hB2 : Act.put _ _ _ = A at HF ⊢
        refine anyC_takeD (i := 4) (v := .agg c.arr) (some 32) rfl rfl (by kernel_rfl) (by kernel_rfl) (by kernel_rfl) (fun c a w => FINQ c a _ _ w) (KL.out _ _ _ MR.out) (by exact yieldsC_row (C := TrC c w.heap.size) (wanted_none rfl) 28 _ rfl w.heap.size (HF.get 2 rfl) 28 _ _ _ (fun W hW => hW) Tryd.underlying28 rfl (by kernel_rfl)) ?_
        replace HF := HF.put 32 (.agg c.arr) (by decide) rfl
        generalize hB3 : Act.put _ _ _ = A at HF ⊢
        refine anyC_takeD (i := 5) (v := .int .i64 x4) (some 33) rfl rfl (by kernel_rfl) (by kernel_rfl) (by kernel_rfl) (fun c a w => FINQ c a _ _ w) (KL.out _ _ _ MR.out) (by exact yieldsC_moveG (wanted_none rfl) _ rfl (HF.get 4 rfl)) ?_
        replace HF := HF.put 33 (.int .i64 x4) (by decide) rfl
        generalize hB4 : Act.put _ _ _ = A at HF ⊢
        refine anyC_oneK (i := 2) (some 30) (by kernel_rfl) rfl (wanted_none rfl) rfl (fun K hK => ?_)
        refine wp_build1 rfl x4 (HF.get 2 rfl) ?_
        have MRb := Lib.hid (MR.out.more ((More.refl wq).alloc (.cells #[.int .i64 x4] 3)))
        have RRb := Lib.hid (RR.out.more ((More.refl wq).alloc (.cells #[.int .i64 x4] 3)))
        have BL := Lib.hid (heap_new wq (.cells #[.int .i64 x4] 3))
        refine hK _ _ (KL.out _ _ _ MRb.out) ?_
        clear hK K
        generalize hg : wq.heap.size = gb at BL ⊢
        generalize wq.alloc (.cells #[.int .i64 x4] 3) = wqb at MRb RRb BL ⊢
        clear hg
        replace HF := HF.put 30 (.slice (some ⟨gb, 0, none⟩) 1 1) (by decide) rfl
        generalize hB5 : Act.put _ _ _ = A at HF ⊢
        refine anyC_oneK (i := 3) (some 31) (by kernel_rfl) rfl (wanted_none rfl) rfl (fun K hK => ?_)
        refine wp_push (xs := l) x4 _ _ rfl (HF.get 4 rfl) RRb.out.1 (by have := MRb.out.size; omega) (by omega) (HF.get 0 rfl) BL.out ?_
        intro v' wqba hr' ht' hv'
        obtain ⟨mA, rA⟩ := MRb.out.grew RRb.out (Nat.le_refl _) ht' hr' hv'
        have MA := Lib.hid mA
        have RA := Lib.hid rA
        clear mA rA hr' ht' hv'
        refine hK _ _ (KL.out _ _ _ MA.out) ?_
        clear hK K
        replace HF := HF.put 31 (v') (by decide) rfl
        generalize hB6 : Act.put _ _ _ = A at HF ⊢
        refine anyC_oneK (i := 6) (some 34) (by kernel_rfl) rfl (wanted_none rfl) rfl (fun K hK => ?_)
        refine wp_call2 (v0 := .agg c.arr) (v1 := .int .i64 x4) rfl (HF.get 3 rfl) (HF.get 2 rfl) (enters_of Tryd.func44 (by kernel_rfl) rfl) ?_
        refine (y_next HR.out wqba x4).mono ?_
        rw [P3.out]
        rintro e wqban ⟨rfl, hn'⟩
        have MAn := Lib.hid (MA.out.more hn')
        have RAn := Lib.hid (RA.out.more hn')
        skip
        clear hn'
        refine hK _ _ (KL.out _ _ _ MAn.out) ?_
        clear hK K
        replace HF := HF.put 34 (.int .i64 (nA c.pg c.st x4)) (by decide) rfl
        generalize hB7 : Act.put _ _ _ = A at HF ⊢
        refine anyC_takeD (i := 7) (v := v') (some 10) rfl rfl (by kernel_rfl) (by kernel_rfl) (by kernel_rfl) (fun c a w => FINQ c a _ _ w) (KL.out _ _ _ MAn.out) (by exact yieldsC_assign (wanted_none rfl) _ rfl (HF.get 1 rfl)) ?_
        replace HF := HF.put 10 (v') (by decide) rfl
        generalize hC1 : Act.put _ _ _ = A at HF ⊢
        refine anyC_takeD (i := 8) (v := .int .i64 (nA c.pg c.st x4)) (some 12) rfl rfl (by kernel_rfl) (by kernel_rfl) (by kernel_rfl) (fun c a w => FINQ c a _ _ w) (KL.out _ _ _ MAn.out) (by exact yieldsC_assign (wanted_none rfl) _ rfl (HF.get 1 rfl)) ?_
        replace HF := HF.put 12 (.int .i64 (nA c.pg c.st x4)) (by decide) rfl
        generalize hC2 : Act.put _ _ _ = A at HF ⊢
        exact anyC_done (by kernel_rfl) (FINE _ _ ⟨_, _, _, _, _, _, _, v', D4, F4, by rw [← hC2, ← hC1, ← hB7, ← hB6, ← hB5, ← hB4, ← hB3, ← hB2, ← hB1], MAn.out, RAn.out⟩)
      · have hie : (i : Int) = c.pg := by omega
        have d3 : decide ((i : Int) < c.pg) = false := by simp; omega
        rw [show c.pg.toNat - i = 0 by omega] at hrest
        have FIN := Lib.hid (DONE.out (l, false) (.tuple #[v10, .bool false]) wr D' F' hrest.symm MI.out ⟨v10, rfl, RWI.out.mono hw1⟩)
        clear hrest
        go_wp2_with fail
        go_step3
        go_wp2_with fail
        go_ret2
        exact FIN.out
  · rintro a w' ⟨v, b, u12, u13, u14, u15, u16, u17, u18, u19, u20, u21, u22, u23, u24, u25, u26, u27, u28, u29, u30, u31, u32, u33, u34, u35, u36, u37, u38, u39, u40, u41, u42, rfl, l, D4, F4, hE, MS, RS⟩
    have FIN := Lib.hid (DONE.out (l, b) (.tuple #[v, .bool b]) w' D4 F4 hE MS ⟨v, rfl, RS.mono hw1⟩)
    clear hE MS RS
    go_wp2_with fail
    go_ret2
    exact FIN.out
end Go.Proofs.YtogfikemodaepaaDoor

namespace Go.Proofs.YtogfikemodaepaaDoor
open Go.RowKit Go.Sort Go.Maps Go.Shelf
set_option linter.unusedVariables false
set_option linter.unusedSimpArgs false

/-- What List hands back. -/
def ListPost (b : Nat) (l : List Int) (v : Value) (w : World) (F : Nat → Prop) : Prop := OwnR b F w v l
set_option maxRecDepth 100000 in
set_option maxHeartbeats 4000000 in
theorem pl_List {c : Cfg} (R : c.Ok) {n : Nat} (H : HdIn c.pg c.st n) (F : Nat → Prop) (p : Nat) (kn : Int → Option Int) (D : List KV) (cl f : Int) (w : World) (hv : ViewAt w F p kn D) (hk : OkK kn) (hD : InvD n D) :
    Calls Tryd.prog 12 #[.pointer (some ⟨p, 0, none⟩), .agg c.arr, .int .i64 cl, .int .i64 f] w (WentR w F p kn (ListPost w.heap.size) (plListP c.pg c.st cl f kn D)) := by
  obtain ⟨Rr, hRr⟩ : ∃ Rr, plListP c.pg c.st cl f kn D = Rr := ⟨_, rfl⟩
  rw [hRr]
  obtain ⟨w1, e1, hl1, m1, s1⟩ := entry1 w (.cells c.arr 28)
  have nFl : ¬ F w.heap.size := fun q => by have := hv.lt _ q; omega
  have MM := Lib.hid m1
  have L0 := Lib.hid hl1
  have M0 : Hid (MidV w1 w1 F (fun _ => False) p kn n D F) := Lib.hid (MidV.begin (hv.more m1) hD)
  have KL : Hid (∀ wr D' F', MidV w1 wr F (fun _ => False) p kn n D' F' → wr.heap[w.heap.size]? = some (.cells c.arr 28 (0, 0))) := Lib.hid fun wr D' F' h => mid_own h L0.out nFl (fun q => q)
  have NEED : Hid (∀ a w2, Rr = .need a → DeadAt w2 p a → Turned (fun b => F b ∨ False) w1 w2 → WentR w F p kn (ListPost w.heap.size) Rr (.panicked (endOf p)) w2) := Lib.hid fun a w2 e hd ht => midR_need MM.out (fun _ q => q.elim) e hd ht
  have DONE : Hid (∀ x v w2 D' F', Rr = .ok x D' → MidV w1 w2 F (fun _ => False) p kn n D' F' → (ListPost w.heap.size) x v w2 F' → WentR w F p kn (ListPost w.heap.size) Rr (.returned v) w2) := Lib.hid fun x v w2 D' F' e h hp => midR_done MM.out (fun _ q => q.elim) h e hp
  have HK := Lib.hid hk
  have HR := Lib.hid R
  have HH := Lib.hid H
  clear hl1 m1 hv hD hk R H nFl
  have HRr := Lib.hid (show bindP (plThrP c.pg c.st (-1) cl f) (fun r => pureP r.1) kn D = Rr from hRr)
  have hw1 : w.heap.size ≤ w1.heap.size := by omega
  clear hRr
  go_enter Tryd.func12, Tryd.ntmps12
  go_wp2_with (first | (refine wpList_load_row rfl 28 _ rfl _ rfl 28 _ _ _ L0.out Tryd.underlying28 rfl (by kernel_rfl) ?_) | (refine wpList_load_rowG rfl 28 _ rfl _ rfl 28 _ _ _ L0.out Tryd.underlying28 rfl (by kernel_rfl) ?_))
  refine (pl_through HR.out HH.out F p kn D (-1) cl f w1 M0.out.view HK.out M0.out.inv).mono ?_
  intro e w2 he
  rcases M0.out.stepR (More.refl _) HK.out (good_plThr HH.out (-1) cl f) he with ⟨a', hE, rfl, hd', ht', _⟩ | ⟨r, D2, F2, v, hE, rfl, ⟨u, rfl, hu⟩, M2, _, _, _⟩
  · exact ⟨rfl, NEED.out a' w2 (HRr.out.symm.trans (bindP_need hE)) hd' ht'⟩
  have FIN := Lib.hid (DONE.out r.1 u w2 D2 F2 (HRr.out.symm.trans (bindP_ok hE)) M2 (hu.mono hw1))
  clear he hE M2 hu
  go_wp2_with fail
  go_ret
  exact FIN.out

set_option maxRecDepth 100000 in
set_option maxHeartbeats 4000000 in
theorem pl_Unlink {c : Cfg} (R : c.Ok) {n : Nat} (H : HdIn c.pg c.st n) (hn : n ≤ 10000) (F : Nat → Prop) (p : Nat) (kn : Int → Option Int) (D : List KV) (q cl f : Int) (w : World) (hv : ViewAt w F p kn D) (hk : OkK kn) (hD : InvD n D) :
    Calls Tryd.prog 23 #[.pointer (some ⟨p, 0, none⟩), .agg c.arr, .int .i64 q, .int .i64 cl, .int .i64 f] w (WentV w F p kn (fun b => .bool b) (plUnlinkP c.pg c.st q cl f kn D)) := by
  obtain ⟨Rr, hRr⟩ : ∃ Rr, plUnlinkP c.pg c.st q cl f kn D = Rr := ⟨_, rfl⟩
  rw [hRr]
  obtain ⟨w1, e1, hl1, m1, s1⟩ := entry1 w (.cells c.arr 28)
  have nFl : ¬ F w.heap.size := fun q => by have := hv.lt _ q; omega
  have MM := Lib.hid m1
  have L0 := Lib.hid hl1
  have M0 : Hid (MidV w1 w1 F (fun _ => False) p kn n D F) := Lib.hid (MidV.begin (hv.more m1) hD)
  have KL : Hid (∀ wr D' F', MidV w1 wr F (fun _ => False) p kn n D' F' → wr.heap[w.heap.size]? = some (.cells c.arr 28 (0, 0))) := Lib.hid fun wr D' F' h => mid_own h L0.out nFl (fun q => q)
  have NEED : Hid (∀ a w2, Rr = .need a → DeadAt w2 p a → Turned (fun b => F b ∨ False) w1 w2 → WentV w F p kn (fun b : Bool => Value.bool b) Rr (.panicked (endOf p)) w2) := Lib.hid fun a w2 e hd ht => mid_need MM.out (fun _ q => q.elim) e hd ht
  have DONE : Hid (∀ x w2 D' F', Rr = .ok x D' → MidV w1 w2 F (fun _ => False) p kn n D' F' → WentV w F p kn (fun b : Bool => Value.bool b) Rr (.returned ((fun b : Bool => Value.bool b) x)) w2) := Lib.hid fun x w2 D' F' e h => mid_done MM.out (fun _ q => q.elim) h e
  have HK := Lib.hid hk
  have HR := Lib.hid R
  have HH := Lib.hid H
  clear hl1 m1 hv hD hk R H nFl
  unfold plUnlinkP at hRr
  cases hq : isPage c.pg q with
  | false =>
    rw [hq] at hRr
    have FIN : Hid (∀ w2, More w1 w2 → WentV w F p kn (fun b : Bool => Value.bool b) Rr (.returned (.bool false)) w2) := Lib.hid fun w2 h => DONE.out false w2 D F hRr.symm (M0.out.more h)
    clear hRr
    go_enter Tryd.func23, Tryd.ntmps23
    go_wp2_with (first | (refine wpList_load_row rfl 28 _ rfl _ rfl 28 _ _ _ L0.out Tryd.underlying28 rfl (by kernel_rfl) ?_) | (refine wpList_load_rowG rfl 28 _ rfl _ rfl 28 _ _ _ L0.out Tryd.underlying28 rfl (by kernel_rfl) ?_))
    refine (pl_there HR.out HH.out q _).mono ?_
    rw [hq]
    rintro e w3 ⟨rfl, h3⟩
    have H3 := Lib.hid h3
    clear h3
    go_wp2_with fail
    go_ret
    exact FIN.out _ H3.out
  | true =>
    rw [hq] at hRr
    have HRr := Lib.hid (show bindP (plThrP c.pg c.st q cl f) (fun r => if r.2 then bindP (plLeadP c.pg (nA c.pg c.st q)) (fun x => bindP (plJoinP c.pg c.st (headV c.pg c.st cl f) (lastO r.1) x) fun _ => bindP (writeP (nA c.pg c.st q) 0) fun _ => bindP (writeP (vA c.pg c.st q) 0) fun _ => pureP true) else pureP false) kn D = Rr from hRr)
    have P3 := Lib.hid (page3 (st := c.st) hq)
    have P4 := Lib.hid (page4 (st := c.st) hq)
    have NB := Lib.hid (nv_b HH.out hq)
    have HQ := Lib.hid hq
    clear hRr hq
    go_enter Tryd.func23, Tryd.ntmps23
    go_wp2_with (first | (refine wpList_load_row rfl 28 _ rfl _ rfl 28 _ _ _ L0.out Tryd.underlying28 rfl (by kernel_rfl) ?_) | (refine wpList_load_rowG rfl 28 _ rfl _ rfl 28 _ _ _ L0.out Tryd.underlying28 rfl (by kernel_rfl) ?_))
    refine (pl_there HR.out HH.out q _).mono ?_
    rw [HQ.out]
    rintro e w2 ⟨rfl, h2⟩
    have M2 := Lib.hid (M0.out.more h2)
    have L2 := Lib.hid (KL.out _ _ _ M2.out)
    clear h2
    go_wp2_with (first | (refine wpList_load_row rfl 28 _ rfl _ rfl 28 _ _ _ L2.out Tryd.underlying28 rfl (by kernel_rfl) ?_) | (refine wpList_load_rowG rfl 28 _ rfl _ rfl 28 _ _ _ L2.out Tryd.underlying28 rfl (by kernel_rfl) ?_))
    refine (pl_through HR.out HH.out F p kn D q cl f w2 M2.out.view HK.out M2.out.inv).mono ?_
    intro e w3 he
    rcases M2.out.stepR (More.refl _) HK.out (good_plThr HH.out q cl f) he with ⟨a', hE, rfl, hd', ht', _⟩ | ⟨⟨xs, b⟩, D2, F2, v, hE, rfl, ⟨u, rfl, hu⟩, M3, hxs, _, _⟩
    · exact ⟨rfl, NEED.out a' w3 (HRr.out.symm.trans (bindP_need hE)) hd' ht'⟩
    have R2 := Lib.hid ((bindP_ok hE).symm.trans HRr.out)
    have HXS := Lib.hid (show ∀ x ∈ xs, isPage c.pg x = true from hxs.1)
    have hxl : xs.length ≤ 256 := hxs.2
    have M3 := Lib.hid M3
    have L3 := Lib.hid (KL.out _ _ _ M3.out)
    have HU := Lib.hid (show OwnR w2.heap.size F2 w3 u xs from hu)
    clear he hE hxs hu M2 L2
    cases b with
    | false =>
      have FIN := Lib.hid (DONE.out false w3 D2 F2 R2.out.symm M3.out)
      clear R2
      go_wp2_with fail
      go_ret
      exact FIN.out
    | true =>
      have R2' := Lib.hid (show bindP (plLeadP c.pg (nA c.pg c.st q)) (fun x => bindP (plJoinP c.pg c.st (headV c.pg c.st cl f) (lastO xs) x) fun _ => bindP (writeP (nA c.pg c.st q) 0) fun _ => bindP (writeP (vA c.pg c.st q) 0) fun _ => pureP true) kn D2 = Rr from R2.out)
      obtain ⟨av, cv, rfl, hrd⟩ := HU.out.1.reads
      by_cases h0 : xs.length = 0
      · have hxn : xs = [] := List.length_eq_zero_iff.1 h0
        subst hxn
        clear R2 hrd h0 HU
        go_wp2_with fail
        refine wp_region_anyC (TrC c w.heap.size) (by kernel_rfl) ?_
        have MR := Lib.hid (M3.out.more ((More.refl w3).drewN 1))
        change anyC _ _ _ _ _ _ _ _ (w3.drewN 1)
        generalize w3.drewN 1 = wr at MR ⊢
        generalize hA : Act.mk _ _ = A
        have HF : AG 63 A [(0, .pointer (some ⟨p, 0, none⟩)), (1, .agg c.arr), (2, .int .i64 q), (3, .int .i64 cl), (4, .int .i64 f), (6, .pointer (some ⟨w.heap.size, 0, none⟩)), (13, .int .i64 (-1))] := by
          rw [← hA]
          refine ⟨⟨Nat.le_of_ble_eq_true rfl, rfl⟩, ?_⟩
          intro z hz; simp only [List.mem_cons, List.not_mem_nil, or_false] at hz; rcases hz with rfl | rfl | rfl | rfl | rfl | rfl | rfl <;> rfl
        refine anyC_start (fun a W => ∃ (u39 u40 u41 u42 u43 u45 u46 u47 u48 u49 u44 u50 u51 u52 : Value) (D9 : List KV) (F9 : Nat → Prop), a = (Act.put (Act.put (Act.put (Act.put (Act.put (Act.put (Act.put (Act.put (Act.put (Act.put (Act.put (Act.put (Act.put (Act.put A (some 39) u39) (some 40) u40) (some 41) u41) (some 42) u42) (some 43) u43) (some 45) u45) (some 46) u46) (some 47) u47) (some 48) u48) (some 49) u49) (some 44) u44) (some 50) u50) (some 51) u51) (some 52) u52) ∧ MidV w1 W F (fun _ => False) p kn n D9 F9 ∧ bindP (writeP (nA c.pg c.st q) 0) (fun _ => bindP (writeP (vA c.pg c.st q) 0) fun _ => pureP true) kn D9 = Rr) (fun W => WentV w F p kn (fun b : Bool => Value.bool b) Rr (.panicked (endOf p)) W) (endOf p) (fun a W hd h => ⟨hd, h⟩) (fun _ _ _ _ _ h => h) ?_ ?_
        · skip
          rintro a wa ⟨u39, u40, u41, u42, u43, u45, u46, u47, u48, u49, u44, u50, u51, u52, D7, F7, rfl, MS, RS⟩
          rw [← hA]
          have MS := Lib.hid MS
          have LS := Lib.hid (KL.out _ _ _ MS.out)
          have RS := Lib.hid RS
          clear HF hA MR M3 R2' L3
          go_wp2_with (first | (refine wpList_load_row rfl 28 _ rfl _ rfl 28 _ _ _ LS.out Tryd.underlying28 rfl (by kernel_rfl) ?_) | (refine wpList_load_rowG rfl 28 _ rfl _ rfl 28 _ _ _ LS.out Tryd.underlying28 rfl (by kernel_rfl) ?_))
          refine (y_next HR.out _ q).mono ?_
          rw [P3.out]
          rintro e w8 ⟨rfl, h8⟩
          have M8 := Lib.hid (MS.out.more h8)
          clear h8
          go_wp2_with fail
          refine (write_any F7 p kn D7 _ 0 w8 M8.out.view (by have := M8.out.inv.len; omega)).mono ?_
          intro e w9 he
          rcases M8.out.step (More.refl _) HK.out (good_write n NB.out.1.2.2 NB.out.1.2.1 (by unfold W64; omega)) he with ⟨a', hE, rfl, hd', ht', _⟩ | ⟨x9, D9, F9, hE, rfl, M9, hq9, _, _⟩
          · exact ⟨rfl, NEED.out a' w9 (RS.out.symm.trans (bindP_need hE)) hd' ht'⟩
          have L9 := Lib.hid (KL.out _ _ _ M9)
          have R9 := Lib.hid ((bindP_ok hE).symm.trans RS.out)
          have M9 := Lib.hid M9
          clear he hE
          go_wp2_with (first | (refine wpList_load_row rfl 28 _ rfl _ rfl 28 _ _ _ L9.out Tryd.underlying28 rfl (by kernel_rfl) ?_) | (refine wpList_load_rowG rfl 28 _ rfl _ rfl 28 _ _ _ L9.out Tryd.underlying28 rfl (by kernel_rfl) ?_))
          refine (y_prev HR.out _ q).mono ?_
          rw [P4.out]
          rintro e w10 ⟨rfl, h10⟩
          have M10 := Lib.hid (M9.out.more h10)
          clear h10
          go_wp2_with fail
          refine (write_any F9 p kn D9 _ 0 w10 M10.out.view (by have := M10.out.inv.len; omega)).mono ?_
          intro e w11 he
          rcases M10.out.step (More.refl _) HK.out (good_write n NB.out.2.2.2 NB.out.2.2.1 (by unfold W64; omega)) he with ⟨a', hE, rfl, hd', ht', _⟩ | ⟨x11, D11, F11, hE, rfl, M11, hq11, _, _⟩
          · exact ⟨rfl, NEED.out a' w11 (R9.out.symm.trans (bindP_need hE)) hd' ht'⟩
          have FIN := Lib.hid (DONE.out true w11 D11 F11 (R9.out.symm.trans (bindP_ok hE)) M11)
          clear he hE M11
          go_wp2_with fail
          go_ret
          exact FIN.out
        intro QQ FINE FIND FINQ
        clear hA
        refine anyC_takeD (i := 0) (v := .pointer (some ⟨p, 0, none⟩)) (some 39) rfl rfl (by kernel_rfl) (by kernel_rfl) (by kernel_rfl) (fun c a w => FINQ c a _ _ w) (KL.out _ _ _ MR.out) (by exact yieldsC_moveG (wanted_none rfl) _ rfl (HF.get 0 rfl)) ?_
        replace HF := HF.put 39 (.pointer (some ⟨p, 0, none⟩)) (by decide) rfl
        generalize hB1_39 : Act.put _ _ _ = A at HF ⊢
        refine anyC_takeD (i := 1) (v := .agg c.arr) (some 40) rfl rfl (by kernel_rfl) (by kernel_rfl) (by kernel_rfl) (fun c a w => FINQ c a _ _ w) (KL.out _ _ _ MR.out) (by exact yieldsC_row (C := (TrC c w.heap.size)) (wanted_none rfl) 28 _ rfl w.heap.size (HF.get 6 rfl) 28 _ _ _ (fun W hW => hW) Tryd.underlying28 rfl (by kernel_rfl)) ?_
        replace HF := HF.put 40 (.agg c.arr) (by decide) rfl
        generalize hB2_40 : Act.put _ _ _ = A at HF ⊢
        refine anyC_takeD (i := 2) (v := .agg c.arr) (some 41) rfl rfl (by kernel_rfl) (by kernel_rfl) (by kernel_rfl) (fun c a w => FINQ c a _ _ w) (KL.out _ _ _ MR.out) (by exact yieldsC_row (C := (TrC c w.heap.size)) (wanted_none rfl) 28 _ rfl w.heap.size (HF.get 7 rfl) 28 _ _ _ (fun W hW => hW) Tryd.underlying28 rfl (by kernel_rfl)) ?_
        replace HF := HF.put 41 (.agg c.arr) (by decide) rfl
        generalize hB3_41 : Act.put _ _ _ = A at HF ⊢
        refine anyC_takeD (i := 3) (v := .int .i64 cl) (some 42) rfl rfl (by kernel_rfl) (by kernel_rfl) (by kernel_rfl) (fun c a w => FINQ c a _ _ w) (KL.out _ _ _ MR.out) (by exact yieldsC_moveG (wanted_none rfl) _ rfl (HF.get 6 rfl)) ?_
        replace HF := HF.put 42 (.int .i64 cl) (by decide) rfl
        generalize hB4_42 : Act.put _ _ _ = A at HF ⊢
        refine anyC_takeD (i := 4) (v := .int .i64 f) (some 43) rfl rfl (by kernel_rfl) (by kernel_rfl) (by kernel_rfl) (fun c a w => FINQ c a _ _ w) (KL.out _ _ _ MR.out) (by exact yieldsC_moveG (wanted_none rfl) _ rfl (HF.get 8 rfl)) ?_
        replace HF := HF.put 43 (.int .i64 f) (by decide) rfl
        generalize hB5_43 : Act.put _ _ _ = A at HF ⊢
        refine anyC_takeD (i := 6) (v := .int .i64 (-1)) (some 45) rfl rfl (by kernel_rfl) (by kernel_rfl) (by kernel_rfl) (fun c a w => FINQ c a _ _ w) (KL.out _ _ _ MR.out) (by exact yieldsC_moveG (wanted_none rfl) _ rfl (HF.get 11 rfl)) ?_
        replace HF := HF.put 45 (.int .i64 (-1)) (by decide) rfl
        generalize hB6_45 : Act.put _ _ _ = A at HF ⊢
        refine anyC_takeD (i := 7) (v := .pointer (some ⟨p, 0, none⟩)) (some 46) rfl rfl (by kernel_rfl) (by kernel_rfl) (by kernel_rfl) (fun c a w => FINQ c a _ _ w) (KL.out _ _ _ MR.out) (by exact yieldsC_moveG (wanted_none rfl) _ rfl (HF.get 6 rfl)) ?_
        replace HF := HF.put 46 (.pointer (some ⟨p, 0, none⟩)) (by decide) rfl
        generalize hB7_46 : Act.put _ _ _ = A at HF ⊢
        refine anyC_takeD (i := 8) (v := .agg c.arr) (some 47) rfl rfl (by kernel_rfl) (by kernel_rfl) (by kernel_rfl) (fun c a w => FINQ c a _ _ w) (KL.out _ _ _ MR.out) (by exact yieldsC_row (C := (TrC c w.heap.size)) (wanted_none rfl) 28 _ rfl w.heap.size (HF.get 12 rfl) 28 _ _ _ (fun W hW => hW) Tryd.underlying28 rfl (by kernel_rfl)) ?_
        replace HF := HF.put 47 (.agg c.arr) (by decide) rfl
        generalize hB8_47 : Act.put _ _ _ = A at HF ⊢
        refine anyC_takeD (i := 9) (v := .agg c.arr) (some 48) rfl rfl (by kernel_rfl) (by kernel_rfl) (by kernel_rfl) (fun c a w => FINQ c a _ _ w) (KL.out _ _ _ MR.out) (by exact yieldsC_row (C := (TrC c w.heap.size)) (wanted_none rfl) 28 _ rfl w.heap.size (HF.get 13 rfl) 28 _ _ _ (fun W hW => hW) Tryd.underlying28 rfl (by kernel_rfl)) ?_
        replace HF := HF.put 48 (.agg c.arr) (by decide) rfl
        generalize hB9_48 : Act.put _ _ _ = A at HF ⊢
        refine anyC_takeD (i := 10) (v := .int .i64 q) (some 49) rfl rfl (by kernel_rfl) (by kernel_rfl) (by kernel_rfl) (fun c a w => FINQ c a _ _ w) (KL.out _ _ _ MR.out) (by exact yieldsC_moveG (wanted_none rfl) _ rfl (HF.get 11 rfl)) ?_
        replace HF := HF.put 49 (.int .i64 q) (by decide) rfl
        generalize hB10_49 : Act.put _ _ _ = A at HF ⊢
        refine anyC_oneK (i := 5) (some 44) (by kernel_rfl) rfl (wanted_none rfl) rfl (fun K hK => ?_)
        refine wp_call3 (v0 := .agg c.arr) (v1 := .int .i64 cl) (v2 := .int .i64 f) rfl (HF.get 7 rfl) (HF.get 6 rfl) (HF.get 5 rfl) (enters_of Tryd.func35 (by kernel_rfl) rfl) ?_
        refine (y_head HR.out wr cl f).mono ?_
        rintro e w4 ⟨rfl, h4⟩
        have M4 := Lib.hid (MR.out.more h4)
        clear h4
        refine hK _ _ (KL.out _ _ _ M4.out) ?_
        clear hK K
        replace HF := HF.put 44 (.int .i64 (headV c.pg c.st cl f)) (by decide) rfl
        generalize hB11_44 : Act.put _ _ _ = A at HF ⊢
        refine anyC_oneK (i := 11) (some 50) (by kernel_rfl) rfl (wanted_none rfl) rfl (fun K hK => ?_)
        refine wp_call2 (v0 := .agg c.arr) (v1 := .int .i64 q) rfl (HF.get 2 rfl) (HF.get 1 rfl) (enters_of Tryd.func44 (by kernel_rfl) rfl) ?_
        refine (y_next HR.out w4 q).mono ?_
        rw [P3.out]
        rintro e w5 ⟨rfl, h5⟩
        have M5 := Lib.hid (M4.out.more h5)
        clear h5
        refine hK _ _ (KL.out _ _ _ M5.out) ?_
        clear hK K
        replace HF := HF.put 50 (.int .i64 (nA c.pg c.st q)) (by decide) rfl
        generalize hB12_50 : Act.put _ _ _ = A at HF ⊢
        refine anyC_oneK (i := 12) (some 51) (by kernel_rfl) rfl (wanted_none rfl) rfl (fun K hK => ?_)
        refine wp_call3 (v0 := .pointer (some ⟨p, 0, none⟩)) (v1 := .agg c.arr) (v2 := .int .i64 (nA c.pg c.st q)) rfl (HF.get 5 rfl) (HF.get 4 rfl) (HF.get 0 rfl) (enters_of Tryd.func34 (by kernel_rfl) rfl) ?_
        refine (pl_leads HR.out HH.out F2 p kn D2 (nA c.pg c.st q) NB.out.1.2.2 NB.out.1.2.1 w5 M5.out.view HK.out M5.out.inv).mono ?_
        intro e w6 he
        rcases M5.out.step (More.refl _) HK.out (good_plLead HH.out NB.out.1.2.1) he with ⟨a', hE, rfl, hd', ht', _⟩ | ⟨x6, D6, F6, hE, rfl, M6, hq6, _, _⟩
        · exact FIND _ _ HF.1.2 (NEED.out a' w6 (R2'.out.symm.trans (bindP_need hE)) hd' ht')
        have R6 := Lib.hid ((bindP_ok hE).symm.trans R2'.out)
        have M6 := Lib.hid M6
        clear he hE
        refine hK _ _ (KL.out _ _ _ M6.out) ?_
        clear hK K
        replace HF := HF.put 51 (.int .i64 x6) (by decide) rfl
        generalize hB13_51 : Act.put _ _ _ = A at HF ⊢
        refine anyC_oneK (i := 13) (some 52) (by kernel_rfl) rfl (wanted_none rfl) rfl (fun K hK => ?_)
        refine wp_call5 (v0 := .pointer (some ⟨p, 0, none⟩)) (v1 := .agg c.arr) (v2 := .int .i64 (headV c.pg c.st cl f)) (v3 := .int .i64 (-1)) (v4 := .int .i64 x6) rfl (HF.get 12 rfl) (HF.get 11 rfl) (HF.get 2 rfl) (HF.get 7 rfl) (HF.get 0 rfl) (enters_of Tryd.func43 (by kernel_rfl) rfl) ?_
        refine (pl_join HR.out HH.out hn F6 p kn D6 (headV c.pg c.st cl f) (-1) x6 (head_b HH.out).2.2 (head_b HH.out).2.1 (.inl rfl) hq6 w6 M6.out.view HK.out M6.out.inv).mono ?_
        intro e w7 he
        rcases M6.out.step (More.refl _) HK.out (good_plJoin HH.out (head_b HH.out).2.2 (head_b HH.out).2.1 (.inl rfl) hq6) he with ⟨a', hE, rfl, hd', ht', _⟩ | ⟨x7, D7, F7, hE, rfl, M7, hq7, _, _⟩
        · exact FIND _ _ HF.1.2 (NEED.out a' w7 (R6.out.symm.trans (bindP_need hE)) hd' ht')
        have R7 := Lib.hid ((bindP_ok hE).symm.trans R6.out)
        have M7 := Lib.hid M7
        clear he hE
        refine hK _ _ (KL.out _ _ _ M7.out) ?_
        clear hK K
        replace HF := HF.put 52 (.tuple #[]) (by decide) rfl
        generalize hB14_52 : Act.put _ _ _ = A at HF ⊢
        exact anyC_done (by kernel_rfl) (FINE _ _ ⟨(.pointer (some ⟨p, 0, none⟩)), (.agg c.arr), (.agg c.arr), (.int .i64 cl), (.int .i64 f), (.int .i64 (-1)), (.pointer (some ⟨p, 0, none⟩)), (.agg c.arr), (.agg c.arr), (.int .i64 q), (.int .i64 (headV c.pg c.st cl f)), (.int .i64 (nA c.pg c.st q)), (.int .i64 x6), (.tuple #[]), D7, F7, by rw [← hB14_52, ← hB13_51, ← hB12_50, ← hB11_44, ← hB10_49, ← hB9_48, ← hB8_47, ← hB7_46, ← hB6_45, ← hB5_43, ← hB4_42, ← hB3_41, ← hB2_40, ← hB1_39], M7.out, R7.out⟩)
      · obtain ⟨g, rfl, _, _, hcell⟩ := hrd 0 (by omega)
        have d0 : decide ((0 : Int) < (xs.length : Int)) = true := by simp; omega
        have hlast : xs.getD (xs.length - 1) 0 = lastO xs := by
          unfold lastO
          rw [List.getD_eq_getElem?_getD, List.getD_eq_getElem?_getD, List.getElem?_eq_getElem (by omega)]
          rfl
        have hc := hcell (xs.length - 1) (by omega)
        rw [hlast] at hc
        obtain ⟨m, hm⟩ : ∃ m : Nat, xs.length = m + 1 := ⟨xs.length - 1, by omega⟩
        rw [hm] at hc ⊢
        have hc : w3.cell? ⟨g, m, none⟩ = some (.int .i64 (lastO xs)) := hc
        have hm9 : m < 9000000000000000000 := by omega
        have q1 : IntKind.i64.wrap (((m + 1 : Nat) : Int) - 1) = (m : Int) := by rw [show ((m + 1 : Nat) : Int) - 1 = (m : Int) by omega]; exact wrap_in (by omega) (by omega)
        have d1 : decide ((0 : Int) < ((m + 1 : Nat) : Int)) = true := by simp
        clear R2 hrd h0 HU hcell hlast hm d0
        go_wp2_with fail
        clear hc
        refine wp_region_anyC (TrC c w.heap.size) (by kernel_rfl) ?_
        have MR := Lib.hid (M3.out.more ((More.refl w3).drewN 1))
        change anyC _ _ _ _ _ _ _ _ (w3.drewN 1)
        generalize w3.drewN 1 = wr at MR ⊢
        generalize hA : Act.mk _ _ = A
        have HF : AG 63 A [(0, .pointer (some ⟨p, 0, none⟩)), (1, .agg c.arr), (2, .int .i64 q), (3, .int .i64 cl), (4, .int .i64 f), (6, .pointer (some ⟨w.heap.size, 0, none⟩)), (13, .int .i64 (lastO xs))] := by
          rw [← hA]
          refine ⟨⟨Nat.le_of_ble_eq_true rfl, rfl⟩, ?_⟩
          intro z hz; simp only [List.mem_cons, List.not_mem_nil, or_false] at hz; rcases hz with rfl | rfl | rfl | rfl | rfl | rfl | rfl <;> rfl
        refine anyC_start (fun a W => ∃ (u39 u40 u41 u42 u43 u45 u46 u47 u48 u49 u44 u50 u51 u52 : Value) (D9 : List KV) (F9 : Nat → Prop), a = (Act.put (Act.put (Act.put (Act.put (Act.put (Act.put (Act.put (Act.put (Act.put (Act.put (Act.put (Act.put (Act.put (Act.put A (some 39) u39) (some 40) u40) (some 41) u41) (some 42) u42) (some 43) u43) (some 45) u45) (some 46) u46) (some 47) u47) (some 48) u48) (some 49) u49) (some 44) u44) (some 50) u50) (some 51) u51) (some 52) u52) ∧ MidV w1 W F (fun _ => False) p kn n D9 F9 ∧ bindP (writeP (nA c.pg c.st q) 0) (fun _ => bindP (writeP (vA c.pg c.st q) 0) fun _ => pureP true) kn D9 = Rr) (fun W => WentV w F p kn (fun b : Bool => Value.bool b) Rr (.panicked (endOf p)) W) (endOf p) (fun a W hd h => ⟨hd, h⟩) (fun _ _ _ _ _ h => h) ?_ ?_
        · skip
          rintro a wa ⟨u39, u40, u41, u42, u43, u45, u46, u47, u48, u49, u44, u50, u51, u52, D7, F7, rfl, MS, RS⟩
          rw [← hA]
          have MS := Lib.hid MS
          have LS := Lib.hid (KL.out _ _ _ MS.out)
          have RS := Lib.hid RS
          clear HF hA MR M3 R2' L3
          go_wp2_with (first | (refine wpList_load_row rfl 28 _ rfl _ rfl 28 _ _ _ LS.out Tryd.underlying28 rfl (by kernel_rfl) ?_) | (refine wpList_load_rowG rfl 28 _ rfl _ rfl 28 _ _ _ LS.out Tryd.underlying28 rfl (by kernel_rfl) ?_))
          refine (y_next HR.out _ q).mono ?_
          rw [P3.out]
          rintro e w8 ⟨rfl, h8⟩
          have M8 := Lib.hid (MS.out.more h8)
          clear h8
          go_wp2_with fail
          refine (write_any F7 p kn D7 _ 0 w8 M8.out.view (by have := M8.out.inv.len; omega)).mono ?_
          intro e w9 he
          rcases M8.out.step (More.refl _) HK.out (good_write n NB.out.1.2.2 NB.out.1.2.1 (by unfold W64; omega)) he with ⟨a', hE, rfl, hd', ht', _⟩ | ⟨x9, D9, F9, hE, rfl, M9, hq9, _, _⟩
          · exact ⟨rfl, NEED.out a' w9 (RS.out.symm.trans (bindP_need hE)) hd' ht'⟩
          have L9 := Lib.hid (KL.out _ _ _ M9)
          have R9 := Lib.hid ((bindP_ok hE).symm.trans RS.out)
          have M9 := Lib.hid M9
          clear he hE
          go_wp2_with (first | (refine wpList_load_row rfl 28 _ rfl _ rfl 28 _ _ _ L9.out Tryd.underlying28 rfl (by kernel_rfl) ?_) | (refine wpList_load_rowG rfl 28 _ rfl _ rfl 28 _ _ _ L9.out Tryd.underlying28 rfl (by kernel_rfl) ?_))
          refine (y_prev HR.out _ q).mono ?_
          rw [P4.out]
          rintro e w10 ⟨rfl, h10⟩
          have M10 := Lib.hid (M9.out.more h10)
          clear h10
          go_wp2_with fail
          refine (write_any F9 p kn D9 _ 0 w10 M10.out.view (by have := M10.out.inv.len; omega)).mono ?_
          intro e w11 he
          rcases M10.out.step (More.refl _) HK.out (good_write n NB.out.2.2.2 NB.out.2.2.1 (by unfold W64; omega)) he with ⟨a', hE, rfl, hd', ht', _⟩ | ⟨x11, D11, F11, hE, rfl, M11, hq11, _, _⟩
          · exact ⟨rfl, NEED.out a' w11 (R9.out.symm.trans (bindP_need hE)) hd' ht'⟩
          have FIN := Lib.hid (DONE.out true w11 D11 F11 (R9.out.symm.trans (bindP_ok hE)) M11)
          clear he hE M11
          go_wp2_with fail
          go_ret
          exact FIN.out
        intro QQ FINE FIND FINQ
        clear hA
        refine anyC_takeD (i := 0) (v := .pointer (some ⟨p, 0, none⟩)) (some 39) rfl rfl (by kernel_rfl) (by kernel_rfl) (by kernel_rfl) (fun c a w => FINQ c a _ _ w) (KL.out _ _ _ MR.out) (by exact yieldsC_moveG (wanted_none rfl) _ rfl (HF.get 0 rfl)) ?_
        replace HF := HF.put 39 (.pointer (some ⟨p, 0, none⟩)) (by decide) rfl
        generalize hB1_39 : Act.put _ _ _ = A at HF ⊢
        refine anyC_takeD (i := 1) (v := .agg c.arr) (some 40) rfl rfl (by kernel_rfl) (by kernel_rfl) (by kernel_rfl) (fun c a w => FINQ c a _ _ w) (KL.out _ _ _ MR.out) (by exact yieldsC_row (C := (TrC c w.heap.size)) (wanted_none rfl) 28 _ rfl w.heap.size (HF.get 6 rfl) 28 _ _ _ (fun W hW => hW) Tryd.underlying28 rfl (by kernel_rfl)) ?_
        replace HF := HF.put 40 (.agg c.arr) (by decide) rfl
        generalize hB2_40 : Act.put _ _ _ = A at HF ⊢
        refine anyC_takeD (i := 2) (v := .agg c.arr) (some 41) rfl rfl (by kernel_rfl) (by kernel_rfl) (by kernel_rfl) (fun c a w => FINQ c a _ _ w) (KL.out _ _ _ MR.out) (by exact yieldsC_row (C := (TrC c w.heap.size)) (wanted_none rfl) 28 _ rfl w.heap.size (HF.get 7 rfl) 28 _ _ _ (fun W hW => hW) Tryd.underlying28 rfl (by kernel_rfl)) ?_
        replace HF := HF.put 41 (.agg c.arr) (by decide) rfl
        generalize hB3_41 : Act.put _ _ _ = A at HF ⊢
        refine anyC_takeD (i := 3) (v := .int .i64 cl) (some 42) rfl rfl (by kernel_rfl) (by kernel_rfl) (by kernel_rfl) (fun c a w => FINQ c a _ _ w) (KL.out _ _ _ MR.out) (by exact yieldsC_moveG (wanted_none rfl) _ rfl (HF.get 6 rfl)) ?_
        replace HF := HF.put 42 (.int .i64 cl) (by decide) rfl
        generalize hB4_42 : Act.put _ _ _ = A at HF ⊢
        refine anyC_takeD (i := 4) (v := .int .i64 f) (some 43) rfl rfl (by kernel_rfl) (by kernel_rfl) (by kernel_rfl) (fun c a w => FINQ c a _ _ w) (KL.out _ _ _ MR.out) (by exact yieldsC_moveG (wanted_none rfl) _ rfl (HF.get 8 rfl)) ?_
        replace HF := HF.put 43 (.int .i64 f) (by decide) rfl
        generalize hB5_43 : Act.put _ _ _ = A at HF ⊢
        refine anyC_takeD (i := 6) (v := .int .i64 (lastO xs)) (some 45) rfl rfl (by kernel_rfl) (by kernel_rfl) (by kernel_rfl) (fun c a w => FINQ c a _ _ w) (KL.out _ _ _ MR.out) (by exact yieldsC_moveG (wanted_none rfl) _ rfl (HF.get 11 rfl)) ?_
        replace HF := HF.put 45 (.int .i64 (lastO xs)) (by decide) rfl
        generalize hB6_45 : Act.put _ _ _ = A at HF ⊢
        refine anyC_takeD (i := 7) (v := .pointer (some ⟨p, 0, none⟩)) (some 46) rfl rfl (by kernel_rfl) (by kernel_rfl) (by kernel_rfl) (fun c a w => FINQ c a _ _ w) (KL.out _ _ _ MR.out) (by exact yieldsC_moveG (wanted_none rfl) _ rfl (HF.get 6 rfl)) ?_
        replace HF := HF.put 46 (.pointer (some ⟨p, 0, none⟩)) (by decide) rfl
        generalize hB7_46 : Act.put _ _ _ = A at HF ⊢
        refine anyC_takeD (i := 8) (v := .agg c.arr) (some 47) rfl rfl (by kernel_rfl) (by kernel_rfl) (by kernel_rfl) (fun c a w => FINQ c a _ _ w) (KL.out _ _ _ MR.out) (by exact yieldsC_row (C := (TrC c w.heap.size)) (wanted_none rfl) 28 _ rfl w.heap.size (HF.get 12 rfl) 28 _ _ _ (fun W hW => hW) Tryd.underlying28 rfl (by kernel_rfl)) ?_
        replace HF := HF.put 47 (.agg c.arr) (by decide) rfl
        generalize hB8_47 : Act.put _ _ _ = A at HF ⊢
        refine anyC_takeD (i := 9) (v := .agg c.arr) (some 48) rfl rfl (by kernel_rfl) (by kernel_rfl) (by kernel_rfl) (fun c a w => FINQ c a _ _ w) (KL.out _ _ _ MR.out) (by exact yieldsC_row (C := (TrC c w.heap.size)) (wanted_none rfl) 28 _ rfl w.heap.size (HF.get 13 rfl) 28 _ _ _ (fun W hW => hW) Tryd.underlying28 rfl (by kernel_rfl)) ?_
        replace HF := HF.put 48 (.agg c.arr) (by decide) rfl
        generalize hB9_48 : Act.put _ _ _ = A at HF ⊢
        refine anyC_takeD (i := 10) (v := .int .i64 q) (some 49) rfl rfl (by kernel_rfl) (by kernel_rfl) (by kernel_rfl) (fun c a w => FINQ c a _ _ w) (KL.out _ _ _ MR.out) (by exact yieldsC_moveG (wanted_none rfl) _ rfl (HF.get 11 rfl)) ?_
        replace HF := HF.put 49 (.int .i64 q) (by decide) rfl
        generalize hB10_49 : Act.put _ _ _ = A at HF ⊢
        refine anyC_oneK (i := 5) (some 44) (by kernel_rfl) rfl (wanted_none rfl) rfl (fun K hK => ?_)
        refine wp_call3 (v0 := .agg c.arr) (v1 := .int .i64 cl) (v2 := .int .i64 f) rfl (HF.get 7 rfl) (HF.get 6 rfl) (HF.get 5 rfl) (enters_of Tryd.func35 (by kernel_rfl) rfl) ?_
        refine (y_head HR.out wr cl f).mono ?_
        rintro e w4 ⟨rfl, h4⟩
        have M4 := Lib.hid (MR.out.more h4)
        clear h4
        refine hK _ _ (KL.out _ _ _ M4.out) ?_
        clear hK K
        replace HF := HF.put 44 (.int .i64 (headV c.pg c.st cl f)) (by decide) rfl
        generalize hB11_44 : Act.put _ _ _ = A at HF ⊢
        refine anyC_oneK (i := 11) (some 50) (by kernel_rfl) rfl (wanted_none rfl) rfl (fun K hK => ?_)
        refine wp_call2 (v0 := .agg c.arr) (v1 := .int .i64 q) rfl (HF.get 2 rfl) (HF.get 1 rfl) (enters_of Tryd.func44 (by kernel_rfl) rfl) ?_
        refine (y_next HR.out w4 q).mono ?_
        rw [P3.out]
        rintro e w5 ⟨rfl, h5⟩
        have M5 := Lib.hid (M4.out.more h5)
        clear h5
        refine hK _ _ (KL.out _ _ _ M5.out) ?_
        clear hK K
        replace HF := HF.put 50 (.int .i64 (nA c.pg c.st q)) (by decide) rfl
        generalize hB12_50 : Act.put _ _ _ = A at HF ⊢
        refine anyC_oneK (i := 12) (some 51) (by kernel_rfl) rfl (wanted_none rfl) rfl (fun K hK => ?_)
        refine wp_call3 (v0 := .pointer (some ⟨p, 0, none⟩)) (v1 := .agg c.arr) (v2 := .int .i64 (nA c.pg c.st q)) rfl (HF.get 5 rfl) (HF.get 4 rfl) (HF.get 0 rfl) (enters_of Tryd.func34 (by kernel_rfl) rfl) ?_
        refine (pl_leads HR.out HH.out F2 p kn D2 (nA c.pg c.st q) NB.out.1.2.2 NB.out.1.2.1 w5 M5.out.view HK.out M5.out.inv).mono ?_
        intro e w6 he
        rcases M5.out.step (More.refl _) HK.out (good_plLead HH.out NB.out.1.2.1) he with ⟨a', hE, rfl, hd', ht', _⟩ | ⟨x6, D6, F6, hE, rfl, M6, hq6, _, _⟩
        · exact FIND _ _ HF.1.2 (NEED.out a' w6 (R2'.out.symm.trans (bindP_need hE)) hd' ht')
        have R6 := Lib.hid ((bindP_ok hE).symm.trans R2'.out)
        have M6 := Lib.hid M6
        clear he hE
        refine hK _ _ (KL.out _ _ _ M6.out) ?_
        clear hK K
        replace HF := HF.put 51 (.int .i64 x6) (by decide) rfl
        generalize hB13_51 : Act.put _ _ _ = A at HF ⊢
        refine anyC_oneK (i := 13) (some 52) (by kernel_rfl) rfl (wanted_none rfl) rfl (fun K hK => ?_)
        refine wp_call5 (v0 := .pointer (some ⟨p, 0, none⟩)) (v1 := .agg c.arr) (v2 := .int .i64 (headV c.pg c.st cl f)) (v3 := .int .i64 (lastO xs)) (v4 := .int .i64 x6) rfl (HF.get 12 rfl) (HF.get 11 rfl) (HF.get 2 rfl) (HF.get 7 rfl) (HF.get 0 rfl) (enters_of Tryd.func43 (by kernel_rfl) rfl) ?_
        refine (pl_join HR.out HH.out hn F6 p kn D6 (headV c.pg c.st cl f) (lastO xs) x6 (head_b HH.out).2.2 (head_b HH.out).2.1 (lastO_b HH.out HXS.out) hq6 w6 M6.out.view HK.out M6.out.inv).mono ?_
        intro e w7 he
        rcases M6.out.step (More.refl _) HK.out (good_plJoin HH.out (head_b HH.out).2.2 (head_b HH.out).2.1 (lastO_b HH.out HXS.out) hq6) he with ⟨a', hE, rfl, hd', ht', _⟩ | ⟨x7, D7, F7, hE, rfl, M7, hq7, _, _⟩
        · exact FIND _ _ HF.1.2 (NEED.out a' w7 (R6.out.symm.trans (bindP_need hE)) hd' ht')
        have R7 := Lib.hid ((bindP_ok hE).symm.trans R6.out)
        have M7 := Lib.hid M7
        clear he hE
        refine hK _ _ (KL.out _ _ _ M7.out) ?_
        clear hK K
        replace HF := HF.put 52 (.tuple #[]) (by decide) rfl
        generalize hB14_52 : Act.put _ _ _ = A at HF ⊢
        exact anyC_done (by kernel_rfl) (FINE _ _ ⟨(.pointer (some ⟨p, 0, none⟩)), (.agg c.arr), (.agg c.arr), (.int .i64 cl), (.int .i64 f), (.int .i64 (lastO xs)), (.pointer (some ⟨p, 0, none⟩)), (.agg c.arr), (.agg c.arr), (.int .i64 q), (.int .i64 (headV c.pg c.st cl f)), (.int .i64 (nA c.pg c.st q)), (.int .i64 x6), (.tuple #[]), D7, F7, by rw [← hB14_52, ← hB13_51, ← hB12_50, ← hB11_44, ← hB10_49, ← hB9_48, ← hB8_47, ← hB7_46, ← hB6_45, ← hB5_43, ← hB4_42, ← hB3_41, ← hB2_40, ← hB1_39], M7.out, R7.out⟩)
end Go.Proofs.YtogfikemodaepaaDoor

