/-
  Layer 9's steps, as the statements have them: one step.
-/
import Derived.Test.YtogfikemodaepaaGreatExtE
import Derived.Test.YtogfikemodaepaaGreatExtG
import Derived.Test.YtogfikemodaepaaGreatReg
import Derived.Test.YtogfikemodaepaaGreatIns4
import Derived.Test.YtogfikemodaepaaGreatChunkEnd
namespace Go.Proofs.YtogfikemodaepaaGreat
open Go.RowKit Go.Sort Go.Maps Go.Shelf
set_option linter.unusedVariables false
set_option linter.unusedSimpArgs false

def edoneP (pg st kind p n k : Int) : Prg (Int × Int × Int) :=
  if kind = 0 then bindP (efindP pg st n k) (fun x => pureP (x, 0, 0))
  else if kind = 1 then bindP (etakeP pg st p n k) (fun b => pureP (b2i b, 0, 0))
  else if kind = 2 then bindP (edropP pg st p) (fun x => pureP (x, 0, 0))
  else if kind = 3 then bindP (etrimP pg st) (fun x => pureP (x, 0, 0))
  else if kind = 5 then bindP (efindP pg st n k) (fun q => bindP (etakeP pg st q n 6) (fun b => pureP (q, b2i b, 0)))
  else bindP (ekindP pg st p) (fun a => bindP (efirstP pg st p) (fun b => bindP (eusedP pg st) (fun c => pureP (a, b, c))))
theorem sound_edone (pg st kind p n k : Int) : Sound (edoneP pg st kind p n k) :=
  sound_ite (sound_bind (sound_find _ _ _ _) (fun _ => sound_pure _)) (sound_ite (sound_bind (sound_take _ _ _ _ _) (fun _ => sound_pure _)) (sound_ite (sound_bind (sound_drop _ _ _) (fun _ => sound_pure _)) (sound_ite (sound_bind (sound_trim _ _) (fun _ => sound_pure _)) (sound_ite (sound_bind (sound_find _ _ _ _) (fun _ => sound_bind (sound_take _ _ _ _ _) (fun _ => sound_pure _))) (sound_bind (sound_kind _ _ _) (fun _ => sound_bind (sound_first _ _ _) (fun _ => sound_bind (sound_used _ _) (fun _ => sound_pure _))))))))
theorem w64_6 : W64 6 := by unfold W64; omega
theorem w64_in {pg x : Int} (h : -1 ≤ x ∧ x < pg) (h2 : pg ≤ 256) : W64 x := by unfold W64; omega
theorem good_edone {pg st : Int} {n : Nat} (H : PgIn pg st n) (kind p m k : Int) (hm : W64 m) (hk : W64 k) : Good n (fun _ => True) (edoneP pg st kind p m k) := by
  have h2 := H.pg2
  exact good_ite (fun _ => good_bind (good_find H _ _) (fun _ _ => good_pure n trivial)) (fun _ => good_ite (fun _ => good_bind (good_take H _ _ _ hk hm) (fun _ _ => good_pure n trivial)) (fun _ => good_ite (fun _ => good_bind (good_drop H _) (fun _ _ => good_pure n trivial)) (fun _ => good_ite (fun _ => good_bind (good_trim H) (fun _ _ => good_pure n trivial)) (fun _ => good_ite (fun _ => good_bind (good_find H _ _) (fun q _ => good_bind (good_take H _ _ _ w64_6 hm) (fun _ _ => good_pure n trivial))) (fun _ => good_bind (good_kind H _) (fun _ _ => good_bind (good_first H _) (fun _ _ => good_bind (good_used H) (fun _ _ => good_pure n trivial))))))))

theorem e_number (b : Bool) (w : World) : Calls Tryz.prog 22 #[.bool b] w (Gives w (.int .i64 (b2i b))) := by
  cases b <;> (go_enter Tryz.func22, Tryz.ntmps22; go_wp2_with fail; go_ret; exact ⟨rfl, More.refl _⟩)
def val3 (t : Int × Int × Int) : Value := .agg #[.int .i64 t.1, .int .i64 t.2.1, .int .i64 t.2.2]
theorem build3 (x : Int) (W : World) : (Instr.build 34 #[(0, .int .i64 x)]).run Tryz.prog W = .ok (.agg #[.int .i64 x, .int .i64 0, .int .i64 0]) W := run_build W _ _ _ (by kernel_rfl)
theorem build3b (x y : Int) (W : World) : (Instr.build 34 #[(0, .int .i64 x), (1, .int .i64 y)]).run Tryz.prog W = .ok (.agg #[.int .i64 x, .int .i64 y, .int .i64 0]) W := run_build W _ _ _ (by kernel_rfl)
theorem build3c (x y z : Int) (W : World) : (Instr.build 34 #[(0, .int .i64 x), (1, .int .i64 y), (2, .int .i64 z)]).run Tryz.prog W = .ok (.agg #[.int .i64 x, .int .i64 y, .int .i64 z]) W := run_build W _ _ _ (by kernel_rfl)

/-- What all of the last region's calls keep. -/
def DoneC (c : Cfg) (kind q m k : Int) (g : Nat) (W : World) : Prop := W.heap[g]? = some (.cells c.arr 28 (0, 0)) ∧ W.heap[g + 1]? = some (.cells #[.int .i64 kind, .int .i64 q, .int .i64 m, .int .i64 k] 42 (0, 0))
theorem DoneC.l {c : Cfg} {kind q m k : Int} {g : Nat} {W : World} (h : DoneC c kind q m k g W) : W.heap[g]? = some (.cells c.arr 28 (0, 0)) := h.1
theorem DoneC.a {c : Cfg} {kind q m k : Int} {g : Nat} {W : World} (h : DoneC c kind q m k g W) : W.heap[g + 1]? = some (.cells #[.int .i64 kind, .int .i64 q, .int .i64 m, .int .i64 k] 42 (0, 0)) := h.2
theorem done_fin {α : Type} {w w1 wz w2 : World} {F F' : Nat → Prop} {p n g : Nat} {kn : Int → Option Int} {D : List KV} {val : α → Value} {R : Res α} {x : α} {cs : Array Value} {t : TypeId} {fr : Nat × Nat} (m : More w w1) (h : MidV w1 wz F (fun _ => False) p kn n D F') (hR : R = .ok x D) (hg : w.heap.size ≤ g) (hl : g < w1.heap.size) (nF : ¬ F g) (hb : wz.heap[g]? = some (.cells cs t fr)) (ht : Turned (fun k => k = g) wz w2) : WentV w F p kn val R (.returned (val x)) w2 := by
  refine WentV.did hR ⟨rfl, F', h.view.keepS ht (fun k hk e => h.off hl nF (e ▸ hk)) (fun k es cl e q => by subst e; rw [hb] at q; cases q), ?_, fun k q => (h.from' k q).imp id (fun r => Nat.le_trans m.size r)⟩
  exact turned_own (turned_own (Turned.mono m (fun _ _ q => q.elim)) h.turn (fun k q => q.imp id (fun r => r.elim))) ht (fun k q => .inr (by omega))

set_option maxRecDepth 100000 in
set_option maxHeartbeats 4000000 in
theorem e_done {c : Cfg} (R : c.Ok) {n : Nat} (H : PgIn c.pg c.st n) (hn : n ≤ 10000) (F : Nat → Prop) (p : Nat) (kn : Int → Option Int) (D : List KV) (kind q m k : Int) (hq : W64 q) (hm : W64 m) (hk6 : W64 k) (w : World) (hv : ViewAt w F p kn D) (hk : OkK kn) (hD : InvD n D) :
    Calls Tryz.prog 8 #[.pointer (some ⟨p, 0, none⟩), .agg c.arr, .agg #[.int .i64 kind, .int .i64 q, .int .i64 m, .int .i64 k]] w (WentV w F p kn val3 (edoneP c.pg c.st kind q m k kn D)) := by
  obtain ⟨Rr, hRr⟩ : ∃ Rr, edoneP c.pg c.st kind q m k kn D = Rr := ⟨_, rfl⟩
  rw [hRr]
  obtain ⟨w1, e1, hb0, hb1, hb2, m1, s1⟩ := entry3 w (.cells c.arr 28) (.cells #[.int .i64 kind, .int .i64 q, .int .i64 m, .int .i64 k] 42) (.cells #[.int .i64 0, .int .i64 0, .int .i64 0] 34)
  have nF : ∀ b, w.heap.size ≤ b → ¬ F b := fun b hb r => by have := hv.lt _ r; omega
  have MM := Lib.hid m1
  have L0 := Lib.hid hb0
  have A0 := Lib.hid hb1
  have Z0 := Lib.hid hb2
  have M0 : Hid (MidV w1 w1 F (fun _ => False) p kn n D F) := Lib.hid (MidV.begin (hv.more m1) hD)
  have KP : Hid (∀ wr D' F', MidV w1 wr F (fun _ => False) p kn n D' F' → wr.heap[w.heap.size]? = some (.cells c.arr 28 (0, 0)) ∧ wr.heap[w.heap.size + 1]? = some (.cells #[.int .i64 kind, .int .i64 q, .int .i64 m, .int .i64 k] 42 (0, 0)) ∧ wr.heap[w.heap.size + 2]? = some (.cells #[.int .i64 0, .int .i64 0, .int .i64 0] 34 (0, 0))) := Lib.hid fun wr D' F' h =>
    ⟨mid_own h L0.out (nF _ (by omega)) (fun q => q), mid_own h A0.out (nF _ (by omega)) (fun q => q), mid_own h Z0.out (nF _ (by omega)) (fun q => q)⟩
  have NEED : Hid (∀ a w2, Rr = .need a → DeadAt w2 p a → Turned (fun b => F b ∨ False) w1 w2 → WentV w F p kn val3 Rr (.panicked (endOf p)) w2) := Lib.hid fun a w2 e hd ht => mid_need MM.out (fun _ q => q.elim) e hd ht
  have DONE : Hid (∀ x w2 D' F', Rr = .ok x D' → MidV w1 w2 F (fun _ => False) p kn n D' F' → WentV w F p kn val3 Rr (.returned (val3 x)) (w2.setRow (w.heap.size + 2) #[.int .i64 x.1, .int .i64 x.2.1, .int .i64 x.2.2])) := Lib.hid fun x w2 D' F' e h => done_fin MM.out h e (g := w.heap.size + 2) (by omega) (by omega) (nF _ (by omega)) (KP.out _ _ _ h).2.2 (Turned.setRow (Turned.refl _ w2) _ _ (fun _ => rfl))
  have y0 := cell_more (j := 0) hb1 (More.refl _) rfl
  have y1 := cell_more (j := 1) hb1 (More.refl _) rfl
  have y2 := cell_more (j := 2) hb1 (More.refl _) rfl
  have y3 := cell_more (j := 3) hb1 (More.refl _) rfl
  have HK := Lib.hid hk
  have HR := Lib.hid R
  have HH := Lib.hid H
  have b31 := build3
  have b32 := build3b
  have b33 := build3c
  unfold edoneP at hRr
  clear hb0 hb1 hb2 m1 hv hD hk R H nF
  by_cases z0 : kind = 0
  · have t0 : (kind == 0) = true := by simp [z0]
    rw [if_pos z0] at hRr
    have HRr := Lib.hid hRr
    clear hRr z0
    have START := 0
    clear START
    go_enter Tryz.func8, Tryz.ntmps8
    go_wp2_with (first | (refine wpList_load_row rfl 28 _ rfl _ rfl 28 _ _ _ L0.out Tryz.underlying28 rfl (by kernel_rfl) ?_) | (refine wpList_load_rowG rfl 28 _ rfl _ rfl 28 _ _ _ L0.out Tryz.underlying28 rfl (by kernel_rfl) ?_))
    refine (e_Find HR.out HH.out F p kn D m k hm hk6 w1 M0.out.view HK.out M0.out.inv).mono ?_
    intro e w4 he
    rcases M0.out.step (More.refl _) HK.out (good_find HH.out _ _) he with ⟨a', hE, rfl, hd', ht', _⟩ | ⟨x4, D4, F4, hE, rfl, M4, hq4, _, _⟩
    · exact ⟨rfl, NEED.out a' w4 (HRr.out.symm.trans (bindP_need hE)) hd' ht'⟩
    have R4 := Lib.hid ((bindP_ok hE).symm.trans HRr.out)
    have M4 := Lib.hid M4
    obtain ⟨ka, kb, kc⟩ := KP.out _ _ _ M4.out
    have L4 := Lib.hid ka
    have Z4 := Lib.hid kc
    have y1 := cell_more (j := 1) kb (More.refl _) rfl
    have y2 := cell_more (j := 2) kb (More.refl _) rfl
    have y3 := cell_more (j := 3) kb (More.refl _) rfl
    clear he hE ka kb kc
    have FIN := Lib.hid (DONE.out (x4, 0, 0) w4 D4 F4 R4.out.symm M4.out)
    clear R4
    go_wp2_with (refine wpList_store_row rfl 34 _ _ rfl (w.heap.size + 2) _ rfl rfl 34 #[.int .i64 0, .int .i64 0, .int .i64 0] Z4.out (by kernel_rfl) rfl (by simp [Value.oneCell']) ?_)
    refine bodyPost_ret (v := val3 (x4, 0, 0)) (results_cell_row Tryz.results8 _ _ _ 34 _ (0, 0) _ rfl (setRow_heap _ _ _ _ _ _ Z4.out) Tryz.underlying34 rfl (by kernel_rfl)) rfl FIN.out
  have t0 : (kind == 0) = false := by simp [z0]
  rw [if_neg z0] at hRr
  by_cases z1 : kind = 1
  · have t1 : (kind == 1) = true := by simp [z1]
    rw [if_pos z1] at hRr
    have HRr := Lib.hid hRr
    clear hRr z0 z1
    have START := 0
    clear START
    go_enter Tryz.func8, Tryz.ntmps8
    go_wp2_with (first | (refine wpList_load_row rfl 28 _ rfl _ rfl 28 _ _ _ L0.out Tryz.underlying28 rfl (by kernel_rfl) ?_) | (refine wpList_load_rowG rfl 28 _ rfl _ rfl 28 _ _ _ L0.out Tryz.underlying28 rfl (by kernel_rfl) ?_))
    refine (e_Take HR.out HH.out hn F p kn D q m k hq hm hk6 w1 M0.out.view HK.out M0.out.inv).mono ?_
    intro e w4 he
    rcases M0.out.step (More.refl _) HK.out (good_take HH.out _ _ _ hk6 hm) he with ⟨a', hE, rfl, hd', ht', _⟩ | ⟨x4, D4, F4, hE, rfl, M4, hq4, _, _⟩
    · exact ⟨rfl, NEED.out a' w4 (HRr.out.symm.trans (bindP_need hE)) hd' ht'⟩
    have R4 := Lib.hid ((bindP_ok hE).symm.trans HRr.out)
    have M4 := Lib.hid M4
    obtain ⟨ka, kb, kc⟩ := KP.out _ _ _ M4.out
    have L4 := Lib.hid ka
    have Z4 := Lib.hid kc
    have y1 := cell_more (j := 1) kb (More.refl _) rfl
    have y2 := cell_more (j := 2) kb (More.refl _) rfl
    have y3 := cell_more (j := 3) kb (More.refl _) rfl
    clear he hE ka kb kc
    go_wp2_with fail
    refine (e_number x4 _).mono ?_
    rintro e w5 ⟨rfl, h5⟩
    have M5 := Lib.hid (M4.out.more h5)
    have Z5 := Lib.hid (KP.out _ _ _ M5.out).2.2
    have R5 := Lib.hid R4.out
    obtain ⟨D5, hD5⟩ : ∃ D5, D5 = D4 := ⟨_, rfl⟩
    obtain ⟨F5, hF5⟩ : ∃ F5, F5 = F4 := ⟨_, rfl⟩
    rw [← hD5] at R5 M5
    rw [← hF5] at M5
    clear h5 hD5 hF5
    have FIN := Lib.hid (DONE.out (b2i x4, 0, 0) w5 D5 F5 R5.out.symm M5.out)
    clear R5
    go_wp2_with (refine wpList_store_row rfl 34 _ _ rfl (w.heap.size + 2) _ rfl rfl 34 #[.int .i64 0, .int .i64 0, .int .i64 0] Z5.out (by kernel_rfl) rfl (by simp [Value.oneCell']) ?_)
    refine bodyPost_ret (v := val3 (b2i x4, 0, 0)) (results_cell_row Tryz.results8 _ _ _ 34 _ (0, 0) _ rfl (setRow_heap _ _ _ _ _ _ Z5.out) Tryz.underlying34 rfl (by kernel_rfl)) rfl FIN.out
  have t1 : (kind == 1) = false := by simp [z1]
  rw [if_neg z1] at hRr
  by_cases z2 : kind = 2
  · have t2 : (kind == 2) = true := by simp [z2]
    rw [if_pos z2] at hRr
    have HRr := Lib.hid hRr
    clear hRr z0 z1 z2
    have START := 0
    clear START
    go_enter Tryz.func8, Tryz.ntmps8
    go_wp2_with (first | (refine wpList_load_row rfl 28 _ rfl _ rfl 28 _ _ _ L0.out Tryz.underlying28 rfl (by kernel_rfl) ?_) | (refine wpList_load_rowG rfl 28 _ rfl _ rfl 28 _ _ _ L0.out Tryz.underlying28 rfl (by kernel_rfl) ?_))
    refine (e_Drop HR.out HH.out hn F p kn D q hq w1 M0.out.view HK.out M0.out.inv).mono ?_
    intro e w4 he
    rcases M0.out.step (More.refl _) HK.out (good_drop HH.out _) he with ⟨a', hE, rfl, hd', ht', _⟩ | ⟨x4, D4, F4, hE, rfl, M4, hq4, _, _⟩
    · exact ⟨rfl, NEED.out a' w4 (HRr.out.symm.trans (bindP_need hE)) hd' ht'⟩
    have R4 := Lib.hid ((bindP_ok hE).symm.trans HRr.out)
    have M4 := Lib.hid M4
    obtain ⟨ka, kb, kc⟩ := KP.out _ _ _ M4.out
    have L4 := Lib.hid ka
    have Z4 := Lib.hid kc
    have y1 := cell_more (j := 1) kb (More.refl _) rfl
    have y2 := cell_more (j := 2) kb (More.refl _) rfl
    have y3 := cell_more (j := 3) kb (More.refl _) rfl
    clear he hE ka kb kc
    have FIN := Lib.hid (DONE.out (x4, 0, 0) w4 D4 F4 R4.out.symm M4.out)
    clear R4
    go_wp2_with (refine wpList_store_row rfl 34 _ _ rfl (w.heap.size + 2) _ rfl rfl 34 #[.int .i64 0, .int .i64 0, .int .i64 0] Z4.out (by kernel_rfl) rfl (by simp [Value.oneCell']) ?_)
    refine bodyPost_ret (v := val3 (x4, 0, 0)) (results_cell_row Tryz.results8 _ _ _ 34 _ (0, 0) _ rfl (setRow_heap _ _ _ _ _ _ Z4.out) Tryz.underlying34 rfl (by kernel_rfl)) rfl FIN.out
  have t2 : (kind == 2) = false := by simp [z2]
  rw [if_neg z2] at hRr
  by_cases z3 : kind = 3
  · have t3 : (kind == 3) = true := by simp [z3]
    rw [if_pos z3] at hRr
    have HRr := Lib.hid hRr
    clear hRr z0 z1 z2 z3
    have START := 0
    clear START
    go_enter Tryz.func8, Tryz.ntmps8
    go_wp2_with (first | (refine wpList_load_row rfl 28 _ rfl _ rfl 28 _ _ _ L0.out Tryz.underlying28 rfl (by kernel_rfl) ?_) | (refine wpList_load_rowG rfl 28 _ rfl _ rfl 28 _ _ _ L0.out Tryz.underlying28 rfl (by kernel_rfl) ?_))
    refine (e_Trim HR.out HH.out hn F p kn D w1 M0.out.view HK.out M0.out.inv).mono ?_
    intro e w4 he
    rcases M0.out.step (More.refl _) HK.out (good_trim HH.out) he with ⟨a', hE, rfl, hd', ht', _⟩ | ⟨x4, D4, F4, hE, rfl, M4, hq4, _, _⟩
    · exact ⟨rfl, NEED.out a' w4 (HRr.out.symm.trans (bindP_need hE)) hd' ht'⟩
    have R4 := Lib.hid ((bindP_ok hE).symm.trans HRr.out)
    have M4 := Lib.hid M4
    obtain ⟨ka, kb, kc⟩ := KP.out _ _ _ M4.out
    have L4 := Lib.hid ka
    have Z4 := Lib.hid kc
    have y1 := cell_more (j := 1) kb (More.refl _) rfl
    have y2 := cell_more (j := 2) kb (More.refl _) rfl
    have y3 := cell_more (j := 3) kb (More.refl _) rfl
    clear he hE ka kb kc
    have FIN := Lib.hid (DONE.out (x4, 0, 0) w4 D4 F4 R4.out.symm M4.out)
    clear R4
    go_wp2_with (refine wpList_store_row rfl 34 _ _ rfl (w.heap.size + 2) _ rfl rfl 34 #[.int .i64 0, .int .i64 0, .int .i64 0] Z4.out (by kernel_rfl) rfl (by simp [Value.oneCell']) ?_)
    refine bodyPost_ret (v := val3 (x4, 0, 0)) (results_cell_row Tryz.results8 _ _ _ 34 _ (0, 0) _ rfl (setRow_heap _ _ _ _ _ _ Z4.out) Tryz.underlying34 rfl (by kernel_rfl)) rfl FIN.out
  have t3 : (kind == 3) = false := by simp [z3]
  rw [if_neg z3] at hRr
  by_cases z5 : kind = 5
  · have t5 : (kind == 5) = true := by simp [z5]
    rw [if_pos z5] at hRr
    have HRr := Lib.hid hRr
    clear hRr z0 z1 z2 z3 z5
    have START := 0
    clear START
    go_enter Tryz.func8, Tryz.ntmps8
    go_wp2_with (first | (refine wpList_load_row rfl 28 _ rfl _ rfl 28 _ _ _ L0.out Tryz.underlying28 rfl (by kernel_rfl) ?_) | (refine wpList_load_rowG rfl 28 _ rfl _ rfl 28 _ _ _ L0.out Tryz.underlying28 rfl (by kernel_rfl) ?_))
    refine (e_Find HR.out HH.out F p kn D m k hm hk6 w1 M0.out.view HK.out M0.out.inv).mono ?_
    intro e w4 he
    rcases M0.out.step (More.refl _) HK.out (good_find HH.out _ _) he with ⟨a', hE, rfl, hd', ht', _⟩ | ⟨x4, D4, F4, hE, rfl, M4, hq4, _, _⟩
    · exact ⟨rfl, NEED.out a' w4 (HRr.out.symm.trans (bindP_need hE)) hd' ht'⟩
    have R4 := Lib.hid ((bindP_ok hE).symm.trans HRr.out)
    have M4 := Lib.hid M4
    obtain ⟨ka, kb, kc⟩ := KP.out _ _ _ M4.out
    have L4 := Lib.hid ka
    have Z4 := Lib.hid kc
    have y1 := cell_more (j := 1) kb (More.refl _) rfl
    have y2 := cell_more (j := 2) kb (More.refl _) rfl
    have y3 := cell_more (j := 3) kb (More.refl _) rfl
    clear he hE ka kb kc
    have hw4 := w64_in hq4 HR.out.pg2
    go_wp2_with (first | (refine wpList_load_row rfl 28 _ rfl _ rfl 28 _ _ _ L4.out Tryz.underlying28 rfl (by kernel_rfl) ?_) | (refine wpList_load_rowG rfl 28 _ rfl _ rfl 28 _ _ _ L4.out Tryz.underlying28 rfl (by kernel_rfl) ?_))
    refine (e_Take HR.out HH.out hn F4 p kn D4 x4 m 6 hw4 hm w64_6 w4 M4.out.view HK.out M4.out.inv).mono ?_
    intro e w6 he
    rcases M4.out.step (More.refl _) HK.out (good_take HH.out _ _ _ w64_6 hm) he with ⟨a', hE, rfl, hd', ht', _⟩ | ⟨x6, D6, F6, hE, rfl, M6, hq6, _, _⟩
    · exact ⟨rfl, NEED.out a' w6 (R4.out.symm.trans (bindP_need hE)) hd' ht'⟩
    have R6 := Lib.hid ((bindP_ok hE).symm.trans R4.out)
    have M6 := Lib.hid M6
    obtain ⟨ka, kb, kc⟩ := KP.out _ _ _ M6.out
    have L6 := Lib.hid ka
    have Z6 := Lib.hid kc
    have y1 := cell_more (j := 1) kb (More.refl _) rfl
    have y2 := cell_more (j := 2) kb (More.refl _) rfl
    have y3 := cell_more (j := 3) kb (More.refl _) rfl
    clear he hE ka kb kc
    go_wp2_with fail
    refine (e_number x6 _).mono ?_
    rintro e w7 ⟨rfl, h7⟩
    have M7 := Lib.hid (M6.out.more h7)
    have Z7 := Lib.hid (KP.out _ _ _ M7.out).2.2
    have R7 := Lib.hid R6.out
    obtain ⟨D7, hD7⟩ : ∃ D7, D7 = D6 := ⟨_, rfl⟩
    obtain ⟨F7, hF7⟩ : ∃ F7, F7 = F6 := ⟨_, rfl⟩
    rw [← hD7] at R7 M7
    rw [← hF7] at M7
    clear h7 hD7 hF7
    have FIN := Lib.hid (DONE.out (x4, b2i x6, 0) w7 D7 F7 R7.out.symm M7.out)
    clear R7
    go_wp2_with (refine wpList_store_row rfl 34 _ _ rfl (w.heap.size + 2) _ rfl rfl 34 #[.int .i64 0, .int .i64 0, .int .i64 0] Z7.out (by kernel_rfl) rfl (by simp [Value.oneCell']) ?_)
    refine bodyPost_ret (v := val3 (x4, b2i x6, 0)) (results_cell_row Tryz.results8 _ _ _ 34 _ (0, 0) _ rfl (setRow_heap _ _ _ _ _ _ Z7.out) Tryz.underlying34 rfl (by kernel_rfl)) rfl FIN.out
  have t5 : (kind == 5) = false := by simp [z5]
  rw [if_neg z5] at hRr
  have HRr := Lib.hid hRr
  clear hRr z0 z1 z2 z3 z5
  have KC : Hid (∀ wr D' F', MidV w1 wr F (fun _ => False) p kn n D' F' → wr.heap[w.heap.size]? = some (.cells c.arr 28 (0, 0)) ∧ wr.heap[w.heap.size + 1]? = some (.cells #[.int .i64 kind, .int .i64 q, .int .i64 m, .int .i64 k] 42 (0, 0))) := Lib.hid fun wr D' F' h => ⟨(KP.out _ _ _ h).1, (KP.out _ _ _ h).2.1⟩
  go_enter Tryz.func8, Tryz.ntmps8
  go_wp2_with fail
  refine wp_region_anyC (DoneC c kind q m k w.heap.size) (by kernel_rfl) ?_
  have M2 := Lib.hid (M0.out.more ((More.refl w1).drewN 1))
  change anyC _ _ _ _ _ _ _ _ (w1.drewN 1)
  generalize w1.drewN 1 = w2 at M2 ⊢
  refine anyC_start (fun a W => a.eval (.tmp 6) = .pointer (some ⟨w.heap.size + 2, 0, none⟩) ∧ a.defers = [] ∧ ∃ x W0 D0 F0, W = W0.setRow (w.heap.size + 2) #[.int .i64 x.1, .int .i64 x.2.1, .int .i64 x.2.2] ∧ Rr = .ok x D0 ∧ MidV w1 W0 F (fun _ => False) p kn n D0 F0) (fun W => WentV w F p kn val3 Rr (.panicked (endOf p)) W) (endOf p) (fun a W hd h => ⟨hd, h⟩) (fun _ _ _ _ _ h => h) ?_ ?_
  · rintro a W ⟨t6, hdf, x, W0, D0, F0, rfl, hx, hM⟩
    have FIN := Lib.hid (DONE.out x W0 D0 F0 hx hM)
    have Z := (KP.out _ _ _ hM).2.2
    have ha6 : a.tmps.getD 6 undef = .pointer (some ⟨w.heap.size + 2, 0, none⟩) := t6
    go_wp2_with fail
    refine bodyPost_ret (v := val3 x) (results_cell_row Tryz.results8 _ _ _ 34 _ (0, 0) _ ha6 (setRow_heap _ _ _ _ _ _ Z) Tryz.underlying34 rfl (by kernel_rfl)) hdf FIN.out
  intro QQ FINE FIND FINQ
  refine frame_c 79 [(0, .pointer (some ⟨p, 0, none⟩)), (4, .pointer (some ⟨w.heap.size, 0, none⟩)), (5, .pointer (some ⟨w.heap.size + 1, 0, none⟩)), (6, .pointer (some ⟨w.heap.size + 2, 0, none⟩))] ⟨⟨Nat.le_of_ble_eq_true rfl, rfl⟩, ?_⟩ (fun A HF => ?_)
  · intro z hz; simp only [List.mem_cons, List.not_mem_nil, or_false] at hz; rcases hz with rfl | rfl | rfl | rfl <;> rfl
  refine anyC_takeD (i := 0) (v := .pointer (some ⟨p, 0, none⟩)) (some 65) rfl rfl (by kernel_rfl) (by kernel_rfl) (by kernel_rfl) (fun c a w => FINQ c a _ _ w) (KC.out _ _ _ M2.out) (by exact yieldsC_move rfl _ rfl (HF.get 0 rfl)) ?_
  replace HF := HF.put 65 (.pointer (some ⟨p, 0, none⟩)) (by decide) rfl
  generalize Act.put _ _ _ = A at HF ⊢
  refine anyC_takeD (i := 1) (v := .agg c.arr) (some 66) rfl rfl (by kernel_rfl) (by kernel_rfl) (by kernel_rfl) (fun c a w => FINQ c a _ _ w) (KC.out _ _ _ M2.out) (by exact yieldsC_row (C := DoneC c kind q m k w.heap.size) rfl 28 _ rfl w.heap.size (HF.get 2 rfl) 28 _ _ _ (fun W hW => DoneC.l hW) Tryz.underlying28 rfl (by kernel_rfl)) ?_
  replace HF := HF.put 66 (.agg c.arr) (by decide) rfl
  generalize Act.put _ _ _ = A at HF ⊢
  refine anyC_takeD (i := 2) (v := .pointer (some ⟨w.heap.size + 1, 1, none⟩)) (some 67) rfl rfl (by kernel_rfl) (by kernel_rfl) (by kernel_rfl) (fun c a w => FINQ c a _ _ w) (KC.out _ _ _ M2.out) (Or.inl ⟨rfl, fun W hW => by have h5 := HF.getD 4 rfl; go_simp⟩) ?_
  replace HF := HF.put 67 (.pointer (some ⟨w.heap.size + 1, 1, none⟩)) (by decide) rfl
  generalize Act.put _ _ _ = A at HF ⊢
  refine anyC_takeD (i := 3) (v := .int .i64 q) (some 68) rfl rfl (by kernel_rfl) (by kernel_rfl) (by kernel_rfl) (fun c a w => FINQ c a _ _ w) (KC.out _ _ _ M2.out) (Or.inl ⟨rfl, fun W hW => by have h5 := HF.getD 0 rfl; have c1 := cell_more (j := 1) (DoneC.a hW) (More.refl _) rfl; go_simp⟩) ?_
  replace HF := HF.put 68 (.int .i64 q) (by decide) rfl
  generalize Act.put _ _ _ = A at HF ⊢
  refine anyC_takeD (i := 5) (v := .pointer (some ⟨p, 0, none⟩)) (some 70) rfl rfl (by kernel_rfl) (by kernel_rfl) (by kernel_rfl) (fun c a w => FINQ c a _ _ w) (KC.out _ _ _ M2.out) (by exact yieldsC_move rfl _ rfl (HF.get 4 rfl)) ?_
  replace HF := HF.put 70 (.pointer (some ⟨p, 0, none⟩)) (by decide) rfl
  generalize Act.put _ _ _ = A at HF ⊢
  refine anyC_takeD (i := 6) (v := .agg c.arr) (some 71) rfl rfl (by kernel_rfl) (by kernel_rfl) (by kernel_rfl) (fun c a w => FINQ c a _ _ w) (KC.out _ _ _ M2.out) (by exact yieldsC_row (C := DoneC c kind q m k w.heap.size) rfl 28 _ rfl w.heap.size (HF.get 6 rfl) 28 _ _ _ (fun W hW => DoneC.l hW) Tryz.underlying28 rfl (by kernel_rfl)) ?_
  replace HF := HF.put 71 (.agg c.arr) (by decide) rfl
  generalize Act.put _ _ _ = A at HF ⊢
  refine anyC_takeD (i := 7) (v := .pointer (some ⟨w.heap.size + 1, 1, none⟩)) (some 72) rfl rfl (by kernel_rfl) (by kernel_rfl) (by kernel_rfl) (fun c a w => FINQ c a _ _ w) (KC.out _ _ _ M2.out) (Or.inl ⟨rfl, fun W hW => by have h5 := HF.getD 8 rfl; go_simp⟩) ?_
  replace HF := HF.put 72 (.pointer (some ⟨w.heap.size + 1, 1, none⟩)) (by decide) rfl
  generalize Act.put _ _ _ = A at HF ⊢
  refine anyC_takeD (i := 8) (v := .int .i64 q) (some 73) rfl rfl (by kernel_rfl) (by kernel_rfl) (by kernel_rfl) (fun c a w => FINQ c a _ _ w) (KC.out _ _ _ M2.out) (Or.inl ⟨rfl, fun W hW => by have h5 := HF.getD 0 rfl; have c1 := cell_more (j := 1) (DoneC.a hW) (More.refl _) rfl; go_simp⟩) ?_
  replace HF := HF.put 73 (.int .i64 q) (by decide) rfl
  generalize Act.put _ _ _ = A at HF ⊢
  refine anyC_takeD (i := 10) (v := .pointer (some ⟨p, 0, none⟩)) (some 75) rfl rfl (by kernel_rfl) (by kernel_rfl) (by kernel_rfl) (fun c a w => FINQ c a _ _ w) (KC.out _ _ _ M2.out) (by exact yieldsC_move rfl _ rfl (HF.get 8 rfl)) ?_
  replace HF := HF.put 75 (.pointer (some ⟨p, 0, none⟩)) (by decide) rfl
  generalize Act.put _ _ _ = A at HF ⊢
  refine anyC_takeD (i := 11) (v := .agg c.arr) (some 76) rfl rfl (by kernel_rfl) (by kernel_rfl) (by kernel_rfl) (fun c a w => FINQ c a _ _ w) (KC.out _ _ _ M2.out) (by exact yieldsC_row (C := DoneC c kind q m k w.heap.size) rfl 28 _ rfl w.heap.size (HF.get 10 rfl) 28 _ _ _ (fun W hW => DoneC.l hW) Tryz.underlying28 rfl (by kernel_rfl)) ?_
  replace HF := HF.put 76 (.agg c.arr) (by decide) rfl
  generalize Act.put _ _ _ = A at HF ⊢
  refine anyC_one (i := 4) (by kernel_rfl) rfl rfl ?_
  refine wp_call3 (v0 := .pointer (some ⟨p, 0, none⟩)) (v1 := .agg c.arr) (v2 := .int .i64 q) rfl (HF.get 9 rfl) (HF.get 8 rfl) (HF.get 6 rfl) (enters_of Tryz.func25 (by kernel_rfl) rfl) ?_
  refine (e_Kind HR.out HH.out F p kn D q w2 M2.out.view HK.out M2.out.inv).mono ?_
  intro e w4 he
  rcases M2.out.step (More.refl _) HK.out (good_kind HH.out _) he with ⟨a', hE, rfl, hd', ht', _⟩ | ⟨x4, D4, F4, hE, rfl, M4, hq4, _, _⟩
  · exact FIND _ _ HF.1.2 (NEED.out a' w4 (HRr.out.symm.trans (bindP_need hE)) hd' ht')
  have R4 := Lib.hid ((bindP_ok hE).symm.trans HRr.out)
  have M4 := Lib.hid M4
  clear he hE
  refine ⟨KC.out _ _ _ M4.out, ?_⟩
  change anyC _ _ _ _ _ _ _ (Act.put A (some 69) (.int .i64 x4)) _
  replace HF := HF.put 69 (.int .i64 x4) (by decide) rfl
  generalize Act.put _ _ _ = A at HF ⊢
  refine anyC_one (i := 9) (by kernel_rfl) rfl rfl ?_
  refine wp_call3 (v0 := .pointer (some ⟨p, 0, none⟩)) (v1 := .agg c.arr) (v2 := .int .i64 q) rfl (HF.get 6 rfl) (HF.get 5 rfl) (HF.get 3 rfl) (enters_of Tryz.func26 (by kernel_rfl) rfl) ?_
  refine (e_First HR.out HH.out F4 p kn D4 q hq w4 M4.out.view HK.out M4.out.inv).mono ?_
  intro e w5 he
  rcases M4.out.step (More.refl _) HK.out (good_first HH.out _) he with ⟨a', hE, rfl, hd', ht', _⟩ | ⟨x5, D5, F5, hE, rfl, M5, hq5, _, _⟩
  · exact FIND _ _ HF.1.2 (NEED.out a' w5 (R4.out.symm.trans (bindP_need hE)) hd' ht')
  have R5 := Lib.hid ((bindP_ok hE).symm.trans R4.out)
  have M5 := Lib.hid M5
  clear he hE
  refine ⟨KC.out _ _ _ M5.out, ?_⟩
  change anyC _ _ _ _ _ _ _ (Act.put A (some 74) (.int .i64 x5)) _
  replace HF := HF.put 74 (.int .i64 x5) (by decide) rfl
  generalize Act.put _ _ _ = A at HF ⊢
  refine anyC_one (i := 12) (by kernel_rfl) rfl rfl ?_
  refine wp_call2 (v0 := .pointer (some ⟨p, 0, none⟩)) (v1 := .agg c.arr) rfl (HF.get 3 rfl) (HF.get 2 rfl) (enters_of Tryz.func27 (by kernel_rfl) rfl) ?_
  refine (e_Used HR.out HH.out F5 p kn D5 w5 M5.out.view HK.out M5.out.inv).mono ?_
  intro e w6 he
  rcases M5.out.step (More.refl _) HK.out (good_used HH.out) he with ⟨a', hE, rfl, hd', ht', _⟩ | ⟨x6, D6, F6, hE, rfl, M6, hq6, _, _⟩
  · exact FIND _ _ HF.1.2 (NEED.out a' w6 (R5.out.symm.trans (bindP_need hE)) hd' ht')
  have R6 := Lib.hid ((bindP_ok hE).symm.trans R5.out)
  have M6 := Lib.hid M6
  clear he hE
  refine ⟨KC.out _ _ _ M6.out, ?_⟩
  change anyC _ _ _ _ _ _ _ (Act.put A (some 77) (.int .i64 x6)) _
  replace HF := HF.put 77 (.int .i64 x6) (by decide) rfl
  generalize Act.put _ _ _ = A at HF ⊢
  refine anyC_takeD (i := 13) (v := .agg #[.int .i64 x4, .int .i64 x5, .int .i64 x6]) (some 78) rfl rfl (by kernel_rfl) (by kernel_rfl) (by kernel_rfl) (fun c a w => FINQ c a _ _ w) (KC.out _ _ _ M6.out) (Or.inl ⟨rfl, fun W hW => by have h1 := HF.getD 2 rfl; have h2 := HF.getD 1 rfl; have h3 := HF.getD 0 rfl; go_simp⟩) ?_
  replace HF := HF.put 78 (.agg #[.int .i64 x4, .int .i64 x5, .int .i64 x6]) (by decide) rfl
  generalize Act.put _ _ _ = A at HF ⊢
  refine anyC_one (i := 14) (by kernel_rfl) rfl rfl ?_
  refine wp_store_row 34 _ _ rfl (w.heap.size + 2) _ (HF.get 17 rfl) (HF.get 0 rfl) 34 #[.int .i64 0, .int .i64 0, .int .i64 0] (KP.out _ _ _ M6.out).2.2 (by kernel_rfl) rfl (by simp [Value.oneCell']) ?_
  have TS := Turned.setRow (S := fun b => b = w.heap.size + 2) (Turned.refl _ w6) (w.heap.size + 2) #[.int .i64 x4, .int .i64 x5, .int .i64 x6] (fun _ => rfl)
  refine ⟨⟨(TS.block _ (lt_of_heap (KC.out _ _ _ M6.out).1) (by omega)).trans (KC.out _ _ _ M6.out).1, (TS.block _ (lt_of_heap (KC.out _ _ _ M6.out).2) (by omega)).trans (KC.out _ _ _ M6.out).2⟩, ?_⟩
  exact anyC_done (by kernel_rfl) (FINE _ _ ⟨HF.get 17 rfl, HF.1.2, (x4, x5, x6), w6, D6, F6, rfl, R6.out.symm, M6.out⟩)
end Go.Proofs.YtogfikemodaepaaGreat
