/-
  The example that the statements end with.
-/
import Derived.Test.YtjljkidlhlgefaaChunkStart
namespace Go.Proofs.Ytjljkidlhlgefaa
open Go.RowKit Go.Sort Go.Maps Go.Shelf
set_option linter.unusedVariables false
set_option linter.unusedSimpArgs false

def BoxI (g : Nat) (w : World) : Prop := ∃ z : Int, w.heap[g]? = some (.cells #[.int .i64 z] 3 (0, 0))
theorem setCell_one {W : World} {g : Nat} {v : Value} {t : TypeId} (h : W.heap[g]? = some (.cells #[v] t (0, 0))) (z : Value) : (W.setCell ⟨g, 0, none⟩ z).heap[g]? = some (.cells #[z] t (0, 0)) := by
  have := heap_setCell (o := 0) z h
  simpa using this

set_option maxRecDepth 100000 in
set_option maxHeartbeats 1000000 in
/-- A program that stores what Ensure answers. -/
theorem live_clo {c : Cfg} (R : c.Ok) {n : Nat} (H : TblIn c.pg c.st n) (hn : n ≤ 10000) (F : Nat → Prop) (p g1 g2 : Nat) (kn : Int → Option Int) (W : World) (hv : ViewAt W F p kn []) (hk : OkK kn) (h1 : W.heap[g1]? = some (.cells c.arr 28 (0, 0))) (h2 : BoxI g2 W) (n1 : ¬ F g1) (n2 : ¬ F g2) (hne : g1 ≠ g2) (X : World → Prop) (Y : World → Prop)
    (hY : ∀ w' z, w'.heap[g1]? = some (.cells c.arr 28 (0, 0)) → w'.heap[g2]? = some (.cells #[.int .i64 z] 3 (0, 0)) → Y w')
    (hX : ∀ w' z D, ensureP c.pg c.st 3 2 kn [] = .ok z D → w'.heap[g2]? = some (.cells #[.int .i64 z] 3 (0, 0)) → X w') :
    Calls Try.prog 37 #[.pointer (some ⟨p, 0, none⟩), .pointer (some ⟨g1, 0, none⟩), .pointer (some ⟨g2, 0, none⟩)] W (WentY W F (fun k => k = g2) Y X p kn (ranOf (ensureP c.pg c.st 3 2 kn []))) := by
  obtain ⟨z0, h2⟩ := h2
  have H1 := Lib.hid h1
  have H2 := Lib.hid h2
  have HV := Lib.hid hv
  have hl1 := lt_of_heap h1
  have hl2 := lt_of_heap h2
  have EN := Lib.hid (fun w' (m : More W w') => c_Ensure R H hn F p kn [] 3 2 (by unfold W64; omega) w' (hv.more m) hk (invD_nil n))
  have HY := Lib.hid hY
  have HX := Lib.hid hX
  clear hv h1 h2 hY hX hk R
  go_enter Try.func37, Try.ntmps37
  go_wp2_with (refine wpList_load_row rfl 28 _ rfl _ rfl 28 _ _ _ H1.out Try.underlying28 rfl (by kernel_rfl) ?_)
  refine (EN.out _ (More.refl W)).mono ?_
  intro e w1 he
  cases hE : ensureP c.pg c.st 3 2 kn [] with
  | need a =>
    rw [hE] at he
    obtain ⟨rfl, hd, ht⟩ := he
    refine ⟨rfl, (?_ : WentY W F (fun k => k = g2) Y X p kn (ranOf (ensureP c.pg c.st 3 2 kn [])) _ _)⟩
    rw [hE]
    exact ⟨rfl, hd, ht.mono (fun _ _ q => .inl q), HY.out _ z0 ((ht.block g1 hl1 n1).trans H1.out) ((ht.block g2 hl2 n2).trans H2.out)⟩
  | ok x D =>
    rw [hE] at he
    obtain ⟨rfl, F', hv1, ht, hf⟩ := he
    have b1 := (ht.block g1 hl1 n1).trans H1.out
    have b2 := (ht.block g2 hl2 n2).trans H2.out
    have n2' : ¬ F' g2 := fun q => by rcases hf g2 q with q | q; exact n2 q; omega
    have X0 := HX.out
    rw [hE] at X0
    have HXD := Lib.hid X0
    have B1 := Lib.hid b1
    have B2 := Lib.hid b2
    have HV1 := Lib.hid hv1
    have HT := Lib.hid ht
    have HE := Lib.hid hE
    obtain ⟨c0, c1, c2⟩ := box_cells b2
    clear b1 b2 hv1 ht X0 HX hE
    go_wp2_with fail
    go_end0
    have q2 := setCell_one B2.out (.int .i64 x)
    have t2 : Turned (fun k => k = g2) w1 (w1.setCell ⟨g2, 0, none⟩ (.int .i64 x)) := Turned.setCell (Turned.refl _ w1) ⟨g2, 0, none⟩ _ (fun _ => rfl)
    have q1 := (t2.block g1 (lt_of_heap B1.out) hne).trans B1.out
    show WentY W F (fun k => k = g2) Y X p kn (ranOf (ensureP c.pg c.st 3 2 kn [])) _ _
    rw [HE.out]
    refine ⟨rfl, ⟨F', ?_⟩, ?_, HY.out _ x q1 q2, HXD.out _ x D rfl q2⟩
    · exact HV1.out.keepS t2 (fun k hk e => n2' (e ▸ hk)) (fun k es cl e h => by subst e; rw [B2.out] at h; cases h)
    · exact Turned.setCell (HT.out.mono (fun _ _ q => .inl q)) ⟨g2, 0, none⟩ _ (fun _ => .inr rfl)
/-- The statements' example. -/
def liveS : Cfg := ⟨withinV 0 1 64, withinV 0 1 8, withinV 4 1 256, withinV 0 1 64, withinV 0 0 16, withinV 0 0 64, withinV 0 1 1099511627776, withinV 0 1 8, withinV 0 0 8, withinV 0 0 16, withinV 0 1 8⟩
def live4 : Cfg := smallC liveS
def live5 : Cfg := ⟨2, 2, 5, 2, 0, 0, 1, 2, 0, 0, 2⟩
theorem liveS_ok : liveS.Ok := some_ok 0 0 4 0 0 0 0 0 0 0 0
theorem live4_is : live4 = ⟨2, 2, 6, 2, 0, 0, 1, 2, 0, 0, 2⟩ := by rfl
theorem live5_ok : live5.Ok := by constructor <;> decide
theorem live5_words : live5.words = (544 : Nat) := by decide
theorem live5_tbl : TblIn live5.pg live5.st 544 := by constructor <;> decide
theorem live5_one : tblV live5.pg live5.st 1 = 6 := by decide
def liveD : List KV := [(5, 1), (6, 1)]
theorem okW_zeros (n : Nat) : OkW (zeros n) := fun x hx => by
  have := List.eq_of_mem_replicate hx
  subst this; unfold W64; omega
theorem live_run : ensureP live5.pg live5.st 3 2 (allK (zeros 544)) [] = .ok 5 liveD := by kernel_rfl
theorem live_ends : ∃ K', doP (fun K => ranOf (ensureP live5.pg live5.st 3 2 (look K) [])) (zeros 544) ((zeros 544).length + 1) [] = some (applyD (zeros 544) liveD, K') := by
  have H : TblIn live5.pg live5.st (zeros 544).length := by rw [zeros_len]; exact live5_tbl
  have G : Good (zeros 544).length (fun _ => True) (ensureP live5.pg live5.st 3 2) := by
    unfold ensureP
    rw [if_pos (by decide)]
    exact good_imp (good_ensureN H _ _ 0 (by omega)) (fun _ _ => trivial)
  obtain ⟨K', _, h⟩ := doP_run (sound_ensure _ _ _ _) G (okW_zeros 544) live_run ((zeros 544).length + 1) [] (okKn_nil _) (by simp)
  exact ⟨K', h⟩
theorem live_six : (applyD (zeros 544) liveD).getD 6 0 = 1 := by kernel_rfl
theorem live_len : (applyD (zeros 544) liveD).length = 544 := by rw [len_apply, zeros_len]

theorem rows2 (w : World) (x1 x2 y1 y2 : Array Value) (t1 t2 : TypeId) : ∃ W, (((w.alloc (.cells x1 t1)).alloc (.cells x2 t2)).setRow w.heap.size y1).setRow (w.heap.size + 1) y2 = W ∧
    ((w.alloc (.cells x1 t1)).alloc (.cells x2 t2)).heap[w.heap.size]? = some (.cells x1 t1 (0, 0)) ∧ (((w.alloc (.cells x1 t1)).alloc (.cells x2 t2)).setRow w.heap.size y1).heap[w.heap.size + 1]? = some (.cells x2 t2 (0, 0)) ∧
    W.heap[w.heap.size]? = some (.cells y1 t1 (0, 0)) ∧ More w W ∧ w.heap.size + 2 ≤ W.heap.size := by
  have h0 := row_new w x1 t1
  have s0 : (w.alloc (.cells x1 t1)).heap.size = w.heap.size + 1 := by simp
  have m0 : More w (w.alloc (.cells x1 t1)) := (More.refl _).alloc _
  generalize w.alloc (.cells x1 t1) = w1 at h0 s0 m0 ⊢
  have h1 := row_new w1 x2 t2
  rw [s0] at h1
  have s1 : (w1.alloc (.cells x2 t2)).heap.size = w.heap.size + 2 := by simp [s0]
  have m1 : More w1 (w1.alloc (.cells x2 t2)) := (More.refl _).alloc _
  generalize w1.alloc (.cells x2 t2) = w2 at h1 s1 m1 ⊢
  have a0 := m1.block h0
  refine ⟨_, rfl, a0, (setRow_other _ _ _ _ (by omega)).trans h1, (setRow_other _ _ _ _ (by omega)).trans (setRow_heap _ _ _ _ _ _ a0), ((m0.trans m1).setRow _ _ (by omega)).setRow _ _ (by omega), ?_⟩
  simp [s1]

theorem zeros_row (w : World) (g k : Nat) (h : w.heap[g]? = some (.cells (rowOf (zeros k)) 3 (0, 0))) : IsWords w (some ⟨g, 0, none⟩) (zeros k) :=
  .inr ⟨g, 0, rfl, lt_of_heap h, fun i hi => by
    rw [Nat.zero_add, cell_of_row w g i _ _ _ h]
    rw [zeros_len] at hi
    simp [rowOf, zeros, hi]⟩
theorem live_do (w : World) (g1 g2 : Nat) (a : Option Addr) (cap : Nat) (h1 : w.heap[g1]? = some (.cells live5.arr 28 (0, 0))) (h2 : w.heap[g2]? = some (.cells #[.int .i64 0] 3 (0, 0))) (hne : g1 ≠ g2) (hz : IsWords w a (zeros 544)) :
    Calls Try.prog 9 #[.slice a 544 cap, .func (.func 37) #[] #[.pointer (some ⟨g1, 0, none⟩), .pointer (some ⟨g2, 0, none⟩)]] w (fun e w' => ∃ v1 v2, e = .returned (.tuple #[v1, v2, .int .i64 0]) ∧ Rw w.heap.size w' v1 (applyD (zeros 544) liveD) ∧ w'.heap[g1]? = some (.cells live5.arr 28 (0, 0)) ∧ w'.heap[g2]? = some (.cells #[.int .i64 5] 3 (0, 0)) ∧ Turned (fun k => k = g2) w w') := by
  have hl : (zeros 544).length = 544 := zeros_len 544
  obtain ⟨K', hK'⟩ := live_ends
  have l1 := lt_of_heap h1
  have l2 := lt_of_heap h2
  have H : TblIn live5.pg live5.st (zeros 544).length := by rw [hl]; exact live5_tbl
  have G : Good (zeros 544).length (fun _ => True) (ensureP live5.pg live5.st 3 2) := by
    unfold ensureP
    rw [if_pos (by decide)]
    exact good_imp (good_ensureN H _ _ 0 (by omega)) (fun _ _ => trivial)
  have M := doY_ok a cap (zeros 544) (fun K => ranOf (ensureP live5.pg live5.st 3 2 (look K) [])) (some (applyD (zeros 544) liveD, K')) (zeros 544).length w hz (by omega) (okW_zeros _) (fine_of G (okW_zeros _) (by omega)) (by omega) hK' 37 #[.pointer (some ⟨g1, 0, none⟩), .pointer (some ⟨g2, 0, none⟩)] (fun k => k = g2)
    (fun w' => w'.heap[g1]? = some (.cells live5.arr 28 (0, 0)) ∧ BoxI g2 w') (fun w' => w'.heap[g2]? = some (.cells #[.int .i64 5] 3 (0, 0)))
    (fun k q => by subst q; exact l2)
    (fun w' w'' y t => ⟨(t.block g1 (lt_of_heap y.1) (by omega)).trans y.1, by obtain ⟨z, q⟩ := y.2; exact ⟨z, (t.block g2 (lt_of_heap q) (by omega)).trans q⟩⟩)
    (fun w' w'' y t => (t.block g2 (lt_of_heap y) (by omega)).trans y) ⟨h1, 0, h2⟩ (enters_of Try.func37 (by kernel_rfl) rfl)
    (fun K hK W F p t y hv hF => live_clo live5_ok live5_tbl (by omega) F p g1 g2 (look K) W hv (okK_of hK (okW_zeros _)) y.1 y.2 (fun q => by have := hF _ q; omega) (fun q => by have := hF _ q; omega) hne _ _
      (fun w' z q1 q2 => ⟨q1, z, q2⟩) (fun w' z D e q => by
        obtain ⟨rfl, _⟩ := sound_same (sound_ensure _ _ _ _) hK live_run e
        exact q))
  rw [hl] at M
  refine M.mono ?_
  rintro e w' ⟨v1, v2, rfl, r1, _, t, y, x⟩
  exact ⟨v1, v2, rfl, r1, y.1, x, t⟩
theorem run_make_zeros (k : Nat) (hk : k ≤ 1000000) (w : World) :
    (Instr.makeSlice 31 (.int .i64 (k : Int)) (.int .i64 (k : Int))).run Try.prog w = .ok (.slice (some ⟨w.heap.size, 0, none⟩) k k) (w.alloc (.cells (rowOf (zeros k)) 3)) := by
  obtain ⟨i, hi, hz, hs, hb⟩ := int_info
  have := run_make (P := Try.prog) w 31 3 i (.int .i64 0) Try.underlying31 hi hz .i64 .i64 k k (by omega) (by omega) (by rw [hb]; omega) (by omega)
  rw [this]
  simp only [Int.toNat_natCast, hs, Nat.mul_one]
  have e : madeCells (Value.int .i64 0).cells k = rowOf (zeros k) := by
    apply Array.ext
    · simp [size_madeCells, rowOf, zeros]
    · intro j h1 h2
      simp [madeCells, rowOf, zeros, Value.cells, Nat.mod_one]
  rw [e]

set_option maxRecDepth 100000 in
set_option maxHeartbeats 1000000 in
theorem lives8_ok (w : World) : Calls Try.prog 7 #[] w (Gives w (.bool true)) := by
  have BEG := Lib.hid (begin_any liveS_ok 0 0 4 0 0 0 0 0 0 0 0 w (fun W => some_any 0 0 4 0 0 0 0 0 0 0 0 W (by omega) (by omega) (by omega) (by omega) (by omega) (by omega) (by omega) (by omega) (by omega) (by omega) (by omega)))
  have RS := Lib.hid (show live4.Ok from (small_small liveS_ok).ok)
  change Hid (Calls _ _ _ _ (Begun8 w live4)) at BEG
  have D0 : Hid (live4.cells.setIfInBounds 2 (.int .i64 5) = live5.cells) := Lib.hid (by rw [live4_is]; rfl)
  generalize live4 = d at BEG RS D0
  go_enter Try.func7, Try.ntmps7
  go_wp2_with fail
  refine (BEG.out).mono ?_
  rintro e w1 ⟨g, n, hn, rfl, hrw, m1⟩
  obtain ⟨w3, e3, b1, b2, b3, m3, s3⟩ := rows2 w1 zero24 zero11 d.arr d.cells 28 30
  have B1 := Lib.hid b1
  have B2 := Lib.hid b2
  have B3 := Lib.hid b3
  have M3 := Lib.hid (m1.trans m3)
  clear b1 b2 b3 hrw hn BEG
  go_wp2_with (first
    | (refine wpList_store_row rfl 28 _ _ rfl w1.heap.size _ rfl rfl 28 zero24 B1.out (by kernel_rfl) rfl (arr_one d) ?_)
    | (refine wpList_store_row rfl 30 _ _ rfl (w1.heap.size + 1) _ rfl rfl 30 zero11 B2.out (by kernel_rfl) rfl (cells_one d) ?_)
    | (refine wpList_load_row rfl 28 _ rfl w1.heap.size rfl 28 _ _ _ B3.out Try.underlying28 rfl (by kernel_rfl) ?_))
  clear e3 B1 B2
  refine (y_config RS.out _).mono ?_
  rintro e w4 ⟨rfl, m4⟩
  have C1 := Lib.hid ((m4.trans ((More.refl w4).alloc (.cells #[.int .i64 0, .int .i64 0, .int .i64 0, .int .i64 0, .int .i64 0, .int .i64 0, .int .i64 0, .int .i64 0, .int .i64 0, .int .i64 0, .int .i64 0] 23))).block B3.out)
  have C2 := row_new w4 #[.int .i64 0, .int .i64 0, .int .i64 0, .int .i64 0, .int .i64 0, .int .i64 0, .int .i64 0, .int .i64 0, .int .i64 0, .int .i64 0, .int .i64 0] 23
  have M4 := Lib.hid (M3.out.trans m4)
  have s4 : w1.heap.size + 2 ≤ w4.heap.size := by have := m4.size; omega
  have hc4 := cells_one d
  have R5 := Lib.hid live5_ok
  clear m3 s3 m4 B3 M3
  go_wp2_with (first
    | (refine wpList_store_row rfl 23 _ _ rfl w4.heap.size d.cells rfl rfl 23 _ C2 (by kernel_rfl) rfl hc4 ?_; have C3 := setRow_heap _ _ _ d.cells _ _ C2; have C4 := Lib.hid ((setRow_other _ w4.heap.size w1.heap.size d.cells (by omega)).trans C1.out); have M5 : Hid (More w ((w4.alloc (.cells #[.int .i64 0, .int .i64 0, .int .i64 0, .int .i64 0, .int .i64 0, .int .i64 0, .int .i64 0, .int .i64 0, .int .i64 0, .int .i64 0, .int .i64 0] 23)).setRow w4.heap.size d.cells)) := Lib.hid ((M4.out.alloc _).setRow _ _ (by have := m1.size; omega)); generalize World.setRow _ _ _ = w5 at C3 C4 M5 ⊢; clear C1 C2 M4)
    | (refine wpList_store_int rfl 3 _ _ rfl rfl w4.heap.size 2 rfl 5 rfl _ _ C3 (by simp [Cfg.cells]) (by kernel_rfl) ?_; rw [D0.out]; intro w6 hb6 ht6; have HB := Lib.hid hb6; have HL := Lib.hid ((ht6.block w1.heap.size (lt_of_heap C4.out) (by omega)).trans C4.out); have HM : Hid (More w w6) := Lib.hid (Turned.mono (turned_own (F := fun _ => False) M5.out ht6 (fun k q => .inr (by have := m1.size; omega))) (fun _ _ q => q)); clear hb6 ht6)
    | (refine wpList_load_row rfl 23 _ rfl w4.heap.size rfl 23 _ _ _ HB.out Try.underlying23 rfl (by kernel_rfl) ?_))
  refine (y_of R5.out _).mono ?_
  rintro e w7 ⟨rfl, m7⟩
  have D1 := Lib.hid (m7.block HL.out)
  have D2 := Lib.hid (setRow_heap w7 w1.heap.size _ live5.arr _ _ (m7.block HL.out))
  have M8 : Hid (More w (w7.setRow w1.heap.size live5.arr)) := Lib.hid ((HM.out.trans m7).setRow _ _ m1.size)
  clear m7 HL HB HM C3 C4 M5 hc4 RS D0
  go_wp2_with (first
    | (refine wpList_store_row rfl 28 _ _ rfl w1.heap.size live5.arr rfl rfl 28 _ D1.out (by kernel_rfl) rfl (arr_one live5) ?_; generalize World.setRow _ _ _ = w8 at D2 M8 ⊢; clear D1)
    | (refine wpList_load_row rfl 28 _ rfl w1.heap.size rfl 28 _ _ _ D2.out Try.underlying28 rfl (by kernel_rfl) ?_))
  refine (y_words R5.out _).mono ?_
  rw [live5_words]
  rintro e w9 ⟨rfl, m9⟩
  obtain ⟨w10, hmk, N1, m10, s10⟩ : ∃ w10, (Instr.makeSlice 31 (.int .i64 544) (.int .i64 544)).run Try.prog w9 = .ok (.slice (some ⟨w9.heap.size, 0, none⟩) 544 544) w10 ∧ w10.heap[w9.heap.size]? = some (.cells (rowOf (zeros 544)) 3 (0, 0)) ∧ More w9 w10 ∧ w10.heap.size = w9.heap.size + 1 :=
    ⟨_, run_make_zeros 544 (by omega) w9, row_new w9 _ _, (More.refl _).alloc _, by simp⟩
  have E1 := Lib.hid ((m9.trans m10).block D2.out)
  have N1 := Lib.hid N1
  have M9 := Lib.hid (M8.out.trans (m9.trans m10))
  have s11 := row_new w10 #[.int .i64 0] 3
  have m11 : More w10 (w10.alloc (.cells #[.int .i64 0] 3)) := (More.refl _).alloc _
  have hne : w1.heap.size ≠ w9.heap.size + 1 := by have := lt_of_heap D2.out; have := m9.size; omega
  rw [s10] at s11
  have E2 := Lib.hid (m11.block E1.out)
  have N2 := Lib.hid (m11.block N1.out)
  have M11 := Lib.hid (M9.out.trans m11)
  have LD := Lib.hid (live_do _ w1.heap.size (w9.heap.size + 1) (some ⟨w9.heap.size, 0, none⟩) 544 E2.out s11 hne (zeros_row _ _ _ N2.out))
  have sw : w.heap.size ≤ w9.heap.size := (M8.out.trans m9).size
  have S10 := Lib.hid s10
  clear m9 D2 M8 E1 N1 M9 m11 s10 s11
  go_wp2_with fail
  rw [S10.out]
  refine LD.out.mono ?_
  rintro e w12 ⟨v1, v2, rfl, hr, h1, h2, ht⟩
  obtain ⟨a, cap, rfl, hrd⟩ := hr.reads
  rw [live_len] at hrd ⊢
  obtain ⟨gw, rfl, hb1, hb2, hcell⟩ := hrd 0 (by omega)
  have c6 := hcell 6 (by omega)
  rw [live_six] at c6
  have L1 := Lib.hid h1
  obtain ⟨c0, _, _⟩ := box_cells h2
  have FIN := Lib.hid (Turned.mono (turned_own (F := fun _ => False) M11.out ht (fun k q => .inr (by omega))) (fun _ _ q => q))
  clear hr hrd hcell h1 h2 ht LD E2 N2 M11
  go_wp2_with (refine wpList_load_rowG rfl 28 _ rfl _ rfl 28 _ _ _ L1.out Try.underlying28 rfl (by kernel_rfl) ?_)
  refine (y_table R5.out _ 1).mono ?_
  rw [live5_one]
  rintro e w13 ⟨rfl, m13⟩
  have c7 := m13.cell c6
  have F13 := Lib.hid (FIN.out.trans m13)
  clear m13 c6 FIN
  go_wp2_with fail
  go_ret
  exact ⟨rfl, F13.out⟩
end Go.Proofs.Ytjljkidlhlgefaa
