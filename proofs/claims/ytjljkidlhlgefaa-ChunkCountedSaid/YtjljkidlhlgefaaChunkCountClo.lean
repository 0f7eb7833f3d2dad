/-
  ChunkCounted's program, handed to a view.
-/
import Derived.Test.YtjljkidlhlgefaaChunkCountD
import Derived.Test.YtjljkidlhlgefaaWay
namespace Go.Proofs.Ytjljkidlhlgefaa
open Go.RowKit Go.Sort Go.Maps Go.Shelf
set_option linter.unusedVariables false
set_option linter.unusedSimpArgs false

/-- Between two acts. -/
structure CtI (W wr : World) (F : Nat → Prop) (p g0 : Nat) (kn : Int → Option Int) (n : Nat) (pg st : Int) (l : List Ins3) (x y : Int) (Rr : Res Bool) (j : Nat) (D : List KV) (F' : Nat → Prop) (r : Bool) : Prop where
  hj : j ≤ l.length
  mid : MidV W wr F (fun b => b = g0) p kn n D F'
  box : BoxB g0 wr r
  rest : bindP (stepsP pg st (l.drop j) r) (fun r => endP pg st x y r) kn D = Rr
/-- What stands all the while. -/
structure CtY (c : Cfg) (a : Option Addr) (capl : Nat) (l : List Ins3) (x y : Int) (g0 g1 g2 g3 g4 : Nat) (w : World) : Prop where
  h0 : ∃ b, BoxB g0 w b
  h1 : w.heap[g1]? = some (.cells #[.slice a l.length capl] 24 (0, 0))
  h2 : w.heap[g2]? = some (.cells c.arr 28 (0, 0))
  h3 : w.heap[g3]? = some (.cells #[.int .i64 x] 3 (0, 0))
  h4 : w.heap[g4]? = some (.cells #[.int .i64 y] 3 (0, 0))
theorem CtY.keep {c : Cfg} {a : Option Addr} {capl : Nat} {l : List Ins3} {x y : Int} {g0 g1 g2 g3 g4 : Nat} {S : Nat → Prop} {w w' : World} (h : CtY c a capl l x y g0 g1 g2 g3 g4 w) (t : Turned S w w') (n1 : ¬ S g1) (n2 : ¬ S g2) (n3 : ¬ S g3) (n4 : ¬ S g4) {b : Bool} (h0 : BoxB g0 w' b) : CtY c a capl l x y g0 g1 g2 g3 g4 w' :=
  ⟨⟨b, h0⟩, (t.block g1 (lt_of_heap h.h1) n1).trans h.h1, (t.block g2 (lt_of_heap h.h2) n2).trans h.h2, (t.block g3 (lt_of_heap h.h3) n3).trans h.h3, (t.block g4 (lt_of_heap h.h4) n4).trans h.h4⟩

theorem ins_keep {w w' : World} {a : Option Addr} {l : List Ins3} (h : IsIns w a l) {S : Nat → Prop} (t : Turned S w w') (hs : l ≠ [] → ∀ k, leads a k → ¬ S k) : IsIns w' a l := by
  by_cases e : l = []
  · exact .inl e
  · exact h.keep t (hs e)
theorem drop_at {α : Type} {l : List α} {j : Nat} {x : α} (h : l[j]? = some x) : l.drop j = x :: l.drop (j + 1) := by
  have hj : j < l.length := by
    rcases Nat.lt_or_ge j l.length with q | q
    · exact q
    · rw [List.getElem?_eq_none q] at h; cases h
  rw [List.drop_eq_getElem_cons hj]
  rw [List.getElem?_eq_getElem hj] at h
  cases h; rfl

theorem map_split {pg st k x : Int} (f : Bool → Int) : bindP (turnP pg st k x) (fun y => pureP (f (decide (0 < y)))) = bindP (bindP (turnP pg st k x) (fun y => pureP (decide (0 < y)))) (fun b => pureP (f b)) := by
  rw [bindP_assoc]; rfl
theorem good_ens2 {pg st : Int} {n : Nat} (H : TblIn pg st n) (x y : Int) : Good n (fun y : Int => 0 ≤ y ∧ y ≤ 1000) (ensureP pg st x y) := by
  unfold ensureP
  split
  · rename_i h; exact good_imp (good_ensureN H _ _ 0 (by omega)) (fun y hy => by have := (span_b h H.pg2).2; omega)
  · exact good_pure n (by omega)
theorem good_count2 {pg st : Int} {n : Nat} (H : TblIn pg st n) : Good n (fun y : Int => 0 ≤ y ∧ y ≤ 1000) (countP pg st) := good_imp (good_countN H _ _ 0 (by omega)) (fun y hy => by have := H.pg2; have := H.pg1; unfold chunksV at hy; omega)

set_option maxRecDepth 100000 in
set_option maxHeartbeats 4000000 in
theorem counted_clo {c : Cfg} (R : c.Ok) {n : Nat} (H : TblIn c.pg c.st n) (hn : n ≤ 10000) (F : Nat → Prop) (p g0 g1 g2 g3 g4 : Nat) (kn : Int → Option Int) (a : Option Addr) (capl : Nat) (l : List Ins3) (x y : Int) (hx : W64 x) (hO : OkP l) (hll : l.length ≤ 1000) (W : World) (hv : ViewAt W F p kn []) (hk : OkK kn)
    (hY : CtY c a capl l x y g0 g1 g2 g3 g4 W) (hL : IsIns W a l) (hd : g1 ≠ g0 ∧ g2 ≠ g0 ∧ g3 ≠ g0 ∧ g4 ≠ g0 ∧ ∀ b, l ≠ [] → leads a b → b ≠ g0 ∧ ¬ F b)
    (n0 : ¬ F g0) (n1 : ¬ F g1) (n2 : ¬ F g2) (n3 : ¬ F g3) (n4 : ¬ F g4) (ht : ∀ z D, countedP c.pg c.st l x y kn [] = .ok z D → z = true) :
    Calls Try.prog 10 #[.pointer (some ⟨p, 0, none⟩), .pointer (some ⟨g0, 0, none⟩), .pointer (some ⟨g1, 0, none⟩), .pointer (some ⟨g2, 0, none⟩), .pointer (some ⟨g3, 0, none⟩), .pointer (some ⟨g4, 0, none⟩)] W (WentY W F (fun b => b = g0) (fun w' => CtY c a capl l x y g0 g1 g2 g3 g4 w') (fun w' => BoxB g0 w' true) p kn (ranOf (countedP c.pg c.st l x y kn []))) := by
  obtain ⟨Rr, hR⟩ : ∃ Rr, countedP c.pg c.st l x y kn [] = Rr := ⟨_, rfl⟩
  rw [hR] at ht ⊢
  obtain ⟨b0, h0⟩ := hY.h0
  obtain ⟨c0, f0, hl0⟩ := box_cells h0
  have hl1 := lt_of_heap hY.h1
  have hl2 := lt_of_heap hY.h2
  have hl3 := lt_of_heap hY.h3
  have hl4 := lt_of_heap hY.h4
  have m0 : MidV W W F (fun b => b = g0) p kn n [] F := MidV.begin hv (invD_nil n)
  have START : Hid (CtI W (W.setCell ⟨g0, 0, none⟩ (.bool true)) F p g0 kn n c.pg c.st l x y Rr 0 [] F true) := Lib.hid
    { hj := Nat.zero_le _, mid := m0.box (fun _ => rfl) n0 (.bool true) h0, box := boxB_set h0 true, rest := hR }
  have HYY := Lib.hid hY
  have NEED : Hid (∀ a' w2 b, Rr = .need a' → DeadAt w2 p a' → Turned (fun b => F b ∨ b = g0) W w2 → BoxB g0 w2 b → WentY W F (fun b => b = g0) (fun w' => CtY c a capl l x y g0 g1 g2 g3 g4 w') (fun w' => BoxB g0 w' true) p kn (ranOf Rr) (.panicked (endOf p)) w2) := Lib.hid fun a' w2 b e hd' ht' hb => wy_need (ranOf_need e) hd' ht' (HYY.out.keep ht' (by rintro (q | q); exact n1 q; exact hd.1 q) (by rintro (q | q); exact n2 q; exact hd.2.1 q) (by rintro (q | q); exact n3 q; exact hd.2.2.1 q) (by rintro (q | q); exact n4 q; exact hd.2.2.2.1 q) hb)
  have DONE : Hid (∀ w2 D F' b, Rr = .ok b D → MidV W w2 F (fun b => b = g0) p kn n D F' → BoxB g0 w2 b → WentY W F (fun b => b = g0) (fun w' => CtY c a capl l x y g0 g1 g2 g3 g4 w') (fun w' => BoxB g0 w' true) p kn (ranOf Rr) (.returned (.tuple #[])) w2) := Lib.hid fun w2 D F' b e hm hb => wy_done hm (ranOf_ok e) (HYY.out.keep hm.turn (by rintro (q | q); exact n1 q; exact hd.1 q) (by rintro (q | q); exact n2 q; exact hd.2.1 q) (by rintro (q | q); exact n3 q; exact hd.2.2.1 q) (by rintro (q | q); exact n4 q; exact hd.2.2.2.1 q) hb) (by rw [ht b D e] at hb; exact hb)
  have KEEP : Hid (∀ wr D F', MidV W wr F (fun b => b = g0) p kn n D F' → (wr.heap[g1]? = some (.cells #[.slice a l.length capl] 24 (0, 0)) ∧ wr.heap[g2]? = some (.cells c.arr 28 (0, 0)) ∧ wr.heap[g3]? = some (.cells #[.int .i64 x] 3 (0, 0)) ∧ wr.heap[g4]? = some (.cells #[.int .i64 y] 3 (0, 0))) ∧ IsIns wr a l ∧ ¬ F' g0) := Lib.hid fun wr D F' m =>
    ⟨⟨(m.turn.block g1 hl1 (by rintro (q | q); exact n1 q; exact hd.1 q)).trans HYY.out.h1, (m.turn.block g2 hl2 (by rintro (q | q); exact n2 q; exact hd.2.1 q)).trans HYY.out.h2, (m.turn.block g3 hl3 (by rintro (q | q); exact n3 q; exact hd.2.2.1 q)).trans HYY.out.h3, (m.turn.block g4 hl4 (by rintro (q | q); exact n4 q; exact hd.2.2.2.1 q)).trans HYY.out.h4⟩,
     ins_keep hL m.turn (by rintro ne b hb (q | q); exact (hd.2.2.2.2 b ne hb).2 q; exact (hd.2.2.2.2 b ne hb).1 q), m.off hl0 n0⟩
  have HK := Lib.hid hk
  have HR := Lib.hid R
  have HH := Lib.hid H
  have OP := Lib.hid hO
  have HX := Lib.hid hx
  clear m0 hv hR ht h0 hY hL hd n0 n1 n2 n3 n4 hk R H hO hl1 hl2 hl3 hl4 hx
  go_enter Try.func10, Try.ntmps10
  go_wp2_with fail
  go_loopw [7] (fun v7 wr => ∃ (j : Nat) (D : List KV) (F' : Nat → Prop) (r : Bool), v7 = .int .i64 (j : Int) ∧ CtI W wr F p g0 kn n c.pg c.st l x y Rr j D F' r) (fun v7 _ => l.length - (intOf v7).toNat)
  case atStart => exact ⟨0, [], F, true, rfl, START.out⟩
  case round =>
    clear START c0 f0 hl0
    obtain ⟨j, D, F', r, rfl, I⟩ := hrel
    obtain ⟨⟨k1, k2, k3, k4⟩, kL, kn0⟩ := KEEP.out _ _ _ I.mid
    have c1 := (box_cells k1).1
    have hjl := I.hj
    have q1 : IntKind.i64.wrap ((j : Int) + 1) = (j : Int) + 1 := wrap_in (by omega) (by omega)
    by_cases hlt : j < l.length
    · have d1 : decide ((j : Int) < (l.length : Int)) = true := by simp; omega
      obtain ⟨⟨kind, k, z⟩, hj⟩ : ∃ t, l[j]? = some t := ⟨_, List.getElem?_eq_getElem hlt⟩
      have hrest := I.rest
      rw [drop_at hj] at hrest
      change bindP (bindP (stepP c.pg c.st kind k z r) (fun r => stepsP c.pg c.st (l.drop (j + 1)) r)) (fun r => endP c.pg c.st x y r) kn D = Rr at hrest
      have CNT := c_Count HR.out HH.out F' p kn D wr I.mid.view HK.out I.mid.inv
      have K2 := Lib.hid k2
      have HI := Lib.hid I
      have HREST := Lib.hid hrest
      have HJ := Lib.hid hj
      clear k1 k2 k3 k4 kL I hrest hj
      go_wp2_with (refine wpList_load_row rfl 28 _ rfl _ rfl 28 _ _ _ K2.out Try.underlying28 rfl (by kernel_rfl) ?_)
      refine CNT.mono ?_
      intro e w1 he
      rcases HI.out.mid.step (More.refl _) HK.out (good_count2 HH.out) he with ⟨a', hE, rfl, hd1, ht1, hk1⟩ | ⟨was, D1, F1, hE, rfl, M1, hq1, hk1, hf1⟩
      · exact ⟨rfl, NEED.out a' w1 r (by rw [← HREST.out]; unfold stepP; rw [bindP_need (a := a') (bindP_need (bindP_need hE))]) hd1 ht1 (hk1 g0 _ kn0 HI.out.box)⟩
      have hb1 : BoxB g0 w1 r := hk1 g0 _ kn0 HI.out.box
      obtain ⟨⟨k1, k2, k3, k4⟩, kL, n01⟩ := KEEP.out _ _ _ M1
      have hrest := HREST.out
      unfold stepP at hrest
      simp only [bindP_assoc] at hrest
      rw [bindP_ok hE] at hrest
      have HR1 := Lib.hid hrest
      have c1 := (box_cells k1).1
      obtain ⟨s, o, rfl, hs, hc⟩ := kL.resolve_left (by intro q; rw [q] at hlt; simp at hlt)
      obtain ⟨y0, y1, y2⟩ := hc j _ HJ.out
      simp only at y0 y1 y2
      have K21 := Lib.hid k2
      have HM1 := Lib.hid M1
      have HB1 := Lib.hid hb1
      have hxk : W64 k := (OP.out _ (List.mem_of_getElem? HJ.out)).1
      have HXK := Lib.hid hxk
      clear hrest k1 k2 k3 k4 kL hc M1 hb1 HREST he K2 hE hk1 hf1 hxk kn0
      go_wp2_with fail
      refine wp_region_more (by kernel_rfl) (by kernel_rfl) ?_
      refine wpQuiet_load_row rfl 28 _ rfl _ rfl 28 _ _ _ (fun W hW => hW.block K21.out) Try.underlying28 rfl (by kernel_rfl) ?_
      iterate 11
        with_reducible refine wpQuiet_step (fun K hK => ?_)
        go_simp
        first
        | (refine hK _ ?_; clear hK K)
        | (apply Exists.intro
           refine ⟨fun W hW => ?_, hK _ ?_⟩
           first
           | (go_at_call 12; exact Calls.more hW (c_Pages HR.out k W))
           | (have c1' := hW.cell c1; have y1' := hW.cell y1; go_simp; try rfl)
           clear hK K)
      refine wpQuiet_nil ?_
      intro w2 m2
      have M2 := Lib.hid (HM1.out.more m2)
      have B2 : Hid (BoxB g0 w2 r) := Lib.hid (m2.block HB1.out)
      have K2a := Lib.hid (m2.block K21.out)
      replace c1 := m2.cell c1
      replace y0 := m2.cell y0
      replace y1 := m2.cell y1
      replace y2 := m2.cell y2
      clear m2 HM1 HB1 K21
      have hsz := size_b HH.out k
      have n02 := n01
      by_cases q0 : kind = 0
      · have E0 : decide (kind = 0) = true := by simp [q0]
        have HR2 := HR1.out
        rw [q0] at HR2
        unfold actP at HR2
        rw [if_pos rfl, map_split (fun b : Bool => if b then sizeV c.pg k else 0), bindP_assoc] at HR2
        clear HR1
        generalize sizeV c.pg k = sz at hsz HR2 ⊢
        have HR2 := Lib.hid HR2
        have qn : IntKind.i64.wrap (-sz) = -sz := wrap_in (by omega) (by omega)
        subst q0
        go_wp2_with fail
        refine wp_region_more_tail 7 (by kernel_rfl) (by kernel_rfl) ?_
        simp only [List.take_succ_cons, List.take_zero, List.drop_succ_cons, List.drop_zero]
        iterate 1
          with_reducible refine wpQuiet_step (fun K hK => ?_)
          go_simp
          first
          | (refine hK _ ?_; clear hK K)
          | (apply Exists.intro
             refine ⟨fun W hW => ?_, hK _ ?_⟩
             first
             | (go_simp; try rfl)
             clear hK K)
        refine wpQuiet_load_row rfl 28 _ rfl _ rfl 28 _ _ _ (fun W hW => hW.block K2a.out) Try.underlying28 rfl (by kernel_rfl) ?_
        iterate 5
          with_reducible refine wpQuiet_step (fun K hK => ?_)
          go_simp
          first
          | (refine hK _ ?_; clear hK K)
          | (apply Exists.intro
             refine ⟨fun W hW => ?_, hK _ ?_⟩
             first
             | (have c1' := hW.cell c1; have y1' := hW.cell y1; go_simp; try rfl)
             clear hK K)
        refine wpQuiet_nil ?_
        intro w3 m3
        have MP := c_Map HR.out HH.out hn F1 p kn D1 k w3 (M2.out.more m3).view HK.out M2.out.inv
        rw [mapR_eq] at MP
        have M3 := Lib.hid (M2.out.more m3)
        have B3 : Hid (BoxB g0 w3 r) := Lib.hid (m3.block B2.out)
        clear c1 y1 y0 y2 m3 M2 B2
        go_wp2_with fail
        refine MP.mono ?_
        clear MP
        intro e wB he
        rcases M3.out.step (More.refl _) HK.out (good_bind (good_turn HH.out k 1 (by unfold W64; omega)) (fun x hx => good_pure n (Q := fun _ => True) trivial)) he with ⟨a', hE', rfl, hd', ht', hk'⟩ | ⟨b, DB, FB, hE', rfl, MB0, hq', hk', hf'⟩
        · exact ⟨rfl, NEED.out a' wB r (HR2.out.symm.trans (bindP_need hE')) hd' ht' (hk' g0 _ n02 B3.out)⟩
        have BB : Hid (BoxB g0 wB r) := Lib.hid (hk' g0 _ n02 B3.out)
        have MB := Lib.hid MB0
        have HTB := (bindP_ok hE').symm.trans HR2.out
        clear he hk' hf' MB0 M3 B3 HR2 hE'
        cases b with
        | false =>
          have HT := Lib.hid HTB
          simp only [bindP_pure, Bool.false_eq_true, if_false, Int.add_zero, Int.sub_zero, Int.neg_zero] at HT
          clear HTB
          obtain ⟨⟨_, kb2, _, _⟩, _, n0b⟩ := KEEP.out _ _ _ MB.out
          have qw : IntKind.i64.wrap (was) = was := wrap_in (by omega) (by omega)
          obtain ⟨cb, fb, lb⟩ := box_cells BB.out
          have K2b := Lib.hid kb2
          clear kb2
          cases r with
          | false =>
            have NX := Lib.hid (show CtI W (wB.setCell ⟨g0, 0, none⟩ (.bool false)) F p g0 kn n c.pg c.st l x y Rr (j + 1) DB FB false from { hj := by omega, mid := MB.out.box (fun _ => rfl) n0b _ BB.out, box := boxB_set BB.out false, rest := HT.out })
            clear n0b
            go_wp2_with fail
            go_roundw
            case rel => exact ⟨j + 1, DB, FB, false, by go_num, NX.out⟩
            case measure => simp [intOf]; omega
          | true =>
            have CNT2 := c_Count HR.out HH.out FB p kn DB wB MB.out.view HK.out MB.out.inv
            go_wp2_with (first | (refine wpList_load_row rfl 28 _ rfl _ rfl 28 _ _ _ K2b.out Try.underlying28 rfl (by kernel_rfl) ?_) | (refine wpList_load_rowG rfl 28 _ rfl _ rfl 28 _ _ _ K2b.out Try.underlying28 rfl (by kernel_rfl) ?_))
            clear cb fb lb
            refine CNT2.mono ?_
            intro e wC he
            rcases MB.out.step (More.refl _) HK.out (good_count2 HH.out) he with ⟨a', hE', rfl, hd', ht', hk'⟩ | ⟨now, DC, FC, hE', rfl, MC, hq', hk', hf'⟩
            · exact ⟨rfl, NEED.out a' wC true (by have := HT.out; simp only [bindP_assoc, if_true] at this; exact this.symm.trans (bindP_need hE')) hd' ht' (hk' g0 _ n0b BB.out)⟩
            have bC : BoxB g0 wC true := hk' g0 _ n0b BB.out
            obtain ⟨cb, fb, lb⟩ := box_cells bC
            have n0c := (KEEP.out _ _ _ MC).2.2
            have NX := Lib.hid (show CtI W (wC.setCell ⟨g0, 0, none⟩ (.bool (decide (now = was)))) F p g0 kn n c.pg c.st l x y Rr (j + 1) DC FC (decide (now = was)) from { hj := by omega, mid := MC.box (fun _ => rfl) n0c _ bC, box := boxB_set bC _, rest := by have := HT.out; simp only [bindP_assoc, if_true] at this; rw [bindP_ok hE'] at this; exact this })
            clear n0b hk' hf' he MC bC hE'
            go_wp2_with fail
            go_roundw
            case rel => exact ⟨j + 1, DC, FC, _, by go_num, NX.out⟩
            case measure => simp [intOf]; omega
        | true =>
          have HT := Lib.hid HTB
          simp only [bindP_pure, if_true] at HT
          clear HTB
          obtain ⟨⟨_, kb2, _, _⟩, _, n0b⟩ := KEEP.out _ _ _ MB.out
          have qw : IntKind.i64.wrap (was + sz) = was + sz := wrap_in (by omega) (by omega)
          obtain ⟨cb, fb, lb⟩ := box_cells BB.out
          have K2b := Lib.hid kb2
          clear kb2
          cases r with
          | false =>
            have NX := Lib.hid (show CtI W (wB.setCell ⟨g0, 0, none⟩ (.bool false)) F p g0 kn n c.pg c.st l x y Rr (j + 1) DB FB false from { hj := by omega, mid := MB.out.box (fun _ => rfl) n0b _ BB.out, box := boxB_set BB.out false, rest := HT.out })
            clear n0b
            go_wp2_with fail
            go_roundw
            case rel => exact ⟨j + 1, DB, FB, false, by go_num, NX.out⟩
            case measure => simp [intOf]; omega
          | true =>
            have CNT2 := c_Count HR.out HH.out FB p kn DB wB MB.out.view HK.out MB.out.inv
            go_wp2_with (first | (refine wpList_load_row rfl 28 _ rfl _ rfl 28 _ _ _ K2b.out Try.underlying28 rfl (by kernel_rfl) ?_) | (refine wpList_load_rowG rfl 28 _ rfl _ rfl 28 _ _ _ K2b.out Try.underlying28 rfl (by kernel_rfl) ?_))
            clear cb fb lb
            refine CNT2.mono ?_
            intro e wC he
            rcases MB.out.step (More.refl _) HK.out (good_count2 HH.out) he with ⟨a', hE', rfl, hd', ht', hk'⟩ | ⟨now, DC, FC, hE', rfl, MC, hq', hk', hf'⟩
            · exact ⟨rfl, NEED.out a' wC true (by have := HT.out; simp only [bindP_assoc, if_true] at this; exact this.symm.trans (bindP_need hE')) hd' ht' (hk' g0 _ n0b BB.out)⟩
            have bC : BoxB g0 wC true := hk' g0 _ n0b BB.out
            obtain ⟨cb, fb, lb⟩ := box_cells bC
            have n0c := (KEEP.out _ _ _ MC).2.2
            have NX := Lib.hid (show CtI W (wC.setCell ⟨g0, 0, none⟩ (.bool (decide (now = was + sz)))) F p g0 kn n c.pg c.st l x y Rr (j + 1) DC FC (decide (now = was + sz)) from { hj := by omega, mid := MC.box (fun _ => rfl) n0c _ bC, box := boxB_set bC _, rest := by have := HT.out; simp only [bindP_assoc, if_true] at this; rw [bindP_ok hE'] at this; exact this })
            clear n0b hk' hf' he MC bC hE'
            go_wp2_with fail
            go_roundw
            case rel => exact ⟨j + 1, DC, FC, _, by go_num, NX.out⟩
            case measure => simp [intOf]; omega
      have E0 : decide (kind = 0) = false := by simp [q0]
      by_cases qk : kind = 1
      · have E1 : decide (kind = 1) = true := by simp [qk]
        have HR2 := HR1.out
        rw [qk] at HR2
        unfold actP at HR2
        rw [if_neg (by omega), if_pos rfl, map_split (fun b : Bool => if b then -sizeV c.pg k else 0), bindP_assoc] at HR2
        clear HR1
        generalize sizeV c.pg k = sz at hsz HR2 ⊢
        have HR2 := Lib.hid HR2
        have qn : IntKind.i64.wrap (-sz) = -sz := wrap_in (by omega) (by omega)
        subst qk
        go_wp2_with fail
        refine wp_region_more_tail 7 (by kernel_rfl) (by kernel_rfl) ?_
        simp only [List.take_succ_cons, List.take_zero, List.drop_succ_cons, List.drop_zero]
        iterate 1
          with_reducible refine wpQuiet_step (fun K hK => ?_)
          go_simp
          first
          | (refine hK _ ?_; clear hK K)
          | (apply Exists.intro
             refine ⟨fun W hW => ?_, hK _ ?_⟩
             first
             | (go_simp; try rfl)
             clear hK K)
        refine wpQuiet_load_row rfl 28 _ rfl _ rfl 28 _ _ _ (fun W hW => hW.block K2a.out) Try.underlying28 rfl (by kernel_rfl) ?_
        iterate 5
          with_reducible refine wpQuiet_step (fun K hK => ?_)
          go_simp
          first
          | (refine hK _ ?_; clear hK K)
          | (apply Exists.intro
             refine ⟨fun W hW => ?_, hK _ ?_⟩
             first
             | (have c1' := hW.cell c1; have y1' := hW.cell y1; go_simp; try rfl)
             clear hK K)
        refine wpQuiet_nil ?_
        intro w3 m3
        have MP := c_Unmap HR.out HH.out hn F1 p kn D1 k w3 (M2.out.more m3).view HK.out M2.out.inv
        rw [mapR_eq] at MP
        have M3 := Lib.hid (M2.out.more m3)
        have B3 : Hid (BoxB g0 w3 r) := Lib.hid (m3.block B2.out)
        clear c1 y1 y0 y2 m3 M2 B2
        go_wp2_with fail
        refine MP.mono ?_
        clear MP
        intro e wB he
        rcases M3.out.step (More.refl _) HK.out (good_bind (good_turn HH.out k 0 (by unfold W64; omega)) (fun x hx => good_pure n (Q := fun _ => True) trivial)) he with ⟨a', hE', rfl, hd', ht', hk'⟩ | ⟨b, DB, FB, hE', rfl, MB0, hq', hk', hf'⟩
        · exact ⟨rfl, NEED.out a' wB r (HR2.out.symm.trans (bindP_need hE')) hd' ht' (hk' g0 _ n02 B3.out)⟩
        have BB : Hid (BoxB g0 wB r) := Lib.hid (hk' g0 _ n02 B3.out)
        have MB := Lib.hid MB0
        have HTB := (bindP_ok hE').symm.trans HR2.out
        clear he hk' hf' MB0 M3 B3 HR2 hE'
        cases b with
        | false =>
          have HT := Lib.hid HTB
          simp only [bindP_pure, Bool.false_eq_true, if_false, Int.add_zero, Int.sub_zero, Int.neg_zero] at HT
          clear HTB
          obtain ⟨⟨_, kb2, _, _⟩, _, n0b⟩ := KEEP.out _ _ _ MB.out
          have qw : IntKind.i64.wrap (was) = was := wrap_in (by omega) (by omega)
          obtain ⟨cb, fb, lb⟩ := box_cells BB.out
          have K2b := Lib.hid kb2
          clear kb2
          cases r with
          | false =>
            have NX := Lib.hid (show CtI W (wB.setCell ⟨g0, 0, none⟩ (.bool false)) F p g0 kn n c.pg c.st l x y Rr (j + 1) DB FB false from { hj := by omega, mid := MB.out.box (fun _ => rfl) n0b _ BB.out, box := boxB_set BB.out false, rest := HT.out })
            clear n0b
            go_wp2_with fail
            go_roundw
            case rel => exact ⟨j + 1, DB, FB, false, by go_num, NX.out⟩
            case measure => simp [intOf]; omega
          | true =>
            have CNT2 := c_Count HR.out HH.out FB p kn DB wB MB.out.view HK.out MB.out.inv
            go_wp2_with (first | (refine wpList_load_row rfl 28 _ rfl _ rfl 28 _ _ _ K2b.out Try.underlying28 rfl (by kernel_rfl) ?_) | (refine wpList_load_rowG rfl 28 _ rfl _ rfl 28 _ _ _ K2b.out Try.underlying28 rfl (by kernel_rfl) ?_))
            clear cb fb lb
            refine CNT2.mono ?_
            intro e wC he
            rcases MB.out.step (More.refl _) HK.out (good_count2 HH.out) he with ⟨a', hE', rfl, hd', ht', hk'⟩ | ⟨now, DC, FC, hE', rfl, MC, hq', hk', hf'⟩
            · exact ⟨rfl, NEED.out a' wC true (by have := HT.out; simp only [bindP_assoc, if_true] at this; exact this.symm.trans (bindP_need hE')) hd' ht' (hk' g0 _ n0b BB.out)⟩
            have bC : BoxB g0 wC true := hk' g0 _ n0b BB.out
            obtain ⟨cb, fb, lb⟩ := box_cells bC
            have n0c := (KEEP.out _ _ _ MC).2.2
            have NX := Lib.hid (show CtI W (wC.setCell ⟨g0, 0, none⟩ (.bool (decide (now = was)))) F p g0 kn n c.pg c.st l x y Rr (j + 1) DC FC (decide (now = was)) from { hj := by omega, mid := MC.box (fun _ => rfl) n0c _ bC, box := boxB_set bC _, rest := by have := HT.out; simp only [bindP_assoc, if_true] at this; rw [bindP_ok hE'] at this; exact this })
            clear n0b hk' hf' he MC bC hE'
            go_wp2_with fail
            go_roundw
            case rel => exact ⟨j + 1, DC, FC, _, by go_num, NX.out⟩
            case measure => simp [intOf]; omega
        | true =>
          have HT := Lib.hid HTB
          simp only [bindP_pure, if_true] at HT
          clear HTB
          obtain ⟨⟨_, kb2, _, _⟩, _, n0b⟩ := KEEP.out _ _ _ MB.out
          have qw : IntKind.i64.wrap (was + -sz) = was + -sz := wrap_in (by omega) (by omega)
          obtain ⟨cb, fb, lb⟩ := box_cells BB.out
          have K2b := Lib.hid kb2
          clear kb2
          cases r with
          | false =>
            have NX := Lib.hid (show CtI W (wB.setCell ⟨g0, 0, none⟩ (.bool false)) F p g0 kn n c.pg c.st l x y Rr (j + 1) DB FB false from { hj := by omega, mid := MB.out.box (fun _ => rfl) n0b _ BB.out, box := boxB_set BB.out false, rest := HT.out })
            clear n0b
            go_wp2_with fail
            go_roundw
            case rel => exact ⟨j + 1, DB, FB, false, by go_num, NX.out⟩
            case measure => simp [intOf]; omega
          | true =>
            have CNT2 := c_Count HR.out HH.out FB p kn DB wB MB.out.view HK.out MB.out.inv
            go_wp2_with (first | (refine wpList_load_row rfl 28 _ rfl _ rfl 28 _ _ _ K2b.out Try.underlying28 rfl (by kernel_rfl) ?_) | (refine wpList_load_rowG rfl 28 _ rfl _ rfl 28 _ _ _ K2b.out Try.underlying28 rfl (by kernel_rfl) ?_))
            clear cb fb lb
            refine CNT2.mono ?_
            intro e wC he
            rcases MB.out.step (More.refl _) HK.out (good_count2 HH.out) he with ⟨a', hE', rfl, hd', ht', hk'⟩ | ⟨now, DC, FC, hE', rfl, MC, hq', hk', hf'⟩
            · exact ⟨rfl, NEED.out a' wC true (by have := HT.out; simp only [bindP_assoc, if_true] at this; exact this.symm.trans (bindP_need hE')) hd' ht' (hk' g0 _ n0b BB.out)⟩
            have bC : BoxB g0 wC true := hk' g0 _ n0b BB.out
            obtain ⟨cb, fb, lb⟩ := box_cells bC
            have n0c := (KEEP.out _ _ _ MC).2.2
            have NX := Lib.hid (show CtI W (wC.setCell ⟨g0, 0, none⟩ (.bool (decide (now = was + -sz)))) F p g0 kn n c.pg c.st l x y Rr (j + 1) DC FC (decide (now = was + -sz)) from { hj := by omega, mid := MC.box (fun _ => rfl) n0c _ bC, box := boxB_set bC _, rest := by have := HT.out; simp only [bindP_assoc, if_true] at this; rw [bindP_ok hE'] at this; exact this })
            clear n0b hk' hf' he MC bC hE'
            go_wp2_with fail
            go_roundw
            case rel => exact ⟨j + 1, DC, FC, _, by go_num, NX.out⟩
            case measure => simp [intOf]; omega
      have E1 : decide (kind = 1) = false := by simp [qk]
      have HR2 := HR1.out
      unfold actP at HR2
      rw [if_neg q0, if_neg qk] at HR2
      have HR2 := Lib.hid HR2
      clear HR1
      go_wp2_with fail
      refine wp_region_more_tail 12 (by kernel_rfl) (by kernel_rfl) ?_
      simp only [List.take_succ_cons, List.take_zero, List.drop_succ_cons, List.drop_zero]
      iterate 1
        with_reducible refine wpQuiet_step (fun K hK => ?_)
        go_simp
        first
        | (refine hK _ ?_; clear hK K)
        | (apply Exists.intro
           refine ⟨fun W hW => ?_, hK _ ?_⟩
           first
           | (go_simp; try rfl)
           clear hK K)
      refine wpQuiet_load_row rfl 28 _ rfl _ rfl 28 _ _ _ (fun W hW => hW.block K2a.out) Try.underlying28 rfl (by kernel_rfl) ?_
      iterate 10
        with_reducible refine wpQuiet_step (fun K hK => ?_)
        go_simp
        first
        | (refine hK _ ?_; clear hK K)
        | (apply Exists.intro
           refine ⟨fun W hW => ?_, hK _ ?_⟩
           first
           | (have c1' := hW.cell c1; have y1' := hW.cell y1; have y2' := hW.cell y2; go_simp; try rfl)
           clear hK K)
      refine wpQuiet_nil ?_
      intro w3 m3
      have MP := c_Ensure HR.out HH.out hn F1 p kn D1 k z HXK.out w3 (M2.out.more m3).view HK.out M2.out.inv
      have M3 := Lib.hid (M2.out.more m3)
      have B3 : Hid (BoxB g0 w3 r) := Lib.hid (m3.block B2.out)
      clear c1 y1 y0 y2 m3 M2 B2
      go_wp2_with fail
      refine MP.mono ?_
      clear MP
      intro e wB he
      rcases M3.out.step (More.refl _) HK.out (good_ens2 HH.out k z) he with ⟨a', hE', rfl, hd', ht', hk'⟩ | ⟨b, DB, FB, hE', rfl, MB0, hq', hk', hf'⟩
      · exact ⟨rfl, NEED.out a' wB r (HR2.out.symm.trans (bindP_need hE')) hd' ht' (hk' g0 _ n02 B3.out)⟩
      have BB : Hid (BoxB g0 wB r) := Lib.hid (hk' g0 _ n02 B3.out)
      have MB := Lib.hid MB0
      have HTB := (bindP_ok hE').symm.trans HR2.out
      clear he hk' hf' MB0 M3 B3 HR2 hE'
      have HT := Lib.hid HTB
      clear HTB
      obtain ⟨⟨_, kb2, _, _⟩, _, n0b⟩ := KEEP.out _ _ _ MB.out
      have qw : IntKind.i64.wrap (was + b) = was + b := wrap_in (by omega) (by omega)
      obtain ⟨cb, fb, lb⟩ := box_cells BB.out
      have K2b := Lib.hid kb2
      clear kb2
      cases r with
      | false =>
        have NX := Lib.hid (show CtI W (wB.setCell ⟨g0, 0, none⟩ (.bool false)) F p g0 kn n c.pg c.st l x y Rr (j + 1) DB FB false from { hj := by omega, mid := MB.out.box (fun _ => rfl) n0b _ BB.out, box := boxB_set BB.out false, rest := HT.out })
        clear n0b
        go_wp2_with fail
        go_roundw
        case rel => exact ⟨j + 1, DB, FB, false, by go_num, NX.out⟩
        case measure => simp [intOf]; omega
      | true =>
        have CNT2 := c_Count HR.out HH.out FB p kn DB wB MB.out.view HK.out MB.out.inv
        go_wp2_with (first | (refine wpList_load_row rfl 28 _ rfl _ rfl 28 _ _ _ K2b.out Try.underlying28 rfl (by kernel_rfl) ?_) | (refine wpList_load_rowG rfl 28 _ rfl _ rfl 28 _ _ _ K2b.out Try.underlying28 rfl (by kernel_rfl) ?_))
        clear cb fb lb
        refine CNT2.mono ?_
        intro e wC he
        rcases MB.out.step (More.refl _) HK.out (good_count2 HH.out) he with ⟨a', hE', rfl, hd', ht', hk'⟩ | ⟨now, DC, FC, hE', rfl, MC, hq', hk', hf'⟩
        · exact ⟨rfl, NEED.out a' wC true (by have := HT.out; simp only [bindP_assoc, if_true] at this; exact this.symm.trans (bindP_need hE')) hd' ht' (hk' g0 _ n0b BB.out)⟩
        have bC : BoxB g0 wC true := hk' g0 _ n0b BB.out
        obtain ⟨cb, fb, lb⟩ := box_cells bC
        have n0c := (KEEP.out _ _ _ MC).2.2
        have NX := Lib.hid (show CtI W (wC.setCell ⟨g0, 0, none⟩ (.bool (decide (now = was + b)))) F p g0 kn n c.pg c.st l x y Rr (j + 1) DC FC (decide (now = was + b)) from { hj := by omega, mid := MC.box (fun _ => rfl) n0c _ bC, box := boxB_set bC _, rest := by have := HT.out; simp only [bindP_assoc, if_true] at this; rw [bindP_ok hE'] at this; exact this })
        clear n0b hk' hf' he MC bC hE'
        go_wp2_with fail
        go_roundw
        case rel => exact ⟨j + 1, DC, FC, _, by go_num, NX.out⟩
        case measure => simp [intOf]; omega
    · obtain rfl : j = l.length := by omega
      have d1 : decide ((l.length : Int) < (l.length : Int)) = false := by simp
      have hrest := I.rest
      rw [List.drop_length] at hrest
      change endP c.pg c.st x y r kn D = Rr at hrest
      unfold endP at hrest
      have ENS := c_Ensure HR.out HH.out hn F' p kn D x y HX.out wr I.mid.view HK.out I.mid.inv
      have K2 := Lib.hid k2
      have HI := Lib.hid I
      have c3 := (box_cells k3).1
      have c4 := (box_cells k4).1
      have HREST := Lib.hid hrest
      clear k1 k2 k3 k4 kL I hrest
      go_wp2_with (refine wpList_load_row rfl 28 _ rfl _ rfl 28 _ _ _ K2.out Try.underlying28 rfl (by kernel_rfl) ?_)
      refine ENS.mono ?_
      intro e w1 he
      rcases HI.out.mid.step (More.refl _) HK.out (good_ens2 HH.out x y) he with ⟨a', hE, rfl, hd1, ht1, hk1⟩ | ⟨was, DE, FE, hE, rfl, M1, hq1, hk1, hf1⟩
      · exact ⟨rfl, NEED.out a' w1 r (HREST.out.symm.trans (bindP_need hE)) hd1 ht1 (hk1 g0 _ kn0 HI.out.box)⟩
      have BE : Hid (BoxB g0 w1 r) := Lib.hid (hk1 g0 _ kn0 HI.out.box)
      have HE := Lib.hid ((bindP_ok hE).symm.trans HREST.out)
      have ME := Lib.hid M1
      obtain ⟨⟨_, k2, k3, k4⟩, _, _⟩ := KEEP.out _ _ _ M1
      have K24 := Lib.hid k2
      clear c3 c4
      have c3 := (box_cells k3).1
      have c4 := (box_cells k4).1
      have hfl := field_pages c
      clear k2 k3 k4 M1 he hE hk1 hf1 HI HREST ENS K2 kn0
      have hxx := HX.out
      unfold W64 at hxx
      have pg1 := HR.out.pg1
      have pg2 := HR.out.pg2
      by_cases a0 : 0 ≤ x
      · have E0 : decide (0 ≤ x) = true := by simp [a0]
        by_cases a1 : 1 ≤ y
        · have E1 : decide (1 ≤ y) = true := by simp [a1]
          have E4 : IntKind.i64.wrap (c.pg - x) = c.pg - x := wrap_in (by omega) (by omega)
          by_cases a2 : x < c.pg
          · have E2 : decide (x < c.pg) = true := by simp [a2]
            by_cases a3 : y ≤ c.pg - x
            · have E3 : decide (y ≤ c.pg - x) = true := by simp [a3]
              have hth : thereB c.pg x y = true := there_iff.2 ⟨a0, a1, a3⟩
              clear hxx pg1 pg2 a0 a1 a2 a3
              go_wp2_with fail
              refine wp_region_more (by kernel_rfl) (by kernel_rfl) ?_
              iterate 8
                with_reducible refine wpQuiet_step (fun K hK => ?_)
                go_simp
                first
                | (refine hK _ ?_; clear hK K)
                | (apply Exists.intro
                   refine ⟨fun W hW => ?_, hK _ ?_⟩
                   first
                   | (have c3' := hW.cell c3; have c4' := hW.cell c4; go_simp; try rfl)
                   clear hK K)
              refine wpQuiet_load_row rfl 28 _ rfl _ rfl 28 _ _ _ (fun W hW => hW.block K24.out) Try.underlying28 rfl (by kernel_rfl) ?_
              iterate 6
                with_reducible refine wpQuiet_step (fun K hK => ?_)
                go_simp
                first
                | (refine hK _ ?_; clear hK K)
                | (apply Exists.intro
                   refine ⟨fun W hW => ?_, hK _ ?_⟩
                   first
                   | (go_at_call 16; exact Calls.more hW (y_config HR.out W))
                   | (have c3' := hW.cell c3; have c4' := hW.cell c4; go_simp; try rfl)
                   clear hK K)
              refine wpQuiet_load_row rfl 28 _ rfl _ rfl 28 _ _ _ (fun W hW => hW.block K24.out) Try.underlying28 rfl (by kernel_rfl) ?_
              iterate 7
                with_reducible refine wpQuiet_step (fun K hK => ?_)
                go_simp
                first
                | (refine hK _ ?_; clear hK K)
                | (apply Exists.intro
                   refine ⟨fun W hW => ?_, hK _ ?_⟩
                   first
                   | (go_at_call 16; exact Calls.more hW (y_config HR.out W))
                   | (have c3' := hW.cell c3; have c4' := hW.cell c4; go_simp; try rfl)
                   clear hK K)
              refine wpQuiet_nil ?_
              intro w5 m5
              have M5 := Lib.hid (ME.out.more m5)
              have B5 : Hid (BoxB g0 w5 r) := Lib.hid (m5.block BE.out)
              clear m5 c3 c4
              obtain ⟨⟨_, ke2, ke3, ke4⟩, _, n05⟩ := KEEP.out _ _ _ M5.out
              have K25 := Lib.hid ke2
              have c3 := (box_cells ke3).1
              have c4 := (box_cells ke4).1
              clear ke2 ke3 ke4 ME BE
              obtain ⟨cb, fb, lb⟩ := box_cells B5.out
              cases r with
              | false =>
                have FN := Lib.hid (DONE.out _ _ _ false HE.out.symm (M5.out.box (fun _ => rfl) n05 (.bool false) B5.out) (boxB_set B5.out false))
                clear n05
                go_wp2_with fail
                go_end0
                exact FN.out
              | true =>
                have COV := c_Covers HR.out HH.out FE p kn DE x y HX.out w5 M5.out.view HK.out M5.out.inv
                go_wp2_with (first | (refine wpList_load_row rfl 28 _ rfl _ rfl 28 _ _ _ K25.out Try.underlying28 rfl (by kernel_rfl) ?_) | (refine wpList_load_rowG rfl 28 _ rfl _ rfl 28 _ _ _ K25.out Try.underlying28 rfl (by kernel_rfl) ?_))
                refine COV.mono ?_
                clear COV c3 c4 cb fb lb
                intro e w6 he
                rcases M5.out.step (More.refl _) HK.out (good_covers HH.out x y) he with ⟨a', hE', rfl, hd', ht', hk'⟩ | ⟨b, D6, F6, hE', rfl, M6, hq', hk', hf'⟩
                · exact ⟨rfl, NEED.out a' w6 true (HE.out.symm.trans (bindP_need hE')) hd' ht' (hk' g0 _ n05 B5.out)⟩
                have H6 := (bindP_ok hE').symm.trans HE.out
                rw [hth] at H6
                have B6 : BoxB g0 w6 true := hk' g0 _ n05 B5.out
                obtain ⟨⟨_, ke2, ke3, ke4⟩, _, n06⟩ := KEEP.out _ _ _ M6
                have K26 := Lib.hid ke2
                have c3 := (box_cells ke3).1
                have c4 := (box_cells ke4).1
                clear ke2 ke3 ke4 he hE' hk' hf' n05
                cases b with
                | false =>
                  have MZ := Lib.hid M6
                  have BZ := Lib.hid B6
                  have HZ := Lib.hid (show Rr = .ok false D6 from H6.symm)
                  clear M6 B6 H6 c3 c4
                  obtain ⟨cb, fb, lb⟩ := box_cells BZ.out
                  have n0z := (KEEP.out _ _ _ MZ.out).2.2
                  have FN := Lib.hid (DONE.out _ _ _ false HZ.out (MZ.out.box (fun _ => rfl) n0z (.bool false) BZ.out) (boxB_set BZ.out false))
                  clear n0z
                  go_wp2_with fail
                  go_end0
                  exact FN.out
                | true =>
                  have ENS := c_Ensure HR.out HH.out hn F6 p kn D6 x y HX.out w6 M6.view HK.out M6.inv
                  have M6 := Lib.hid M6
                  have B6 := Lib.hid B6
                  have H6 := Lib.hid H6
                  go_wp2_with (first | (refine wpList_load_row rfl 28 _ rfl _ rfl 28 _ _ _ K26.out Try.underlying28 rfl (by kernel_rfl) ?_) | (refine wpList_load_rowG rfl 28 _ rfl _ rfl 28 _ _ _ K26.out Try.underlying28 rfl (by kernel_rfl) ?_))
                  refine ENS.mono ?_
                  clear ENS c3 c4
                  intro e w7 he
                  rcases M6.out.step (More.refl _) HK.out (good_ens2 HH.out x y) he with ⟨a', hE', rfl, hd', ht', hk'⟩ | ⟨b, D7, F7, hE', rfl, M7, hq', hk', hf'⟩
                  · exact ⟨rfl, NEED.out a' w7 true (H6.out.symm.trans (bindP_need (f := fun z : Int => pureP (decide (z = 0))) hE')) hd' ht' (hk' g0 _ n06 B6.out)⟩
                  have MZ := Lib.hid M7
                  have BZ : Hid (BoxB g0 w7 true) := Lib.hid (hk' g0 _ n06 B6.out)
                  have HZ := Lib.hid (show Rr = .ok (decide (b = 0)) D7 from H6.out.symm.trans (bindP_ok (f := fun z : Int => pureP (decide (z = 0))) hE'))
                  clear M7 he hE' hk' hf' n06
                  obtain ⟨cb, fb, lb⟩ := box_cells BZ.out
                  have n0z := (KEEP.out _ _ _ MZ.out).2.2
                  have FN := Lib.hid (DONE.out _ _ _ (decide (b = 0)) HZ.out (MZ.out.box (fun _ => rfl) n0z (.bool (decide (b = 0))) BZ.out) (boxB_set BZ.out (decide (b = 0))))
                  clear n0z
                  go_wp2_with fail
                  go_end0
                  exact FN.out
            · have E3 : decide (y ≤ c.pg - x) = false := by simp [a3]
              have hth : thereB c.pg x y = false := by unfold thereB; simp [a3]
              clear hxx pg1 pg2 a0 a1 a2 a3
              go_wp2_with fail
              refine wp_region_more (by kernel_rfl) (by kernel_rfl) ?_
              iterate 8
                with_reducible refine wpQuiet_step (fun K hK => ?_)
                go_simp
                first
                | (refine hK _ ?_; clear hK K)
                | (apply Exists.intro
                   refine ⟨fun W hW => ?_, hK _ ?_⟩
                   first
                   | (have c3' := hW.cell c3; have c4' := hW.cell c4; go_simp; try rfl)
                   clear hK K)
              refine wpQuiet_load_row rfl 28 _ rfl _ rfl 28 _ _ _ (fun W hW => hW.block K24.out) Try.underlying28 rfl (by kernel_rfl) ?_
              iterate 6
                with_reducible refine wpQuiet_step (fun K hK => ?_)
                go_simp
                first
                | (refine hK _ ?_; clear hK K)
                | (apply Exists.intro
                   refine ⟨fun W hW => ?_, hK _ ?_⟩
                   first
                   | (go_at_call 16; exact Calls.more hW (y_config HR.out W))
                   | (have c3' := hW.cell c3; have c4' := hW.cell c4; go_simp; try rfl)
                   clear hK K)
              refine wpQuiet_load_row rfl 28 _ rfl _ rfl 28 _ _ _ (fun W hW => hW.block K24.out) Try.underlying28 rfl (by kernel_rfl) ?_
              iterate 7
                with_reducible refine wpQuiet_step (fun K hK => ?_)
                go_simp
                first
                | (refine hK _ ?_; clear hK K)
                | (apply Exists.intro
                   refine ⟨fun W hW => ?_, hK _ ?_⟩
                   first
                   | (go_at_call 16; exact Calls.more hW (y_config HR.out W))
                   | (have c3' := hW.cell c3; have c4' := hW.cell c4; go_simp; try rfl)
                   clear hK K)
              refine wpQuiet_nil ?_
              intro w5 m5
              have M5 := Lib.hid (ME.out.more m5)
              have B5 : Hid (BoxB g0 w5 r) := Lib.hid (m5.block BE.out)
              clear m5 c3 c4
              obtain ⟨⟨_, ke2, ke3, ke4⟩, _, n05⟩ := KEEP.out _ _ _ M5.out
              have K25 := Lib.hid ke2
              have c3 := (box_cells ke3).1
              have c4 := (box_cells ke4).1
              clear ke2 ke3 ke4 ME BE
              obtain ⟨cb, fb, lb⟩ := box_cells B5.out
              cases r with
              | false =>
                have FN := Lib.hid (DONE.out _ _ _ false HE.out.symm (M5.out.box (fun _ => rfl) n05 (.bool false) B5.out) (boxB_set B5.out false))
                clear n05
                go_wp2_with fail
                go_end0
                exact FN.out
              | true =>
                have COV := c_Covers HR.out HH.out FE p kn DE x y HX.out w5 M5.out.view HK.out M5.out.inv
                go_wp2_with (first | (refine wpList_load_row rfl 28 _ rfl _ rfl 28 _ _ _ K25.out Try.underlying28 rfl (by kernel_rfl) ?_) | (refine wpList_load_rowG rfl 28 _ rfl _ rfl 28 _ _ _ K25.out Try.underlying28 rfl (by kernel_rfl) ?_))
                refine COV.mono ?_
                clear COV c3 c4 cb fb lb
                intro e w6 he
                rcases M5.out.step (More.refl _) HK.out (good_covers HH.out x y) he with ⟨a', hE', rfl, hd', ht', hk'⟩ | ⟨b, D6, F6, hE', rfl, M6, hq', hk', hf'⟩
                · exact ⟨rfl, NEED.out a' w6 true (HE.out.symm.trans (bindP_need hE')) hd' ht' (hk' g0 _ n05 B5.out)⟩
                have H6 := (bindP_ok hE').symm.trans HE.out
                rw [hth] at H6
                have B6 : BoxB g0 w6 true := hk' g0 _ n05 B5.out
                obtain ⟨⟨_, ke2, ke3, ke4⟩, _, n06⟩ := KEEP.out _ _ _ M6
                have K26 := Lib.hid ke2
                have c3 := (box_cells ke3).1
                have c4 := (box_cells ke4).1
                clear ke2 ke3 ke4 he hE' hk' hf' n05
                cases b with
                | true =>
                  have MZ := Lib.hid M6
                  have BZ := Lib.hid B6
                  have HZ := Lib.hid (show Rr = .ok false D6 from H6.symm)
                  clear M6 B6 H6 c3 c4
                  obtain ⟨cb, fb, lb⟩ := box_cells BZ.out
                  have n0z := (KEEP.out _ _ _ MZ.out).2.2
                  have FN := Lib.hid (DONE.out _ _ _ false HZ.out (MZ.out.box (fun _ => rfl) n0z (.bool false) BZ.out) (boxB_set BZ.out false))
                  clear n0z
                  go_wp2_with fail
                  go_end0
                  exact FN.out
                | false =>
                  have ENS := c_Ensure HR.out HH.out hn F6 p kn D6 x y HX.out w6 M6.view HK.out M6.inv
                  have M6 := Lib.hid M6
                  have B6 := Lib.hid B6
                  have H6 := Lib.hid H6
                  go_wp2_with (first | (refine wpList_load_row rfl 28 _ rfl _ rfl 28 _ _ _ K26.out Try.underlying28 rfl (by kernel_rfl) ?_) | (refine wpList_load_rowG rfl 28 _ rfl _ rfl 28 _ _ _ K26.out Try.underlying28 rfl (by kernel_rfl) ?_))
                  refine ENS.mono ?_
                  clear ENS c3 c4
                  intro e w7 he
                  rcases M6.out.step (More.refl _) HK.out (good_ens2 HH.out x y) he with ⟨a', hE', rfl, hd', ht', hk'⟩ | ⟨b, D7, F7, hE', rfl, M7, hq', hk', hf'⟩
                  · exact ⟨rfl, NEED.out a' w7 true (H6.out.symm.trans (bindP_need (f := fun z : Int => pureP (decide (z = 0))) hE')) hd' ht' (hk' g0 _ n06 B6.out)⟩
                  have MZ := Lib.hid M7
                  have BZ : Hid (BoxB g0 w7 true) := Lib.hid (hk' g0 _ n06 B6.out)
                  have HZ := Lib.hid (show Rr = .ok (decide (b = 0)) D7 from H6.out.symm.trans (bindP_ok (f := fun z : Int => pureP (decide (z = 0))) hE'))
                  clear M7 he hE' hk' hf' n06
                  obtain ⟨cb, fb, lb⟩ := box_cells BZ.out
                  have n0z := (KEEP.out _ _ _ MZ.out).2.2
                  have FN := Lib.hid (DONE.out _ _ _ (decide (b = 0)) HZ.out (MZ.out.box (fun _ => rfl) n0z (.bool (decide (b = 0))) BZ.out) (boxB_set BZ.out (decide (b = 0))))
                  clear n0z
                  go_wp2_with fail
                  go_end0
                  exact FN.out
          · have E2 : decide (x < c.pg) = false := by simp [a2]
            have hth : thereB c.pg x y = false := by unfold thereB; simp; omega
            clear hxx pg1 pg2 a0 a1 a2
            go_wp2_with fail
            refine wp_region_more (by kernel_rfl) (by kernel_rfl) ?_
            iterate 8
              with_reducible refine wpQuiet_step (fun K hK => ?_)
              go_simp
              first
              | (refine hK _ ?_; clear hK K)
              | (apply Exists.intro
                 refine ⟨fun W hW => ?_, hK _ ?_⟩
                 first
                 | (have c3' := hW.cell c3; have c4' := hW.cell c4; go_simp; try rfl)
                 clear hK K)
            refine wpQuiet_load_row rfl 28 _ rfl _ rfl 28 _ _ _ (fun W hW => hW.block K24.out) Try.underlying28 rfl (by kernel_rfl) ?_
            iterate 14
              with_reducible refine wpQuiet_step (fun K hK => ?_)
              go_simp
              first
              | (refine hK _ ?_; clear hK K)
              | (apply Exists.intro
                 refine ⟨fun W hW => ?_, hK _ ?_⟩
                 first
                 | (go_at_call 16; exact Calls.more hW (y_config HR.out W))
                 | (have c3' := hW.cell c3; have c4' := hW.cell c4; go_simp; try rfl)
                 clear hK K)
            refine wpQuiet_nil ?_
            intro w5 m5
            have M5 := Lib.hid (ME.out.more m5)
            have B5 : Hid (BoxB g0 w5 r) := Lib.hid (m5.block BE.out)
            clear m5 c3 c4
            obtain ⟨⟨_, ke2, ke3, ke4⟩, _, n05⟩ := KEEP.out _ _ _ M5.out
            have K25 := Lib.hid ke2
            have c3 := (box_cells ke3).1
            have c4 := (box_cells ke4).1
            clear ke2 ke3 ke4 ME BE
            obtain ⟨cb, fb, lb⟩ := box_cells B5.out
            cases r with
            | false =>
              have FN := Lib.hid (DONE.out _ _ _ false HE.out.symm (M5.out.box (fun _ => rfl) n05 (.bool false) B5.out) (boxB_set B5.out false))
              clear n05
              go_wp2_with fail
              go_end0
              exact FN.out
            | true =>
              have COV := c_Covers HR.out HH.out FE p kn DE x y HX.out w5 M5.out.view HK.out M5.out.inv
              go_wp2_with (first | (refine wpList_load_row rfl 28 _ rfl _ rfl 28 _ _ _ K25.out Try.underlying28 rfl (by kernel_rfl) ?_) | (refine wpList_load_rowG rfl 28 _ rfl _ rfl 28 _ _ _ K25.out Try.underlying28 rfl (by kernel_rfl) ?_))
              refine COV.mono ?_
              clear COV c3 c4 cb fb lb
              intro e w6 he
              rcases M5.out.step (More.refl _) HK.out (good_covers HH.out x y) he with ⟨a', hE', rfl, hd', ht', hk'⟩ | ⟨b, D6, F6, hE', rfl, M6, hq', hk', hf'⟩
              · exact ⟨rfl, NEED.out a' w6 true (HE.out.symm.trans (bindP_need hE')) hd' ht' (hk' g0 _ n05 B5.out)⟩
              have H6 := (bindP_ok hE').symm.trans HE.out
              rw [hth] at H6
              have B6 : BoxB g0 w6 true := hk' g0 _ n05 B5.out
              obtain ⟨⟨_, ke2, ke3, ke4⟩, _, n06⟩ := KEEP.out _ _ _ M6
              have K26 := Lib.hid ke2
              have c3 := (box_cells ke3).1
              have c4 := (box_cells ke4).1
              clear ke2 ke3 ke4 he hE' hk' hf' n05
              cases b with
              | true =>
                have MZ := Lib.hid M6
                have BZ := Lib.hid B6
                have HZ := Lib.hid (show Rr = .ok false D6 from H6.symm)
                clear M6 B6 H6 c3 c4
                obtain ⟨cb, fb, lb⟩ := box_cells BZ.out
                have n0z := (KEEP.out _ _ _ MZ.out).2.2
                have FN := Lib.hid (DONE.out _ _ _ false HZ.out (MZ.out.box (fun _ => rfl) n0z (.bool false) BZ.out) (boxB_set BZ.out false))
                clear n0z
                go_wp2_with fail
                go_end0
                exact FN.out
              | false =>
                have ENS := c_Ensure HR.out HH.out hn F6 p kn D6 x y HX.out w6 M6.view HK.out M6.inv
                have M6 := Lib.hid M6
                have B6 := Lib.hid B6
                have H6 := Lib.hid H6
                go_wp2_with (first | (refine wpList_load_row rfl 28 _ rfl _ rfl 28 _ _ _ K26.out Try.underlying28 rfl (by kernel_rfl) ?_) | (refine wpList_load_rowG rfl 28 _ rfl _ rfl 28 _ _ _ K26.out Try.underlying28 rfl (by kernel_rfl) ?_))
                refine ENS.mono ?_
                clear ENS c3 c4
                intro e w7 he
                rcases M6.out.step (More.refl _) HK.out (good_ens2 HH.out x y) he with ⟨a', hE', rfl, hd', ht', hk'⟩ | ⟨b, D7, F7, hE', rfl, M7, hq', hk', hf'⟩
                · exact ⟨rfl, NEED.out a' w7 true (H6.out.symm.trans (bindP_need (f := fun z : Int => pureP (decide (z = 0))) hE')) hd' ht' (hk' g0 _ n06 B6.out)⟩
                have MZ := Lib.hid M7
                have BZ : Hid (BoxB g0 w7 true) := Lib.hid (hk' g0 _ n06 B6.out)
                have HZ := Lib.hid (show Rr = .ok (decide (b = 0)) D7 from H6.out.symm.trans (bindP_ok (f := fun z : Int => pureP (decide (z = 0))) hE'))
                clear M7 he hE' hk' hf' n06
                obtain ⟨cb, fb, lb⟩ := box_cells BZ.out
                have n0z := (KEEP.out _ _ _ MZ.out).2.2
                have FN := Lib.hid (DONE.out _ _ _ (decide (b = 0)) HZ.out (MZ.out.box (fun _ => rfl) n0z (.bool (decide (b = 0))) BZ.out) (boxB_set BZ.out (decide (b = 0))))
                clear n0z
                go_wp2_with fail
                go_end0
                exact FN.out
        · have E1 : decide (1 ≤ y) = false := by simp [a1]
          have hth : thereB c.pg x y = false := by unfold thereB; simp [a1]
          clear hxx pg1 pg2 a0 a1
          go_wp2_with fail
          refine wp_region_more (by kernel_rfl) (by kernel_rfl) ?_
          iterate 23
            with_reducible refine wpQuiet_step (fun K hK => ?_)
            go_simp
            first
            | (refine hK _ ?_; clear hK K)
            | (apply Exists.intro
               refine ⟨fun W hW => ?_, hK _ ?_⟩
               first
               | (have c3' := hW.cell c3; have c4' := hW.cell c4; go_simp; try rfl)
               clear hK K)
          refine wpQuiet_nil ?_
          intro w5 m5
          have M5 := Lib.hid (ME.out.more m5)
          have B5 : Hid (BoxB g0 w5 r) := Lib.hid (m5.block BE.out)
          clear m5 c3 c4
          obtain ⟨⟨_, ke2, ke3, ke4⟩, _, n05⟩ := KEEP.out _ _ _ M5.out
          have K25 := Lib.hid ke2
          have c3 := (box_cells ke3).1
          have c4 := (box_cells ke4).1
          clear ke2 ke3 ke4 ME BE
          obtain ⟨cb, fb, lb⟩ := box_cells B5.out
          cases r with
          | false =>
            have FN := Lib.hid (DONE.out _ _ _ false HE.out.symm (M5.out.box (fun _ => rfl) n05 (.bool false) B5.out) (boxB_set B5.out false))
            clear n05
            go_wp2_with fail
            go_end0
            exact FN.out
          | true =>
            have COV := c_Covers HR.out HH.out FE p kn DE x y HX.out w5 M5.out.view HK.out M5.out.inv
            go_wp2_with (first | (refine wpList_load_row rfl 28 _ rfl _ rfl 28 _ _ _ K25.out Try.underlying28 rfl (by kernel_rfl) ?_) | (refine wpList_load_rowG rfl 28 _ rfl _ rfl 28 _ _ _ K25.out Try.underlying28 rfl (by kernel_rfl) ?_))
            refine COV.mono ?_
            clear COV c3 c4 cb fb lb
            intro e w6 he
            rcases M5.out.step (More.refl _) HK.out (good_covers HH.out x y) he with ⟨a', hE', rfl, hd', ht', hk'⟩ | ⟨b, D6, F6, hE', rfl, M6, hq', hk', hf'⟩
            · exact ⟨rfl, NEED.out a' w6 true (HE.out.symm.trans (bindP_need hE')) hd' ht' (hk' g0 _ n05 B5.out)⟩
            have H6 := (bindP_ok hE').symm.trans HE.out
            rw [hth] at H6
            have B6 : BoxB g0 w6 true := hk' g0 _ n05 B5.out
            obtain ⟨⟨_, ke2, ke3, ke4⟩, _, n06⟩ := KEEP.out _ _ _ M6
            have K26 := Lib.hid ke2
            have c3 := (box_cells ke3).1
            have c4 := (box_cells ke4).1
            clear ke2 ke3 ke4 he hE' hk' hf' n05
            cases b with
            | true =>
              have MZ := Lib.hid M6
              have BZ := Lib.hid B6
              have HZ := Lib.hid (show Rr = .ok false D6 from H6.symm)
              clear M6 B6 H6 c3 c4
              obtain ⟨cb, fb, lb⟩ := box_cells BZ.out
              have n0z := (KEEP.out _ _ _ MZ.out).2.2
              have FN := Lib.hid (DONE.out _ _ _ false HZ.out (MZ.out.box (fun _ => rfl) n0z (.bool false) BZ.out) (boxB_set BZ.out false))
              clear n0z
              go_wp2_with fail
              go_end0
              exact FN.out
            | false =>
              have ENS := c_Ensure HR.out HH.out hn F6 p kn D6 x y HX.out w6 M6.view HK.out M6.inv
              have M6 := Lib.hid M6
              have B6 := Lib.hid B6
              have H6 := Lib.hid H6
              go_wp2_with (first | (refine wpList_load_row rfl 28 _ rfl _ rfl 28 _ _ _ K26.out Try.underlying28 rfl (by kernel_rfl) ?_) | (refine wpList_load_rowG rfl 28 _ rfl _ rfl 28 _ _ _ K26.out Try.underlying28 rfl (by kernel_rfl) ?_))
              refine ENS.mono ?_
              clear ENS c3 c4
              intro e w7 he
              rcases M6.out.step (More.refl _) HK.out (good_ens2 HH.out x y) he with ⟨a', hE', rfl, hd', ht', hk'⟩ | ⟨b, D7, F7, hE', rfl, M7, hq', hk', hf'⟩
              · exact ⟨rfl, NEED.out a' w7 true (H6.out.symm.trans (bindP_need (f := fun z : Int => pureP (decide (z = 0))) hE')) hd' ht' (hk' g0 _ n06 B6.out)⟩
              have MZ := Lib.hid M7
              have BZ : Hid (BoxB g0 w7 true) := Lib.hid (hk' g0 _ n06 B6.out)
              have HZ := Lib.hid (show Rr = .ok (decide (b = 0)) D7 from H6.out.symm.trans (bindP_ok (f := fun z : Int => pureP (decide (z = 0))) hE'))
              clear M7 he hE' hk' hf' n06
              obtain ⟨cb, fb, lb⟩ := box_cells BZ.out
              have n0z := (KEEP.out _ _ _ MZ.out).2.2
              have FN := Lib.hid (DONE.out _ _ _ (decide (b = 0)) HZ.out (MZ.out.box (fun _ => rfl) n0z (.bool (decide (b = 0))) BZ.out) (boxB_set BZ.out (decide (b = 0))))
              clear n0z
              go_wp2_with fail
              go_end0
              exact FN.out
      · have E0 : decide (0 ≤ x) = false := by simp [a0]
        have hth : thereB c.pg x y = false := by unfold thereB; simp [a0]
        clear hxx pg1 pg2 a0
        go_wp2_with fail
        refine wp_region_more (by kernel_rfl) (by kernel_rfl) ?_
        iterate 23
          with_reducible refine wpQuiet_step (fun K hK => ?_)
          go_simp
          first
          | (refine hK _ ?_; clear hK K)
          | (apply Exists.intro
             refine ⟨fun W hW => ?_, hK _ ?_⟩
             first
             | (have c3' := hW.cell c3; have c4' := hW.cell c4; go_simp; try rfl)
             clear hK K)
        refine wpQuiet_nil ?_
        intro w5 m5
        have M5 := Lib.hid (ME.out.more m5)
        have B5 : Hid (BoxB g0 w5 r) := Lib.hid (m5.block BE.out)
        clear m5 c3 c4
        obtain ⟨⟨_, ke2, ke3, ke4⟩, _, n05⟩ := KEEP.out _ _ _ M5.out
        have K25 := Lib.hid ke2
        have c3 := (box_cells ke3).1
        have c4 := (box_cells ke4).1
        clear ke2 ke3 ke4 ME BE
        obtain ⟨cb, fb, lb⟩ := box_cells B5.out
        cases r with
        | false =>
          have FN := Lib.hid (DONE.out _ _ _ false HE.out.symm (M5.out.box (fun _ => rfl) n05 (.bool false) B5.out) (boxB_set B5.out false))
          clear n05
          go_wp2_with fail
          go_end0
          exact FN.out
        | true =>
          have COV := c_Covers HR.out HH.out FE p kn DE x y HX.out w5 M5.out.view HK.out M5.out.inv
          go_wp2_with (first | (refine wpList_load_row rfl 28 _ rfl _ rfl 28 _ _ _ K25.out Try.underlying28 rfl (by kernel_rfl) ?_) | (refine wpList_load_rowG rfl 28 _ rfl _ rfl 28 _ _ _ K25.out Try.underlying28 rfl (by kernel_rfl) ?_))
          refine COV.mono ?_
          clear COV c3 c4 cb fb lb
          intro e w6 he
          rcases M5.out.step (More.refl _) HK.out (good_covers HH.out x y) he with ⟨a', hE', rfl, hd', ht', hk'⟩ | ⟨b, D6, F6, hE', rfl, M6, hq', hk', hf'⟩
          · exact ⟨rfl, NEED.out a' w6 true (HE.out.symm.trans (bindP_need hE')) hd' ht' (hk' g0 _ n05 B5.out)⟩
          have H6 := (bindP_ok hE').symm.trans HE.out
          rw [hth] at H6
          have B6 : BoxB g0 w6 true := hk' g0 _ n05 B5.out
          obtain ⟨⟨_, ke2, ke3, ke4⟩, _, n06⟩ := KEEP.out _ _ _ M6
          have K26 := Lib.hid ke2
          have c3 := (box_cells ke3).1
          have c4 := (box_cells ke4).1
          clear ke2 ke3 ke4 he hE' hk' hf' n05
          cases b with
          | true =>
            have MZ := Lib.hid M6
            have BZ := Lib.hid B6
            have HZ := Lib.hid (show Rr = .ok false D6 from H6.symm)
            clear M6 B6 H6 c3 c4
            obtain ⟨cb, fb, lb⟩ := box_cells BZ.out
            have n0z := (KEEP.out _ _ _ MZ.out).2.2
            have FN := Lib.hid (DONE.out _ _ _ false HZ.out (MZ.out.box (fun _ => rfl) n0z (.bool false) BZ.out) (boxB_set BZ.out false))
            clear n0z
            go_wp2_with fail
            go_end0
            exact FN.out
          | false =>
            have ENS := c_Ensure HR.out HH.out hn F6 p kn D6 x y HX.out w6 M6.view HK.out M6.inv
            have M6 := Lib.hid M6
            have B6 := Lib.hid B6
            have H6 := Lib.hid H6
            go_wp2_with (first | (refine wpList_load_row rfl 28 _ rfl _ rfl 28 _ _ _ K26.out Try.underlying28 rfl (by kernel_rfl) ?_) | (refine wpList_load_rowG rfl 28 _ rfl _ rfl 28 _ _ _ K26.out Try.underlying28 rfl (by kernel_rfl) ?_))
            refine ENS.mono ?_
            clear ENS c3 c4
            intro e w7 he
            rcases M6.out.step (More.refl _) HK.out (good_ens2 HH.out x y) he with ⟨a', hE', rfl, hd', ht', hk'⟩ | ⟨b, D7, F7, hE', rfl, M7, hq', hk', hf'⟩
            · exact ⟨rfl, NEED.out a' w7 true (H6.out.symm.trans (bindP_need (f := fun z : Int => pureP (decide (z = 0))) hE')) hd' ht' (hk' g0 _ n06 B6.out)⟩
            have MZ := Lib.hid M7
            have BZ : Hid (BoxB g0 w7 true) := Lib.hid (hk' g0 _ n06 B6.out)
            have HZ := Lib.hid (show Rr = .ok (decide (b = 0)) D7 from H6.out.symm.trans (bindP_ok (f := fun z : Int => pureP (decide (z = 0))) hE'))
            clear M7 he hE' hk' hf' n06
            obtain ⟨cb, fb, lb⟩ := box_cells BZ.out
            have n0z := (KEEP.out _ _ _ MZ.out).2.2
            have FN := Lib.hid (DONE.out _ _ _ (decide (b = 0)) HZ.out (MZ.out.box (fun _ => rfl) n0z (.bool (decide (b = 0))) BZ.out) (boxB_set BZ.out (decide (b = 0))))
            clear n0z
            go_wp2_with fail
            go_end0
            exact FN.out
end Go.Proofs.Ytjljkidlhlgefaa
