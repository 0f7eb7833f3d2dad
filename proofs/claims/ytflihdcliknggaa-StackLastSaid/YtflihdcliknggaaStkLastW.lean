/-
  Layer 12's statement that what is pushed is popped, the last one first: the program, walked.
-/
import Derived.Test.YtflihdcliknggaaStkLastD
import Derived.Test.YtflihdcliknggaaRegI
namespace Go.Proofs.Ytflihdcliknggaa
open Go.RowKit Go.Sort Go.Maps Go.Shelf
set_option linter.unusedVariables false
set_option linter.unusedSimpArgs false

def ownL (a : Option Addr) (zs : List Int) (k : Nat) : Prop := zs ≠ [] ∧ owned a k
theorem IsWords.keepS {S : Nat → Prop} {w w' : World} {a : Option Addr} {zs : List Int} (h : IsWords w a zs) (t : Turned S w w') (n : ∀ k, ownL a zs k → ¬ S k) : IsWords w' a zs := by
  by_cases e : zs = []
  · exact .inl e
  · rcases h with h | ⟨s, o, rfl, hl, hc⟩
    · exact .inl h
    · exact .inr ⟨s, o, rfl, Nat.lt_of_lt_of_le hl t.size, fun i hi => cell_turned t (n s ⟨e, rfl⟩) (hc i hi)⟩
theorem IsWords.keepB {w w' : World} {a : Option Addr} {zs : List Int} (h : IsWords w a zs) {F' : Nat → Prop} (t : ∀ b o, ¬ F' b → w.heap[b]? = some o → w'.heap[b]? = some o) (n : ∀ k, ownL a zs k → ¬ F' k) : IsWords w' a zs := by
  by_cases e : zs = []
  · exact .inl e
  · rcases h with h | ⟨s, o, rfl, hl, hc⟩
    · exact .inl h
    · have hb : w'.heap[s]? = w.heap[s]? := by
        rw [t s _ (n s ⟨e, rfl⟩) (Array.getElem?_eq_getElem hl), Array.getElem?_eq_getElem hl]
      refine .inr ⟨s, o, rfl, ?_, fun i hi => ?_⟩
      · rw [Array.getElem?_eq_getElem hl] at hb
        exact lt_of_heap hb
      · have := hc i hi
        unfold World.cell? at this ⊢
        simp only at this ⊢
        rw [hb]; exact this
theorem IsWords.ownL {w : World} {a : Option Addr} {zs : List Int} (h : IsWords w a zs) {k : Nat} (q : ownL a zs k) : k < w.heap.size := by
  rcases h with h | ⟨s, o, rfl, hl, hc⟩
  · exact absurd h q.1
  · have := q.2
    simp [owned] at this
    omega
structure LaB (g1 g2 g3 g4 : Nat) (ad : Option Addr) (cap : Nat) (l : List Int) (m : Int) (k : Int) (r : Bool) (w : World) : Prop where
  h1 : BoxN g1 w k
  h2 : BoxB g2 w r
  h3 : w.heap[g3]? = some (.cells #[.slice ad l.length cap] 23 (0, 0))
  h4 : BoxN g4 w m
  row : IsWords w ad l
def LaS (g1 g2 : Nat) : Nat → Prop := fun k => k = g1 ∨ k = g2
/-- What its blocks may not be. -/
def LaO (g1 g2 g3 g4 : Nat) (ad : Option Addr) (l : List Int) (k : Nat) : Prop := k = g1 ∨ k = g2 ∨ k = g3 ∨ k = g4 ∨ ownL ad l k
structure LaD (g1 g2 g3 g4 : Nat) (ad : Option Addr) (l : List Int) : Prop where
  d12 : g1 ≠ g2
  d13 : g1 ≠ g3
  d14 : g1 ≠ g4
  d23 : g2 ≠ g3
  d24 : g2 ≠ g4
  o1 : ∀ k, ownL ad l k → k ≠ g1
  o2 : ∀ k, ownL ad l k → k ≠ g2
section
variable {g1 g2 g3 g4 cap : Nat} {ad : Option Addr} {l : List Int} {m k : Int} {r : Bool} {w w' : World}
theorem LaB.keep {S : Nat → Prop} (h : LaB g1 g2 g3 g4 ad cap l m k r w) (t : Turned S w w') (n : ∀ k, LaO g1 g2 g3 g4 ad l k → ¬ S k) : LaB g1 g2 g3 g4 ad cap l m k r w' :=
  ⟨kept_one t h.h1 (n _ (.inl rfl)), kept_one t h.h2 (n _ (.inr (.inl rfl))), kept_one t h.h3 (n _ (.inr (.inr (.inl rfl)))), kept_one t h.h4 (n _ (.inr (.inr (.inr (.inl rfl))))), h.row.keepS t (fun k q => n k (.inr (.inr (.inr (.inr q)))))⟩
theorem LaB.more (h : LaB g1 g2 g3 g4 ad cap l m k r w) (t : More w w') : LaB g1 g2 g3 g4 ad cap l m k r w' := h.keep t (fun _ _ q => q)
theorem LaB.keepB (h : LaB g1 g2 g3 g4 ad cap l m k r w) {F' : Nat → Prop} (n : ∀ k, LaO g1 g2 g3 g4 ad l k → ¬ F' k) (t : ∀ b o, ¬ F' b → w.heap[b]? = some o → w'.heap[b]? = some o) : LaB g1 g2 g3 g4 ad cap l m k r w' :=
  ⟨t _ _ (n _ (.inl rfl)) h.h1, t _ _ (n _ (.inr (.inl rfl))) h.h2, t _ _ (n _ (.inr (.inr (.inl rfl)))) h.h3, t _ _ (n _ (.inr (.inr (.inr (.inl rfl))))) h.h4, h.row.keepB t (fun k q => n k (.inr (.inr (.inr (.inr q)))))⟩
theorem LaB.set1 (h : LaB g1 g2 g3 g4 ad cap l m k r w) (d : LaD g1 g2 g3 g4 ad l) (x : Int) : LaB g1 g2 g3 g4 ad cap l m x r (w.setCell ⟨g1, 0, none⟩ (.int .i64 x)) :=
  ⟨setCell_one h.h1 _, set_othB h.h2 (Ne.symm d.d12), set_othB h.h3 (Ne.symm d.d13), set_othB h.h4 (Ne.symm d.d14), h.row.keepS (S := fun q => q = g1) (Turned.setCell (Turned.refl _ w) _ _ (fun _ => rfl)) d.o1⟩
theorem LaB.set2 (h : LaB g1 g2 g3 g4 ad cap l m k r w) (d : LaD g1 g2 g3 g4 ad l) (x : Bool) : LaB g1 g2 g3 g4 ad cap l m k x (w.setCell ⟨g2, 0, none⟩ (.bool x)) :=
  ⟨set_othB h.h1 d.d12, setCell_one h.h2 _, set_othB h.h3 (Ne.symm d.d23), set_othB h.h4 (Ne.symm d.d24), h.row.keepS (S := fun q => q = g2) (Turned.setCell (Turned.refl _ w) _ _ (fun _ => rfl)) d.o2⟩
theorem LaB.lt (h : LaB g1 g2 g3 g4 ad cap l m k r w) : g1 < w.heap.size ∧ g2 < w.heap.size ∧ g3 < w.heap.size ∧ g4 < w.heap.size := ⟨lt_of_heap h.h1, lt_of_heap h.h2, lt_of_heap h.h3, lt_of_heap h.h4⟩
end

set_option maxRecDepth 100000 in
set_option maxHeartbeats 8000000 in
theorem last_clo {m : Int} {n : Nat} (H : StIn 1 m n) (hm : m ≤ 60) (l : List Int) (ho : OkW l) (hll : l.length ≤ 60) (K0 : Nat) (hK0 : K0 ≤ l.length) (F : Nat → Prop) (p g1 g2 g3 g4 cap : Nat) (ad : Option Addr) (kn : Int → Option Int) (W0 : World) (hv : ViewAt W0 F p kn []) (hk : OkK kn) (hY : ∃ k r, LaB g1 g2 g3 g4 ad cap l m k r W0) (nF : ∀ k, LaO g1 g2 g3 g4 ad l k → ¬ F k) (hlt : ∀ k, LaO g1 g2 g3 g4 ad l k → k < W0.heap.size) (hd : LaD g1 g2 g3 g4 ad l)
    (hp1 : ∀ x D, stPushesP m l 0 0 true kn [] = .ok x D → x = (K0, true)) (hp2 : ∀ x D, stLenP m l kn [] = .ok x D → x = (K0 : Int)) (ht : ∀ x D, stLastP m l K0 kn [] = .ok x D → x = true) :
    Calls Try.prog 14 #[.pointer (some ⟨p, 0, none⟩), .pointer (some ⟨g1, 0, none⟩), .pointer (some ⟨g2, 0, none⟩), .pointer (some ⟨g3, 0, none⟩), .pointer (some ⟨g4, 0, none⟩)] W0 (WentY W0 F (LaS g1 g2) (fun w' => ∃ k r, LaB g1 g2 g3 g4 ad cap l m k r w') (fun w' => BoxB g2 w' true) p kn (ranOf (stLastP m l K0 kn []))) := by
  obtain ⟨Rr, hR⟩ : ∃ Rr, stLastP m l K0 kn [] = Rr := ⟨_, rfl⟩
  rw [hR] at ht ⊢
  obtain ⟨k0, r0, hB⟩ := hY
  have DD := Lib.hid hd
  have HK := Lib.hid hk
  have HH := Lib.hid H
  have HO := Lib.hid ho
  have H1 := Lib.hid hp1
  have H2 := Lib.hid hp2
  have HT := Lib.hid ht
  have HM0 := Lib.hid hm
  have HLL := Lib.hid hll
  have NF : Hid (∀ wr D' F', MidV W0 wr F (LaS g1 g2) p kn n D' F' → ∀ k, LaO g1 g2 g3 g4 ad l k → ¬ F' k) := Lib.hid fun wr D' F' h k hk => h.off (hlt k hk) (nF k hk)
  have LL : Hid (∀ D1 x D, stPushesP m l 0 0 true kn [] = .ok (K0, true) D1 → stKeptP 1 m kn D1 = .ok x D → stLenP m l kn [] = .ok x D) := Lib.hid fun D1 x D e1 e2 => by unfold stLenP; rw [bindP_ok e1]; exact e2
  have LN : Hid (∀ D1 a, stPushesP m l 0 0 true kn [] = .ok (K0, true) D1 → stKeptP 1 m kn D1 = .need a → Rr = .need a) := Lib.hid fun D1 a e1 e2 => by rw [← hR]; unfold stLastP stLenP; exact bindP_need (by rw [bindP_ok e1]; exact e2)
  have LD : Hid (∀ D1 x D, stPushesP m l 0 0 true kn [] = .ok (K0, true) D1 → stKeptP 1 m kn D1 = .ok x D → bindP (stPopsP m l K0 true) (fun r => bindP (stPopP 1 m) fun p => pureP (r && !p.2)) kn D = Rr) := Lib.hid fun D1 x D e1 e2 => by
    rw [← hR]; unfold stLastP
    rw [bindP_ok (show stLenP m l kn [] = .ok x D by unfold stLenP; rw [bindP_ok e1]; exact e2)]
  have PN : Hid (∀ a, stPushesP m l 0 0 true kn [] = .need a → Rr = .need a) := Lib.hid fun a e => by rw [← hR]; unfold stLastP stLenP; exact bindP_need (bindP_need e)
  have NEED : Hid (∀ a' w2 (k : Int) r, Rr = .need a' → DeadAt w2 p a' → Turned (fun b => F b ∨ LaS g1 g2 b) W0 w2 → LaB g1 g2 g3 g4 ad cap l m k r w2 → WentY W0 F (LaS g1 g2) (fun w' => ∃ k r, LaB g1 g2 g3 g4 ad cap l m k r w') (fun w' => BoxB g2 w' true) p kn (ranOf Rr) (.panicked (endOf p)) w2) := Lib.hid fun a' w2 k r e hd ht' hb => wy_need (ranOf_need e) hd ht' ⟨k, r, hb⟩
  have DONE : Hid (∀ w2 (k : Int) D F', Rr = .ok true D → MidV W0 w2 F (LaS g1 g2) p kn n D F' → LaB g1 g2 g3 g4 ad cap l m k true w2 → WentY W0 F (LaS g1 g2) (fun w' => ∃ k r, LaB g1 g2 g3 g4 ad cap l m k r w') (fun w' => BoxB g2 w' true) p kn (ranOf Rr) (.returned (.tuple #[])) w2) := Lib.hid fun w2 k D F' e h hb => wy_done h (ranOf_ok e) ⟨k, true, hb⟩ hb.h2
  -- the two boxes, as they are begun with
  obtain ⟨y0, y1, _⟩ := box_cells hB.h1
  obtain ⟨wa, ea⟩ : ∃ wa, W0.setCell ⟨g1, 0, none⟩ (.int .i64 0) = wa := ⟨_, rfl⟩
  have BA : LaB g1 g2 g3 g4 ad cap l m 0 r0 wa := by rw [← ea]; exact hB.set1 hd 0
  have MA : MidV W0 wa F (LaS g1 g2) p kn n [] F := by rw [← ea]; exact (MidV.begin hv (invD_nil n)).box (fun _ => .inl rfl) (nF _ (.inl rfl)) _ hB.h1
  obtain ⟨z0, z1, _⟩ := box_cells BA.h2
  obtain ⟨wb, eb⟩ : ∃ wb, wa.setCell ⟨g2, 0, none⟩ (.bool true) = wb := ⟨_, rfl⟩
  have BB : Hid (LaB g1 g2 g3 g4 ad cap l m 0 true wb) := Lib.hid (by rw [← eb]; exact BA.set2 hd true)
  have MB : Hid (MidV W0 wb F (LaS g1 g2) p kn n [] F) := Lib.hid (by rw [← eb]; exact MA.box (fun _ => .inr rfl) (nF _ (.inr (.inl rfl))) _ BA.h2)
  clear hv hk hB BA MA nF hlt hd hp1 hp2 ht hR H ho hm
  go_enter Try.func14, Try.ntmps14
  go_wp2_with fail
  clear y0 y1 z0 z1 ea eb
  go_loopw [6] (fun i wr => ∃ (j k : Nat) (r : Bool) (D1 : List KV) (F1 : Nat → Prop), i = .int .i64 (j : Int) ∧ j ≤ l.length ∧ k ≤ j ∧ MidV W0 wr F (LaS g1 g2) p kn n D1 F1 ∧ LaB g1 g2 g3 g4 ad cap l m (k : Int) r wr ∧ stPushesP m l 0 0 true kn [] = stPushesP m (l.drop j) j k r kn D1) (fun i _ => l.length - (intOf i).toNat)
  case atStart => exact ⟨0, 0, true, [], F, rfl, by omega, by omega, MB.out, BB.out, rfl⟩
  case round =>
    obtain ⟨j, k, r, D1, F1, rfl, hj, hkj, M1', B1', E1'⟩ := hrel
    have M1 := Lib.hid M1'
    have B1 := Lib.hid B1'
    have E1 := Lib.hid E1'
    clear M1' B1' E1' MB BB
    have c1 := (box_cells B1.out.h1).1
    have c2 := (box_cells B1.out.h2).1
    have c3 := (box_cells B1.out.h3).1
    have c4 := (box_cells B1.out.h4).1
    by_cases hjl : j < l.length
    · have d0 : decide (j < l.length) = true := by simp [hjl]
      have d1 : decide ((j : Int) < (l.length : Int)) = true := by simp; omega
      obtain ⟨s, o, rfl, hsl, hc⟩ := B1.out.row.resolve_left (by intro q; rw [q] at hjl; simp at hjl)
      have c5 := hc j hjl
      have hy : W64 (l.getD j 0) := by have : l.getD j 0 = l[j] := by simp [List.getD, hjl]
                                       rw [this]; exact HO.out _ (List.getElem_mem hjl)
      have hdr : l.drop j = l.getD j 0 :: l.drop (j + 1) := by rw [List.drop_eq_getElem_cons hjl]; simp [List.getD, hjl]
      rw [hdr] at E1
      generalize l.getD j 0 = y at c5 hy E1
      have HY := Lib.hid hy
      clear hc hdr hy
      go_wp2_with fail
      refine wp_region_more_tail 6 (by kernel_rfl) (by kernel_rfl) ?_
      simp only [List.take_succ_cons, List.take_zero, List.drop_succ_cons, List.drop_zero]
      iterate 6
        with_reducible refine wpQuiet_step (fun K hK => ?_)
        go_simp
        first
        | (refine hK _ ?_; clear hK K)
        | (apply Exists.intro
           refine ⟨fun W hW => ?_, hK _ ?_⟩
           first
           | (have c3' := hW.cell c3; have c4' := hW.cell c4; have c5' := hW.cell c5; go_simp; try rfl)
           clear hK K)
      refine wpQuiet_nil ?_
      intro w2 m2
      have M2 := Lib.hid (M1.out.more m2)
      have B2 := Lib.hid (B1.out.more m2)
      clear m2 c1 c2 c3 c4 c5 M1 B1
      go_wp2_with fail
      refine (st_Push HH.out F1 p kn D1 y HY.out w2 M2.out.view HK.out M2.out.inv).mono ?_
      intro e w3 he
      rcases M2.out.step (More.refl _) HK.out (good_stPush HH.out HY.out) he with ⟨a', hE, rfl, hd', ht', hk'⟩ | ⟨ok, D3, F3, hE, rfl, M3', hq3, hk', hf'⟩
      · exact ⟨rfl, NEED.out a' w3 _ _ (PN.out a' (E1.out.trans (bindP_need hE))) hd' ht' (B2.out.keepB (NF.out _ _ _ M2.out) hk')⟩
      have B3 := Lib.hid (B2.out.keepB (NF.out _ _ _ M2.out) hk')
      have E3 := Lib.hid (E1.out.trans (bindP_ok hE))
      have M3 := Lib.hid M3'
      clear he hE hk' hf' M3' M2 B2 hq3 E1
      obtain ⟨x0, x1, _⟩ := box_cells B3.out.h2
      have x4 := (box_cells B3.out.h4).1
      obtain ⟨rr, hrr⟩ : ∃ rr, (r && (ok == decide ((j : Int) < m))) = rr := ⟨_, rfl⟩
      rw [hrr] at E3
      obtain ⟨w4, e4⟩ : ∃ w4, w3.setCell ⟨g2, 0, none⟩ (.bool rr) = w4 := ⟨_, rfl⟩
      have B4 : Hid (LaB g1 g2 g3 g4 (some ⟨s, o, none⟩) cap l m (k : Int) rr w4) := Lib.hid (by rw [← e4]; exact B3.out.set2 DD.out rr)
      have M4 : Hid (MidV W0 w4 F (LaS g1 g2) p kn n D3 F3) := Lib.hid (by rw [← e4]; exact M3.out.box (fun _ => .inr rfl) (NF.out _ _ _ M3.out _ (.inr (.inl rfl))) _ B3.out.h2)
      obtain ⟨v0, v1, _⟩ := box_cells B4.out.h1
      obtain ⟨w5, e5⟩ : ∃ w5, w4.setCell ⟨g1, 0, none⟩ (.int .i64 ((k : Int) + 1)) = w5 := ⟨_, rfl⟩
      have B5 : Hid (LaB g1 g2 g3 g4 (some ⟨s, o, none⟩) cap l m (((k + 1 : Nat) : Int)) rr w5) := Lib.hid (by rw [← e5]; exact B4.out.set1 DD.out _)
      have M5 : Hid (MidV W0 w5 F (LaS g1 g2) p kn n D3 F3) := Lib.hid (by rw [← e5]; exact M4.out.box (fun _ => .inl rfl) (NF.out _ _ _ M4.out _ (.inl rfl)) _ B4.out.h1)
      have hsz : j < l.length := hjl
      clear M3 B3
      cases r with
      | false =>
        have hrr : rr = false := by rw [← hrr]; rfl
        subst hrr
        cases ok with
        | true =>
          go_wp2_with fail
          go_roundw
          case rel => exact ⟨j + 1, k + 1, _, D3, F3, by go_num, by omega, by omega, M5.out, B5.out, E3.out⟩
          case measure => first | (simp [intOf]; done) | (simp [intOf]; omega)
        | false =>
          go_wp2_with fail
          go_roundw
          case rel => exact ⟨j + 1, k, _, D3, F3, by go_num, by omega, by omega, M4.out, B4.out, E3.out⟩
          case measure => first | (simp [intOf]; done) | (simp [intOf]; omega)
      | true =>
        have hrr : (ok == decide ((j : Int) < m)) = rr := by rw [← hrr]; simp
        cases ok with
        | true =>
          go_wp2_with fail
          go_roundw
          case rel => exact ⟨j + 1, k + 1, _, D3, F3, by go_num, by omega, by omega, M5.out, B5.out, E3.out⟩
          case measure => first | (simp [intOf]; done) | (simp [intOf]; omega)
        | false =>
          go_wp2_with fail
          go_roundw
          case rel => exact ⟨j + 1, k, _, D3, F3, by go_num, by omega, by omega, M4.out, B4.out, E3.out⟩
          case measure => first | (simp [intOf]; done) | (simp [intOf]; omega)
    · have d0 : decide (j < l.length) = false := by simp; omega
      have hjl2 : ¬ j < l.length := hjl
      have d1 : decide ((j : Int) < (l.length : Int)) = false := by simp; omega
      have hE : stPushesP m l 0 0 true kn [] = .ok (k, r) D1 := by rw [E1.out, List.drop_eq_nil_of_le (by omega)]; rfl
      have hkr := H1.out _ _ hE
      simp only [Prod.mk.injEq] at hkr
      obtain ⟨rfl, rfl⟩ := hkr
      have LL' := LL.out D1
      have LN' := LN.out D1
      have LD' := LD.out D1
      have LL := Lib.hid (fun x D e => LL' x D hE e)
      have LN := Lib.hid (fun a e => LN' a hE e)
      have LD := Lib.hid (fun x D e => LD' x D hE e)
      clear LL' LN' LD' hE E1
      clear c1 c2 c4
      go_wp2_with fail
      clear c3
      refine wp_region_anyC (fun W => LaB g1 g2 g3 g4 ad cap l m (k : Int) true W) (by kernel_rfl) ?_
      have MR : Hid (MidV W0 (wr.drewN 1) F (LaS g1 g2) p kn n D1 F1 ∧ LaB g1 g2 g3 g4 ad cap l m (k : Int) true (wr.drewN 1)) := Lib.hid ⟨M1.out.more ((More.refl wr).drewN 1), B1.out.more ((More.refl wr).drewN 1)⟩
      have KC : Hid (∀ W D F', MidV W0 W F (LaS g1 g2) p kn n D F' ∧ LaB g1 g2 g3 g4 ad cap l m (k : Int) true W → LaB g1 g2 g3 g4 ad cap l m (k : Int) true W) := Lib.hid fun _ _ _ h => h.2
      change anyC _ _ _ _ _ _ _ _ (wr.drewN 1)
      generalize wr.drewN 1 = wq at MR ⊢
      generalize hA : Act.mk _ _ = A
      have HF : AG 92 A [(0, .pointer (some ⟨p, 0, none⟩)), (1, .pointer (some ⟨g1, 0, none⟩)), (2, .pointer (some ⟨g2, 0, none⟩)), (3, .pointer (some ⟨g3, 0, none⟩)), (4, .pointer (some ⟨g4, 0, none⟩))] := by
        rw [← hA]
        refine ⟨⟨Nat.le_of_ble_eq_true rfl, rfl⟩, ?_⟩
        intro z hz; simp only [List.mem_cons, List.not_mem_nil, or_false] at hz; rcases hz with rfl | rfl | rfl | rfl | rfl <;> rfl
      refine anyC_start (fun a W => ∃ (u37 u38 u39 u40 u42 u41 u43 u44 u45 u46 u47 u48 u49 u50 : Value) (D9 : List KV) (F9 : Nat → Prop), a = (Act.put (Act.put (Act.put (Act.put (Act.put (Act.put (Act.put (Act.put (Act.put (Act.put (Act.put (Act.put (Act.put (Act.put (Act.put A (some 37) u37) (some 38) u38) (some 39) u39) (some 40) u40) (some 42) u42) (some 41) u41) (some 43) u43) (some 44) u44) (some 45) u45) (some 46) u46) (some 47) u47) (some 48) u48) (some 49) u49) (some 50) u50) none undef) ∧ (MidV W0 W F (LaS g1 g2) p kn n D9 F9 ∧ LaB g1 g2 g3 g4 ad cap l m (k : Int) true W) ∧ bindP (stPopsP m l k true) (fun r => bindP (stPopP 1 m) fun p => pureP (r && !p.2)) kn D9 = Rr) (fun W => WentY W0 F (LaS g1 g2) (fun w' => ∃ k r, LaB g1 g2 g3 g4 ad cap l m k r w') (fun w' => BoxB g2 w' true) p kn (ranOf Rr) (.panicked (endOf p)) W) (endOf p) (fun a W hd h => ⟨hd, h⟩) (fun _ _ _ _ _ h => h) ?_ ?_
      · skip
        rintro a W ⟨u37, u38, u39, u40, u42, u41, u43, u44, u45, u46, u47, u48, u49, u50, D9, F9, rfl, ⟨M9', B9'⟩, R9'⟩
        have M9 := Lib.hid M9'
        have B9 := Lib.hid B9'
        have R9 := Lib.hid R9'
        clear M9' B9' R9'
        rw [← hA]
        clear HF hA MR KC
        have c1 := (box_cells B9.out.h1).1
        go_simp
        go_wp2_with fail
        go_loopw [8] (fun i wr => ∃ (q : Nat) (r : Bool) (D : List KV) (F' : Nat → Prop), i = .int .i64 ((q : Int) - 1) ∧ q ≤ k ∧ MidV W0 wr F (LaS g1 g2) p kn n D F' ∧ LaB g1 g2 g3 g4 ad cap l m (k : Int) r wr ∧ bindP (stPopsP m l q r) (fun r => bindP (stPopP 1 m) fun p => pureP (r && !p.2)) kn D = Rr) (fun i _ => (intOf i + 1).toNat)
        case atStart => exact ⟨k, true, D9, F9, rfl, Nat.le_refl _, M9.out, B9.out, R9.out⟩
        case round =>
          obtain ⟨q, r, D1, F1, rfl, hq, M1', B1', E1'⟩ := hrel
          clear c1 M9 B9 R9
          have M1 := Lib.hid M1'
          have B1 := Lib.hid B1'
          have E1 := Lib.hid E1'
          clear M1' B1' E1'
          have c2 := (box_cells B1.out.h2).1
          have c3 := (box_cells B1.out.h3).1
          have c4 := (box_cells B1.out.h4).1
          cases q with
          | zero =>
            have d0 : decide ((0 : Int) ≤ -1) = false := by decide
            have E1z := Lib.hid (show bindP (stPopP 1 m) (fun p => pureP (r && !p.2)) kn D1 = Rr from E1.out)
            clear E1
            go_wp2_with fail
            refine (st_Pop HH.out F1 p kn D1 wr M1.out.view HK.out M1.out.inv).mono ?_
            intro e w3 he
            rcases M1.out.step (More.refl _) HK.out (good_stPop HH.out) he with ⟨a', hE, rfl, hd', ht', hk'⟩ | ⟨x3, D3, F3, hE, rfl, M3', hq3, hk', hf'⟩
            · exact ⟨rfl, NEED.out a' w3 _ _ (E1z.out.symm.trans (bindP_need hE)) hd' ht' (B1.out.keepB (NF.out _ _ _ M1.out) hk')⟩
            obtain ⟨x3, ok⟩ := x3
            have B3 := Lib.hid (B1.out.keepB (NF.out _ _ _ M1.out) hk')
            have E3 := Lib.hid (E1z.out.symm.trans (bindP_ok hE))
            have hT := HT.out _ _ E3.out
            have M3 := Lib.hid M3'
            clear he hE hk' hf' M3' M1 B1 hq3 E1z c2 c3 c4
            have hr : r = true := by cases r; simp at hT; rfl
            have hok : ok = false := by cases ok; rfl; simp at hT
            subst hr
            subst hok
            obtain ⟨x0, x1, _⟩ := box_cells B3.out.h2
            have n0 := set_noop B3.out.h2
            have FIN := Lib.hid (DONE.out w3 (k : Int) D3 F3 E3.out M3.out B3.out)
            clear hT M3 B3 E3
            go_wp2_with fail
            go_end0
            exact FIN.out
          | succ q =>
            have ei : (((q + 1 : Nat) : Int) - 1) = (q : Int) := by omega
            rw [ei]
            have hql : q < l.length := by omega
            have E1z := Lib.hid (show bindP (stPopP 1 m) (fun p => bindP (stPopsP m l q (r && p.2 && (p.1 == l.getD q 0))) (fun r => bindP (stPopP 1 m) fun p => pureP (r && !p.2))) kn D1 = Rr from by rw [← bindP_assoc]; exact E1.out)
            clear E1
            have d0 : decide ((0 : Int) ≤ (q : Int)) = true := by simp
            have d1 : decide (q < l.length) = true := by simp [hql]
            have d2 : decide ((q : Int) < (l.length : Int)) = true := by simp; omega
            go_wp2_with fail
            refine (st_Pop HH.out F1 p kn D1 wr M1.out.view HK.out M1.out.inv).mono ?_
            intro e w3 he
            rcases M1.out.step (More.refl _) HK.out (good_stPop HH.out) he with ⟨a', hE, rfl, hd', ht', hk'⟩ | ⟨x3, D3, F3, hE, rfl, M3', hq3, hk', hf'⟩
            · exact ⟨rfl, NEED.out a' w3 _ _ (E1z.out.symm.trans (bindP_need hE)) hd' ht' (B1.out.keepB (NF.out _ _ _ M1.out) hk')⟩
            obtain ⟨x3, ok⟩ := x3
            have B3 := Lib.hid (B1.out.keepB (NF.out _ _ _ M1.out) hk')
            have E3 := Lib.hid (show bindP (stPopsP m l q (r && ok && (x3 == l.getD q 0))) (fun r => bindP (stPopP 1 m) fun p => pureP (r && !p.2)) kn D3 = Rr from (bindP_ok hE).symm.trans E1z.out)
            have M3 := Lib.hid M3'
            clear he hE hk' hf' M3' M1 B1 hq3 E1z c2 c3 c4
            obtain ⟨s, o, rfl, hsl, hc⟩ := B3.out.row.resolve_left (by intro z; rw [z] at hql; simp at hql)
            have c5 := hc q hql
            obtain ⟨x0, x1, _⟩ := box_cells B3.out.h2
            have c3 := (box_cells B3.out.h3).1
            generalize l.getD q 0 = y at c5 E3
            obtain ⟨rr, hrr⟩ : ∃ rr, (r && ok && (x3 == y)) = rr := ⟨_, rfl⟩
            rw [hrr] at E3
            obtain ⟨w4, e4⟩ : ∃ w4, w3.setCell ⟨g2, 0, none⟩ (.bool rr) = w4 := ⟨_, rfl⟩
            have B4 : Hid (LaB g1 g2 g3 g4 (some ⟨s, o, none⟩) cap l m (k : Int) rr w4) := Lib.hid (by rw [← e4]; exact B3.out.set2 DD.out rr)
            have M4 : Hid (MidV W0 w4 F (LaS g1 g2) p kn n D3 F3) := Lib.hid (by rw [← e4]; exact M3.out.box (fun _ => .inr rfl) (NF.out _ _ _ M3.out _ (.inr (.inl rfl))) _ B3.out.h2)
            have hq' : q ≤ k := by omega
            clear M3 B3 hc ei
            cases r with
            | false =>
              have hrr : rr = false := by rw [← hrr]; simp
              subst hrr
              go_wp2_with fail
              go_roundw
              case rel => exact ⟨q, _, D3, F3, by go_num, hq', M4.out, B4.out, E3.out⟩
              case measure => first | (simp [intOf]; done) | (simp [intOf]; omega)
            | true =>
              cases ok with
              | false =>
                have hrr : rr = false := by rw [← hrr]; simp
                subst hrr
                go_wp2_with fail
                go_roundw
                case rel => exact ⟨q, _, D3, F3, by go_num, hq', M4.out, B4.out, E3.out⟩
                case measure => first | (simp [intOf]; done) | (simp [intOf]; omega)
              | true =>
                have hrr : (x3 == y) = rr := by rw [← hrr]; simp
                go_wp2_with fail
                go_roundw
                case rel => exact ⟨q, _, D3, F3, by go_num, hq', M4.out, B4.out, E3.out⟩
                case measure => first | (simp [intOf]; done) | (simp [intOf]; omega)
      intro QQ FINE FIND FINQ
      clear hA
      refine anyC_oneK (i := 0) (some 37) (by kernel_rfl) rfl (wanted_none rfl) rfl (fun K hK => ?_)
      refine wp_load_bool rfl g2 (HF.get 2 rfl) _ (box_cells (KC.out _ _ _ MR.out).h2).1 ?_
      refine hK _ _ (KC.out _ _ _ MR.out) ?_
      clear hK K
      replace HF := HF.put 37 (.bool true) (by decide) rfl
      generalize hB1_37 : Act.put _ _ _ = A at HF ⊢
      refine anyC_takeD (i := 1) (v := .bool true) (some 38) rfl rfl (by kernel_rfl) (by kernel_rfl) (by kernel_rfl) (fun c a w => FINQ c a _ _ w) (KC.out _ _ _ MR.out) (by exact yieldsC_moveG (wanted_none rfl) _ rfl (HF.get 0 rfl)) ?_
      replace HF := HF.put 38 (.bool true) (by decide) rfl
      generalize hB2_38 : Act.put _ _ _ = A at HF ⊢
      refine anyC_takeD (i := 2) (v := .pointer (some ⟨p, 0, none⟩)) (some 39) rfl rfl (by kernel_rfl) (by kernel_rfl) (by kernel_rfl) (fun c a w => FINQ c a _ _ w) (KC.out _ _ _ MR.out) (by exact yieldsC_moveG (wanted_g 1 true 38 rfl rfl (HF.at (by decide) 0 rfl)) _ rfl (HF.get 2 rfl)) ?_
      replace HF := HF.put 39 (.pointer (some ⟨p, 0, none⟩)) (by decide) rfl
      generalize hB3_39 : Act.put _ _ _ = A at HF ⊢
      refine anyC_takeD (i := 3) (v := .int .i64 m) (some 40) rfl rfl (by kernel_rfl) (by kernel_rfl) (by kernel_rfl) (fun c a w => FINQ c a _ _ w) (KC.out _ _ _ MR.out) (by exact yieldsC_int (C := (fun W => LaB g1 g2 g3 g4 ad cap l m (k : Int) true W)) (wanted_g 1 true 38 rfl rfl (HF.at (by decide) 1 rfl)) _ rfl g4 (HF.get 7 rfl) _ (fun W hW => hW.h4)) ?_
      replace HF := HF.put 40 (.int .i64 m) (by decide) rfl
      generalize hB4_40 : Act.put _ _ _ = A at HF ⊢
      refine anyC_takeD (i := 5) (v := .int .i64 (k : Int)) (some 42) rfl rfl (by kernel_rfl) (by kernel_rfl) (by kernel_rfl) (fun c a w => FINQ c a _ _ w) (KC.out _ _ _ MR.out) (by exact yieldsC_int (C := (fun W => LaB g1 g2 g3 g4 ad cap l m (k : Int) true W)) (wanted_g 1 true 38 rfl rfl (HF.at (by decide) 2 rfl)) _ rfl g1 (HF.get 5 rfl) _ (fun W hW => hW.h1)) ?_
      replace HF := HF.put 42 (.int .i64 (k : Int)) (by decide) rfl
      generalize hB5_42 : Act.put _ _ _ = A at HF ⊢
      refine anyC_oneK (i := 4) (some 41) (by kernel_rfl) rfl (wanted_g 1 true 38 rfl rfl (HF.at (by decide) 3 rfl)) rfl (fun K hK => ?_)
      refine wp_call3 (v0 := .pointer (some ⟨p, 0, none⟩)) (v1 := (.int .i64 1)) (v2 := .int .i64 m) rfl (HF.get 2 rfl) rfl (HF.get 1 rfl) (enters_of Try.func11 (by kernel_rfl) rfl) ?_
      refine (st_Len HH.out F1 p kn D1 wq MR.out.1.view HK.out MR.out.1.inv).mono ?_
      intro e w4 he
      rcases MR.out.1.step (More.refl _) HK.out (good_stKept HH.out) he with ⟨a', hE, rfl, hd', ht', hk'⟩ | ⟨x4, D4, F4, hE, rfl, M4', hq4, hk', hf'⟩
      · exact FIND _ _ HF.1.2 (NEED.out a' w4 _ _ (LN.out a' hE) hd' ht' (MR.out.2.keepB (NF.out _ _ _ MR.out.1) hk'))
      have hx4 := H2.out x4 D4 (LL.out x4 D4 hE)
      subst hx4
      have M4 : Hid (MidV W0 w4 F (LaS g1 g2) p kn n D4 F4 ∧ LaB g1 g2 g3 g4 ad cap l m (k : Int) true w4) := Lib.hid ⟨M4', MR.out.2.keepB (NF.out _ _ _ MR.out.1) hk'⟩
      have R4 := Lib.hid (LD.out _ D4 hE)
      clear he hE hk' hf' hq4
      refine hK _ _ (KC.out _ _ _ M4.out) ?_
      clear hK K
      replace HF := HF.put 41 (.int .i64 (k : Int)) (by decide) rfl
      generalize hB6_41 : Act.put _ _ _ = A at HF ⊢
      refine anyC_takeD (i := 6) (v := .bool true) (some 43) rfl rfl (by kernel_rfl) (by kernel_rfl) (by kernel_rfl) (fun c a w => FINQ c a _ _ w) (KC.out _ _ _ M4.out) (by exact yieldsC_eqI (wanted_g 1 true 38 rfl rfl (HF.at (by decide) 4 rfl)) rfl (HF.get 0 rfl) (HF.get 1 rfl) true (by simp)) ?_
      replace HF := HF.put 43 (.bool true) (by decide) rfl
      generalize hB7_43 : Act.put _ _ _ = A at HF ⊢
      refine anyC_takeD (i := 7) (v := .bool true) (some 44) rfl rfl (by kernel_rfl) (by kernel_rfl) (by kernel_rfl) (fun c a w => FINQ c a _ _ w) (KC.out _ _ _ M4.out) (by exact yieldsC_pickT (wanted_none rfl) rfl (HF.get 5 rfl) (HF.get 0 rfl)) ?_
      replace HF := HF.put 44 (.bool true) (by decide) rfl
      generalize hB8_44 : Act.put _ _ _ = A at HF ⊢
      refine anyC_takeD (i := 8) (v := .bool true) (some 45) rfl rfl (by kernel_rfl) (by kernel_rfl) (by kernel_rfl) (fun c a w => FINQ c a _ _ w) (KC.out _ _ _ M4.out) (by exact yieldsC_moveG (wanted_none rfl) _ rfl (HF.get 0 rfl)) ?_
      replace HF := HF.put 45 (.bool true) (by decide) rfl
      generalize hB9_45 : Act.put _ _ _ = A at HF ⊢
      refine anyC_takeD (i := 9) (v := .int .i64 (k : Int)) (some 46) rfl rfl (by kernel_rfl) (by kernel_rfl) (by kernel_rfl) (fun c a w => FINQ c a _ _ w) (KC.out _ _ _ M4.out) (by exact yieldsC_int (C := (fun W => LaB g1 g2 g3 g4 ad cap l m (k : Int) true W)) (wanted_g 8 true 45 rfl rfl (HF.at (by decide) 0 rfl)) _ rfl g1 (HF.get 10 rfl) _ (fun W hW => hW.h1)) ?_
      replace HF := HF.put 46 (.int .i64 (k : Int)) (by decide) rfl
      generalize hB10_46 : Act.put _ _ _ = A at HF ⊢
      refine anyC_takeD (i := 10) (v := .slice ad l.length cap) (some 47) rfl rfl (by kernel_rfl) (by kernel_rfl) (by kernel_rfl) (fun c a w => FINQ c a _ _ w) (KC.out _ _ _ M4.out) (by exact yieldsC_cell (C := (fun W => LaB g1 g2 g3 g4 ad cap l m (k : Int) true W)) (wanted_g 8 true 45 rfl rfl (HF.at (by decide) 1 rfl)) 23 _ rfl g3 0 (HF.get 13 rfl) (.slice ad l.length cap) _ Try.underlying23 rfl (fun W hW => (box_cells hW.h3).1)) ?_
      replace HF := HF.put 47 (.slice ad l.length cap) (by decide) rfl
      generalize hB11_47 : Act.put _ _ _ = A at HF ⊢
      refine anyC_takeD (i := 11) (v := .int .i64 (l.length : Int)) (some 48) rfl rfl (by kernel_rfl) (by kernel_rfl) (by kernel_rfl) (fun c a w => FINQ c a _ _ w) (KC.out _ _ _ M4.out) (by exact (Or.inl ⟨(wanted_g 8 true 45 rfl rfl (HF.at (by decide) 2 rfl)), fun W hW => by have h5 := (HF.getD 0 rfl); go_simp⟩)) ?_
      replace HF := HF.put 48 (.int .i64 (l.length : Int)) (by decide) rfl
      generalize hB12_48 : Act.put _ _ _ = A at HF ⊢
      refine anyC_takeD (i := 12) (v := .bool true) (some 49) rfl rfl (by kernel_rfl) (by kernel_rfl) (by kernel_rfl) (fun c a w => FINQ c a _ _ w) (KC.out _ _ _ M4.out) (by exact yieldsC_leqI (wanted_g 8 true 45 rfl rfl (HF.at (by decide) 3 rfl)) rfl (HF.get 2 rfl) (HF.get 0 rfl) true (by simp; omega)) ?_
      replace HF := HF.put 49 (.bool true) (by decide) rfl
      generalize hB13_49 : Act.put _ _ _ = A at HF ⊢
      refine anyC_takeD (i := 13) (v := .bool true) (some 50) rfl rfl (by kernel_rfl) (by kernel_rfl) (by kernel_rfl) (fun c a w => FINQ c a _ _ w) (KC.out _ _ _ M4.out) (by exact yieldsC_pickT (wanted_none rfl) rfl (HF.get 4 rfl) (HF.get 0 rfl)) ?_
      replace HF := HF.put 50 (.bool true) (by decide) rfl
      generalize hB14_50 : Act.put _ _ _ = A at HF ⊢
      refine anyC_last (i := 14) (by kernel_rfl) (by kernel_rfl) rfl (wanted_none rfl) (fun K hK => ?_)
      refine wp_store_bool rfl g2 (HF.get 16 rfl) true (HF.get 0 rfl) _ (M4.out.2.h2) ?_
      rw [set_noop M4.out.2.h2]
      refine hK _ _ M4.out.2 (FINE _ _ ⟨(.bool true), (.bool true), (.pointer (some ⟨p, 0, none⟩)), (.int .i64 m), (.int .i64 (k : Int)), (.int .i64 (k : Int)), (.bool true), (.bool true), (.bool true), (.int .i64 (k : Int)), (.slice ad l.length cap), (.int .i64 (l.length : Int)), (.bool true), (.bool true), _, _, by rw [← hB14_50, ← hB13_49, ← hB12_48, ← hB11_47, ← hB10_46, ← hB9_45, ← hB8_44, ← hB7_43, ← hB6_41, ← hB5_42, ← hB4_40, ← hB3_39, ← hB2_38, ← hB1_37]; rfl, M4.out, R4.out⟩)
end Go.Proofs.Ytflihdcliknggaa
