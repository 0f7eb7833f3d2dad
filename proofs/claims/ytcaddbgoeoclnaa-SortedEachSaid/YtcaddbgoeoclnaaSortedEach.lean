/-
  Each, asked with the function that SortedEach hands it; and the walk over SortedEach.
-/
import Derived.Test.YtcaddbgoeoclnaaSortedNil
import Derived.Test.YtcaddbgoeoclnaaSortedFill
import Derived.Test.YtcaddbgoeoclnaaSortedRef
import Derived.StillTailTactics
namespace Go.Proofs.Ytcaddbgoeoclnaa
open Go.RowKit Go.Sort
set_option linter.unusedVariables false
set_option linter.unusedSimpArgs false

/-- The boxes of what the function has captured: the map, how many it was told, whether all was right, how many it asks for. -/
structure Bx (W : World) (p bm bt br bo t : Nat) (most : Int) : Prop where
  m : W.heap[bm]? = some (.cells #[.pointer (some ⟨p, 0, none⟩)] 25 (0, 0))
  t : W.heap[bt]? = some (.cells #[.int .i64 t] 3 (0, 0))
  r : W.heap[br]? = some (.cells #[.bool true] 4 (0, 0))
  o : W.heap[bo]? = some (.cells #[.int .i64 most] 3 (0, 0))
structure Far (bm bt br bo : Nat) : Prop where
  mt : bm ≠ bt
  mr : bm ≠ br
  mo : bm ≠ bo
  tr : bt ≠ br
  to : bt ≠ bo
  ro : br ≠ bo
theorem Bx.keep {W W' : World} {S : Nat → Prop} {p bm bt br bo t : Nat} {most : Int} (h : Bx W p bm bt br bo t most) (k : Turned S W W') (h1 : ¬ S bm) (h2 : ¬ S bt) (h3 : ¬ S br) (h4 : ¬ S bo) : Bx W' p bm bt br bo t most :=
  ⟨by rw [Turned.block k bm (lt_of_heap h.m) h1]; exact h.m, by rw [Turned.block k bt (lt_of_heap h.t) h2]; exact h.t, by rw [Turned.block k br (lt_of_heap h.r) h3]; exact h.r, by rw [Turned.block k bo (lt_of_heap h.o) h4]; exact h.o⟩
theorem Bx.more {W W' : World} {p bm bt br bo t : Nat} {most : Int} (h : Bx W p bm bt br bo t most) (k : More W W') : Bx W' p bm bt br bo t most := h.keep k (fun q => q) (fun q => q) (fun q => q) (fun q => q)
theorem box_set {w : World} {b : Nat} {v : Value} {T : TypeId} (x : Value) (h : w.heap[b]? = some (.cells #[v] T (0, 0))) : (w.setCell ⟨b, 0, none⟩ x).heap[b]? = some (.cells #[x] T (0, 0)) := by
  have := heap_setCell (o := 0) x h
  simpa using this
theorem heap_other {w : World} {b b' o : Nat} {x : Value} {ob : Obj} (hne : b' ≠ b) (h : w.heap[b']? = some ob) : (w.setCell ⟨b, o, none⟩ x).heap[b']? = some ob := by
  rw [Turned.block (turned_setCell (S := fun k => k = b) (Turned.refl _ w) (fun _ => rfl) x) b' (lt_of_heap h) hne]; exact h
/-- One more was told. -/
theorem Bx.told {W : World} {p bm bt br bo t : Nat} {most : Int} (h : Bx W p bm bt br bo t most) (f : Far bm bt br bo) (n : Nat) :
    Bx (((W.drewN n).setCell ⟨br, 0, none⟩ (.bool true)).setCell ⟨bt, 0, none⟩ (.int .i64 ((t : Int) + 1))) p bm bt br bo (t + 1) most ∧ Turned (fun x => x = bt ∨ x = br) W (((W.drewN n).setCell ⟨br, 0, none⟩ (.bool true)).setCell ⟨bt, 0, none⟩ (.int .i64 ((t : Int) + 1))) := by
  have h' := h.more (more_drewN W n)
  refine ⟨⟨heap_other f.mt (heap_other f.mr h'.m), ?_, heap_other (Ne.symm f.tr) (box_set _ h'.r), heap_other (Ne.symm f.to) (heap_other (Ne.symm f.ro) h'.o)⟩, ?_⟩
  · have := box_set (.int .i64 ((t : Int) + 1)) (heap_other (o := 0) (x := .bool true) f.tr h'.t)
    exact this
  · exact turned_setCell (S := fun x => x = bt ∨ x = br) (turned_setCell (S := fun x => x = bt ∨ x = br) ((Turned.refl _ W).drewN n) (fun _ => .inr rfl) _) (fun _ => .inl rfl) _

set_option maxHeartbeats 2000000 in
theorem yield_ok (F : Nat → Prop) (p : Nat) (D : List KV) (bm bt br bo t : Nat) (most : Int) (x : KV) (W : World) (h : MapAt W F p D) (hx : D[t]? = some x) (hb : Bx W p bm bt br bo t most) (f : Far bm bt br bo) :
    Calls Try.prog 23 #[.int .i64 x.1, .string x.2, .pointer (some ⟨bm, 0, none⟩), .pointer (some ⟨bt, 0, none⟩), .pointer (some ⟨br, 0, none⟩), .pointer (some ⟨bo, 0, none⟩)] W
      fun e w' => e = .returned (.bool (decide ((t : Int) + 1 < most))) ∧ ∃ n, w' = ((W.drewN n).setCell ⟨br, 0, none⟩ (.bool true)).setCell ⟨bt, 0, none⟩ (.int .i64 ((t : Int) + 1)) := by
  have C := Lib.hid (at_ok F p D t x W h hx)
  have ht : t < D.length := (List.getElem?_eq_some_iff.1 hx).1
  have hs := h.small
  obtain ⟨cm, _, _⟩ := cell_one hb.m
  obtain ⟨ct, ft, lt⟩ := cell_one hb.t
  obtain ⟨cr, fr, lr⟩ := cell_one hb.r
  obtain ⟨co, _, _⟩ := cell_one hb.o
  have n1 := f.mt; have n2 := f.mr; have n3 := f.tr; have n4 := f.to; have n5 := f.ro
  obtain ⟨xk, xv⟩ := x
  simp only at C ⊢
  have b1 : (xk == xk) = true := by simp
  have b2 : (xv.toList == xv.toList) = true := by simp
  clear h hx hb f
  go_enter Try.func23, Try.ntmps23
  go_wp2_with fail
  refine C.out.mono ?_
  rintro e w1 ⟨rfl, n, rfl⟩
  go_wp2_with fail
  go_ret
  exact ⟨rfl, n, rfl⟩

/-- What Each leaves: the function was told as many as it asked for. -/
def Told (F : Nat → Prop) (p : Nat) (D : List KV) (bm bt br bo : Nat) (most : Int) (W : World) (e : Ending) (w' : World) : Prop :=
  e = .returned (.tuple #[]) ∧ ∃ T : Nat, Bx w' p bm bt br bo T most ∧ MapAt w' F p D ∧ Turned (fun x => x = bt ∨ x = br) W w' ∧ T ≤ D.length ∧ ((T : Int) = min (D.length : Int) (max most 1))

set_option maxHeartbeats 4000000 in
theorem each_ok (F : Nat → Prop) (p : Nat) (D : List KV) (bm bt br bo : Nat) (most : Int) (W : World) (h : MapAt W F p D) (hb : Bx W p bm bt br bo 0 most) (f : Far bm bt br bo) (ht : ¬ F bt) (hr : ¬ F br) :
    Calls Try.prog 22 #[.pointer (some ⟨p, 0, none⟩), .func (.func 23) #[] #[.pointer (some ⟨bm, 0, none⟩), .pointer (some ⟨bt, 0, none⟩), .pointer (some ⟨br, 0, none⟩), .pointer (some ⟨bo, 0, none⟩)]] W
      (Told F p D bm bt br bo most W) := by
  have hq : ∀ w, Sem.run Try.prog (binOp BinOp.eql 33 (Value.func (.func 23) #[] #[.pointer (some ⟨bm, 0, none⟩), .pointer (some ⟨bt, 0, none⟩), .pointer (some ⟨br, 0, none⟩), .pointer (some ⟨bo, 0, none⟩)]) Value.nilFunc) w = .ok (.bool false) w := fun w => run_eql_func w _ Try.underlying33 _ _ _
  have HF := Lib.hid f
  have hlt := lt_of_heap hb.t
  have hlr := lt_of_heap hb.r
  have hsm := h.small
  have CP := Lib.hid (copy_ok F p D W h)
  have HM := Lib.hid h
  have HB := Lib.hid hb
  have HT := Lib.hid ht
  have HR := Lib.hid hr
  clear h hb f ht hr
  go_enter Try.func22, Try.ntmps22
  go_wp2_with fail
  refine CP.out.mono ?_
  rintro e w1 ⟨Fc, c, rfl, mc, M1, nc⟩
  have MC := Lib.hid mc
  have K1 := Lib.hid M1
  have NC : Hid (∀ x, Fc x → ¬ (x = bt ∨ x = br)) := Lib.hid (fun x hx q => by have := nc x hx; rcases q with q | q <;> omega)
  clear mc M1 nc
  go_wp2_with fail
  refine (len_ok Fc c D w1 MC.out).mono ?_
  rintro e w2 ⟨rfl, h2⟩
  obtain rfl : w2 = w1 := h2
  go_wp2_with fail
  go_loopw [15] (fun i wr => ∃ t : Nat, t ≤ D.length ∧ i = .int .i64 (t : Nat) ∧ Bx wr p bm bt br bo t most ∧ MapAt wr Fc c D ∧ MapAt wr F p D ∧ Turned (fun x => x = bt ∨ x = br) W wr ∧ (t = 0 ∨ (t : Int) < most)) (fun i _ => D.length - (intOf i).toNat)
  case atStart => exact ⟨0, Nat.zero_le _, rfl, HB.out.more K1.out, MC.out, HM.out.more K1.out, Turned.mono K1.out (fun _ _ q => q.elim), .inl rfl⟩
  case round =>
    obtain ⟨t, ht, rfl, hb, hc, hm, hT, hmost⟩ := hrel
    have B3 := Lib.hid hb; have C3 := Lib.hid hc; have M3 := Lib.hid hm; have T3 := Lib.hid hT; have MOST := Lib.hid hmost
    clear hb hc hm hT hmost
    by_cases hlt3 : t < D.length
    · obtain ⟨x, hx⟩ : ∃ x, D[t]? = some x := ⟨_, List.getElem?_eq_getElem hlt3⟩
      have HX := Lib.hid hx
      clear hx
      obtain ⟨xk, xv⟩ := x
      go_wp2_with fail
      refine (at_ok Fc c D t (xk, xv) wr C3.out HX.out).mono ?_
      rintro e w4 ⟨rfl, n4, rfl⟩
      have B4 := Lib.hid (B3.out.more (more_drewN wr n4)); have C4 := Lib.hid (C3.out.more (more_drewN wr n4)); have M4 := Lib.hid (M3.out.more (more_drewN wr n4)); have T4 : Hid (Turned (fun x => x = bt ∨ x = br) W (wr.drewN n4)) := Lib.hid (T3.out.drewN n4)
      clear B3 C3 M3 T3
      generalize wr.drewN n4 = w4 at B4 C4 M4 T4 ⊢
      simp only
      go_wp2_with fail
      refine (yield_ok F p D bm bt br bo t most (xk, xv) w4 M4.out HX.out B4.out HF.out).mono ?_
      rintro e w5 ⟨rfl, n5, rfl⟩
      obtain ⟨hB5, hT5⟩ := B4.out.told HF.out n5
      have B5 := Lib.hid hB5
      have C5 := Lib.hid (C4.out.keep hT5 NC.out)
      have M5 := Lib.hid (M4.out.keep hT5 (fun x hx q => by rcases q with q | q <;> subst q; exact HT.out hx; exact HR.out hx))
      have T5 := Lib.hid (T4.out.trans hT5)
      clear hB5 hT5 B4 C4 M4 T4
      generalize ((w4.drewN n5).setCell ⟨br, 0, none⟩ (.bool true)).setCell ⟨bt, 0, none⟩ (.int .i64 ((t : Int) + 1)) = w5 at B5 C5 M5 T5 ⊢
      cases d : decide ((t : Int) + 1 < most) with
      | true =>
        go_wp2_with fail
        go_roundw
        case rel => exact ⟨t + 1, by omega, by go_num, B5.out, C5.out, M5.out, T5.out, .inr (by simp at d; omega)⟩
        case measure => simp [intOf]; omega
      | false =>
        have FIN : Hid (Told F p D bm bt br bo most W (.returned (.tuple #[])) w5) := Lib.hid ⟨rfl, t + 1, B5.out, M5.out, T5.out, by omega, by have := MOST.out; simp at d; omega⟩
        go_wp2_with fail
        go_end0
        exact FIN.out
    · obtain rfl : t = D.length := by omega
      have FIN : Hid (Told F p D bm bt br bo most W (.returned (.tuple #[])) wr) := Lib.hid ⟨rfl, D.length, B3.out, M3.out, T3.out, Nat.le_refl _, by have := MOST.out; omega⟩
      go_wp2_with fail
      go_end0
      exact FIN.out

/-- The map while it is filled, its box, and the box of how many are asked for. -/
structure Fill (w wr : World) (F : Nat → Prop) (p bm bo : Nat) (most : Int) (D : List KV) : Prop where
  a : MapAt wr F p D
  more : More w wr
  new : ∀ x, F x → w.heap.size ≤ x
  m : wr.heap[bm]? = some (.cells #[.pointer (some ⟨p, 0, none⟩)] 25 (0, 0))
  o : wr.heap[bo]? = some (.cells #[.int .i64 most] 3 (0, 0))
  fm : ¬ F bm
  fo : ¬ F bo
theorem Fill.step {w wr w' : World} {F : Nat → Prop} {p bm bo : Nat} {most : Int} {D : List KV} (h : Fill w wr F p bm bo most D) (m : More wr w') : Fill w w' F p bm bo most D :=
  ⟨h.a.more m, h.more.trans m, h.new, m.block h.m, m.block h.o, h.fm, h.fo⟩
theorem Fill.did {w wr w' : World} {F F' : Nat → Prop} {p bm bo : Nat} {most : Int} {D D' : List KV} (h : Fill w wr F p bm bo most D) (m : MapAt w' F' p D') (t : Turned F wr w') (n : ∀ x, F' x → F x ∨ wr.heap.size ≤ x) : Fill w w' F' p bm bo most D' :=
  ⟨m, more_own h.more t h.new, own_on h.more.size h.new n, by rw [Turned.block t bm (lt_of_heap h.m) h.fm]; exact h.m, by rw [Turned.block t bo (lt_of_heap h.o) h.fo]; exact h.o,
   fun q => by
     have := lt_of_heap h.m
     rcases n bm q with q | q
     · exact h.fm q
     · omega, fun q => by
     have := lt_of_heap h.o
     rcases n bo q with q | q
     · exact h.fo q
     · omega⟩

set_option maxRecDepth 100000 in
set_option maxHeartbeats 4000000 in
theorem each_walk (a : Option Addr) (len cap : Nat) (f : Nat → Act3) (most : Int) (w : World) (h : IsActs w a len f) (hm : len ≤ 9223372036854775807) :
    Calls Try.prog 4 #[.slice a len cap, .int .i64 most] w (Gives w (.bool true)) := by
  have M0 : More w (w.alloc (.cells #[.int .i64 most] 3)) := (More.refl w).alloc _
  have h0 : IsActs (w.alloc (.cells #[.int .i64 most] 3)) a len f := by
    rcases h with q | ⟨s, o, e, hs, hc⟩
    · exact .inl q
    · exact .inr ⟨s, o, e, Nat.lt_of_lt_of_le hs M0.size, fun i hi => by
        obtain ⟨c0, c1, c2, c3⟩ := hc i hi
        exact ⟨M0.cell c0, M0.cell c1, M0.cell c2, c3⟩⟩
  have hbo : (w.alloc (.cells #[.int .i64 most] 3)).heap[w.heap.size]? = some (.cells #[.int .i64 most] 3 (0, 0)) := heap_new w _
  have HAW := Lib.hid h
  have HA := Lib.hid h0
  have HBO := Lib.hid hbo
  have HM0 := Lib.hid M0
  clear h h0 hbo M0
  go_enter Try.func4, Try.ntmps4
  go_wp2_with fail
  have hbol : w.heap.size < (w.alloc (.cells #[.int .i64 most] 3)).heap.size := by simp
  generalize w.alloc (.cells #[.int .i64 most] 3) = W at HA HBO HM0 hbol ⊢
  have hwb : w.heap.size ≤ w.heap.size := Nat.le_refl _
  generalize hbz : w.heap.size = bo at HBO hbol hwb ⊢
  have HBZ := Lib.hid hbz
  clear hbz hwb
  refine (great_ok a len cap f W HA.out hm).mono ?_
  rintro e w0 ⟨hg, h0⟩
  obtain rfl : W = w0 := h0.symm
  rcases hg with rfl | ⟨rfl, hle⟩
  · go_wp2_with (go_at_call 9; refine (lives_ok _).mono ?_; rintro e w1 ⟨rfl, hM⟩; have HM := Lib.hid (HM0.out.trans hM); clear hM)
    go_ret
    exact ⟨rfl, HM.out⟩
  clear h0
  go_wp2_with fail
  refine (new_ok W).mono ?_
  rintro e w1 ⟨F1, p, rfl, m1, M1, n1⟩
  have FL : Hid (Fill w (w1.alloc (.cells #[.pointer (some ⟨p, 0, none⟩)] 25)) F1 p w1.heap.size bo most []) := Lib.hid
    ⟨m1.more ((More.refl w1).alloc _), (HM0.out.trans M1).alloc _, fun x hx => Nat.le_trans HM0.out.size (n1 x hx), heap_new w1 _, ((More.refl w1).alloc _).block (M1.block HBO.out), fun q => by have := m1.lt _ q; omega, fun q => by have := n1 _ q; omega⟩
  have HNE : Hid (w1.heap.size ≠ bo) := Lib.hid (by have := M1.size; omega)
  have hl1 : w1.heap.size < (w1.alloc (.cells #[.pointer (some ⟨p, 0, none⟩)] 25)).heap.size := by simp
  clear m1 M1 n1
  go_wp2_with fail
  generalize w1.alloc (.cells #[.pointer (some ⟨p, 0, none⟩)] 25) = w2 at FL hl1 ⊢
  generalize w1.heap.size = bm at FL HNE hl1 ⊢
  go_loopw [6] (fun i wr => ∃ j F, j ≤ len ∧ i = .int .i64 (j : Nat) ∧ Fill w wr F p bm bo most (putAll f j)) (fun i _ => len - (intOf i).toNat)
  case atStart => exact ⟨0, F1, Nat.zero_le _, rfl, FL.out⟩
  case round =>
    obtain ⟨j, F, hj, rfl, hfill⟩ := hrel
    have FI := Lib.hid hfill
    clear hfill FL
    have hsz := putAll_len f j
    by_cases hlt : j < len
    · obtain ⟨s, o, rfl, hs, hc⟩ := HAW.out.resolve_left (by omega)
      obtain ⟨_, x1, x2, _⟩ := hc j hlt
      have HX : Hid (putAll f (j + 1) = putD (putAll f j) (f j).2.1 (f j).2.2) := Lib.hid rfl
      have y1 := FI.out.more.cell x1
      have y2 := FI.out.more.cell x2
      have hs' := Nat.lt_of_lt_of_le hs FI.out.more.size
      clear x1 x2 hc hs
      generalize (f j).2.1 = kj at y1 HX
      generalize (f j).2.2 = vj at y2 HX
      obtain ⟨cb, fb, lb⟩ := cell_one FI.out.m
      have FI2 : Hid (Fill w wr.drew F p bm bo most (putAll f j)) := Lib.hid (FI.out.step ((More.refl wr).drew))
      clear fb
      go_wp2_with fail
      go_still_tail 11, (by kernel_rfl)
      change wpList _ _ _ _ _ wr.drew
      generalize wr.drew = w3 at FI2 ⊢
      clear FI
      go_wp2_with fail
      refine (put_ok F p (putAll f j) kj vj w3 FI2.out.a (by omega)).mono ?_
      rintro e w4 ⟨rfl, F4, m4, t4, n4⟩
      have FI4 := Lib.hid (FI2.out.did m4 t4 n4)
      clear m4 t4 n4 FI2
      go_wp2_with fail
      go_roundw
      case rel => exact ⟨j + 1, F4, by omega, by go_num, by rw [HX.out]; exact FI4.out⟩
      case measure => simp [intOf]; omega
    · obtain rfl : j = len := by omega
      clear hlt hj HAW HA
      obtain ⟨D, hD⟩ : ∃ D, D = putAll f j := ⟨_, rfl⟩
      rw [← hD] at FI hsz
      clear hD
      have hA := heap_new wr (.cells #[.int .i64 0] 3)
      have hB := heap_new (wr.alloc (.cells #[.int .i64 0] 3)) (.cells #[.bool true] 4)
      have MA := (More.refl wr).alloc (.cells #[.int .i64 0] 3)
      have MB := (More.refl (wr.alloc (.cells #[.int .i64 0] 3))).alloc (.cells #[.bool true] 4)
      have hsz1 : (wr.alloc (.cells #[.int .i64 0] 3)).heap.size = wr.heap.size + 1 := by simp
      have hl1 := lt_of_heap FI.out.m
      have hl2 := lt_of_heap FI.out.o
      rw [hsz1] at hB
      have BX : Hid (Bx ((wr.alloc (.cells #[.int .i64 0] 3)).alloc (.cells #[.bool true] 4)) p bm wr.heap.size (wr.heap.size + 1) bo 0 most) := Lib.hid
        ⟨MB.block (MA.block FI.out.m), MB.block hA, hB, MB.block (MA.block FI.out.o)⟩
      have FAR : Hid (Far bm wr.heap.size (wr.heap.size + 1) bo) := Lib.hid ⟨by omega, by omega, HNE.out, by omega, by omega, by omega⟩
      have FI2 := Lib.hid (FI.out.step (MA.trans MB))
      have NT : Hid (¬ F wr.heap.size) := Lib.hid (fun q => by have := FI.out.a.lt _ q; omega)
      have NR : Hid (¬ F (wr.heap.size + 1)) := Lib.hid (fun q => by have := FI.out.a.lt _ q; omega)
      have NEW : Hid (w.heap.size ≤ wr.heap.size) := Lib.hid FI.out.more.size
      obtain ⟨cb, _, lb⟩ := cell_one FI2.out.m
      clear hA hB MA MB hsz1 hl1 hl2 FI
      go_wp2_with fail
      refine (each_ok F p D bm _ _ bo most _ FI2.out.a BX.out FAR.out NT.out NR.out).mono ?_
      rintro e w6 ⟨rfl, T, hBT, hMT, hTT, hTn, hTv⟩
      have M6 : Hid (More w w6) := Lib.hid (more_own FI2.out.more hTT (fun x q => by have := NEW.out; rcases q with q | q <;> omega))
      have LEN : Hid (∀ W', More w6 W' → Calls Try.prog 20 #[.pointer (some ⟨p, 0, none⟩)] W' (Gives W' (.int .i64 D.length))) := Lib.hid (fun W' hW' => (len_ok F p D W' (hMT.more hW')).mono (fun e w7 q => ⟨q.1, by rw [q.2]; exact More.refl _⟩))
      obtain ⟨cm, _, _⟩ := cell_one hBT.m
      obtain ⟨ct, _, _⟩ := cell_one hBT.t
      obtain ⟨cr, _, _⟩ := cell_one hBT.r
      obtain ⟨co, _, _⟩ := cell_one hBT.o
      have CM := Lib.hid cm; have CT := Lib.hid ct; have CR := Lib.hid cr; have CO := Lib.hid co
      clear hBT hMT hTT BX FAR FI2 NT NR NEW cb lb cm ct cr co
      generalize wr.heap.size + 1 = br at CR ⊢
      generalize wr.heap.size = bt at CT ⊢
      generalize D.length = n at LEN hTn hTv hsz
      have TV : Hid ((T : Int) = min (n : Int) (max most 1)) := Lib.hid hTv
      clear hTv
      go_wp2_with fail
      refine wp_region_more (by kernel_rfl) (by kernel_rfl) ?_
      have be : ((T : Int) == min (n : Int) (max most 1)) = true := by simpa using TV.out
      iterate 14
        with_reducible refine wpQuiet_step (fun K hK => ?_)
        go_simp
        first
        | (refine hK _ ?_; clear hK K)
        | (apply Exists.intro
           refine ⟨fun W hW => ?_, hK _ ?_⟩
           first
           | (go_at_call 20; exact Calls.more hW (LEN.out W hW))
           | (go_at_call 9; exact Calls.more hW (lives_ok W))
           | (have x1 := hW.cell CM.out; have x2 := hW.cell CT.out; have x3 := hW.cell CR.out; have x4 := hW.cell CO.out; (try go_simp); try rfl)
           clear hK K)
      refine wpQuiet_nil ?_
      intro W7 hW
      have HM7 := Lib.hid (M6.out.trans hW)
      clear hW
      go_wp2_with fail
      go_ret
      exact ⟨rfl, HM7.out⟩
end Go.Proofs.Ytcaddbgoeoclnaa
