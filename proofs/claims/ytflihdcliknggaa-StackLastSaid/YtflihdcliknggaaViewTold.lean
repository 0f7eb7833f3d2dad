/-
  The landed package view: what was written, told by rising addresses.
-/
import Derived.Test.YtflihdcliknggaaPairs
import Derived.Handy
import Derived.Deep.DeepMust
namespace Go.Proofs.Ytflihdcliknggaa
open Go.RowKit Go.Sort Go.Maps
set_option linter.unusedVariables false
set_option linter.unusedSimpArgs false

theorem run_equalIn_func {P : Program} (w : World) (d : Nat) (t : TypeId) {a b c} (h : P.underlying t = some (.func a b c)) (f : Fn) (xs ys : Array Value) :
    (Op.equalIn (d + 1) t (.func f xs ys) .nilFunc).run P w = .ok false w := by
  simp [Op.equalIn, run_underlying h]
/-- A function that is written out is not nil. -/
theorem run_eql_func {P : Program} (w : World) (t : TypeId) {a b c} (h : P.underlying t = some (.func a b c)) (f : Fn) (xs ys : Array Value) : Sem.run P (binOp BinOp.eql t (Value.func f xs ys) Value.nilFunc) w = .ok (.bool false) w := by
  have : Sem.run P (Op.equal t (Value.func f xs ys) Value.nilFunc) w = .ok false w := run_equalIn_func w 9999 t h f xs ys
  simp [binOp, this]
theorem box_cells {w : World} {b : Nat} {v : Value} {T : TypeId} (h : w.heap[b]? = some (.cells #[v] T (0, 0))) : w.cell? ⟨b, 0, none⟩ = some v ∧ w.frozen? ⟨b, 0, none⟩ = false ∧ b < w.heap.size :=
  ⟨by simp [World.cell?, h], by simp [World.frozen?, h], lt_of_heap h⟩
theorem box_put {w : World} {b : Nat} {v : Value} {T : TypeId} (x : Value) (h : w.heap[b]? = some (.cells #[v] T (0, 0))) : (w.setCell ⟨b, 0, none⟩ x).heap[b]? = some (.cells #[x] T (0, 0)) := by
  have := heap_setCell (o := 0) x h
  simpa using this

/-- The box of what is told: the pairs so far, in a row from base on. -/
structure Tell (wa W : World) (b : Nat) (ps : List KV) : Prop where
  ex : ∃ v, W.heap[b]? = some (.cells #[v] 24 (0, 0)) ∧ PRw wa.heap.size W v ps
  turn : Turned (fun k => k = b) wa W
theorem Tell.more {wa W W' : World} {b : Nat} {ps : List KV} (h : Tell wa W b ps) (t : More W W') : Tell wa W' b ps := by
  obtain ⟨v, hb, hv⟩ := h.ex
  exact ⟨⟨v, t.block hb, hv.more t⟩, turned_own (F' := fun _ => False) h.turn t (fun _ q => q.elim)⟩

set_option maxHeartbeats 2000000 in
theorem tell_ok (wa W : World) (b : Nat) (ps : List KV) (x y : Int) (hlt : b < wa.heap.size) (h : Tell wa W b ps) (hl : ps.length ≤ 100000) :
    Calls Try.prog 36 #[.int .i64 x, .int .i64 y, .pointer (some ⟨b, 0, none⟩)] W fun e w' => e = .returned (.bool true) ∧ Tell wa w' b (ps ++ [(x, y)]) := by
  obtain ⟨v, hb, hv⟩ := h.ex
  obtain ⟨c0, f0, l0⟩ := box_cells hb
  have HB := Lib.hid hb
  have HV := Lib.hid hv
  have HT := Lib.hid h.turn
  have FIN : Hid (∀ v' w', PRw wa.heap.size w' v' (ps ++ [(x, y)]) → Turned (fun k => k = b) wa w' → w'.heap[b]? = some (.cells #[v] 24 (0, 0)) → Tell wa (w'.setCell ⟨b, 0, none⟩ v') b (ps ++ [(x, y)])) := Lib.hid fun v' w' hp ht hbb =>
    ⟨⟨v', box_put v' hbb, hp.keep (turned_setCell (S := fun k => k = b) (Turned.refl _ w') (fun _ => rfl) v') (fun k hk e => by omega)⟩, turned_setCell ht (fun _ => rfl) v'⟩
  have NE : Hid (∀ k, v.ownBlock = some k → k ≠ b) := Lib.hid fun k hk e => by have := hv.lt k hk; omega
  clear h hb hv
  go_enter Try.func36, Try.ntmps36
  go_wp2_with (at_builtin; refine wpList_pair (S := fun k => k = b) (wa := wa) (v := v) (ps := ps) x y rfl _ _ rfl rfl HV.out HT.out (by omega) rfl ?_; intro g' c' w1 hp1 ht1 hk1; have H1 := Lib.hid hp1; have T1 := Lib.hid ht1; have B1 := Lib.hid (hk1 b _ HB.out (fun e => NE.out b e rfl)); have c1 := (box_cells B1.out).1; have f1 := (box_cells B1.out).2.1; clear hp1 ht1 hk1)
  go_ret
  exact ⟨rfl, FIN.out _ _ H1.out T1.out B1.out⟩

/-- What Each leaves. -/
def TellAll (wa W : World) (b : Nat) (D : List KV) (e : Ending) (w' : World) : Prop := e = .returned (.tuple #[]) ∧ Tell wa w' b D

set_option maxHeartbeats 4000000 in
theorem each_told (F : Nat → Prop) (q : Nat) (D : List KV) (b : Nat) (W : World) (h : MapAt W F q D) (hb : W.heap[b]? = some (.cells #[.slice none 0 0] 24 (0, 0))) (hF : ¬ F b) :
    Calls Try.prog 35 #[.pointer (some ⟨q, 0, none⟩), .func (.func 36) #[] #[.pointer (some ⟨b, 0, none⟩)]] W fun e w' => e = .returned (.tuple #[]) ∧ Turned (fun k => k = b) W w' ∧ ∃ v, w'.heap[b]? = some (.cells #[v] 24 (0, 0)) ∧ PRw W.heap.size w' v D := by
  have hq : ∀ w, Sem.run Try.prog (binOp BinOp.eql 67 (Value.func (.func 36) #[] #[.pointer (some ⟨b, 0, none⟩)]) Value.nilFunc) w = .ok (.bool false) w := fun w => run_eql_func w _ Try.underlying67 _ _ _
  have hlb := lt_of_heap hb
  have hsm := h.small
  have CP := Lib.hid (copy_ok F q D W h)
  have HB := Lib.hid hb
  clear h hb hF
  go_enter Try.func35, Try.ntmps35
  go_wp2_with fail
  refine CP.out.mono ?_
  rintro e w1 ⟨Fc, c, rfl, mc, M1, nc⟩
  have MC := Lib.hid mc
  have K1 := Lib.hid M1
  have T0 := Lib.hid (show Tell w1 w1 b [] from ⟨⟨_, M1.block HB.out, PRw.nil _ _⟩, Turned.refl _ _⟩)
  have hlb1 : b < w1.heap.size := Nat.lt_of_lt_of_le hlb M1.size
  have NC : Hid (∀ x, Fc x → ¬ x = b) := Lib.hid (fun x hx q => by have := nc x hx; omega)
  have FIN : Hid (∀ wr, Tell w1 wr b D → Turned (fun k => k = b) W wr ∧ ∃ v, wr.heap[b]? = some (.cells #[v] 24 (0, 0)) ∧ PRw W.heap.size wr v D) := Lib.hid fun wr ht => by
    obtain ⟨v, h1, h2⟩ := ht.ex
    exact ⟨(Turned.mono K1.out (fun _ _ q => q.elim)).trans ht.turn, v, h1, h2.mono K1.out.size⟩
  clear mc M1 nc
  go_wp2_with fail
  refine (len_ok Fc c D w1 MC.out).mono ?_
  rintro e w2 ⟨rfl, h2⟩
  obtain rfl : w2 = w1 := h2
  go_wp2_with fail
  go_loopw [15] (fun i wr => ∃ t : Nat, t ≤ D.length ∧ i = .int .i64 (t : Nat) ∧ Tell w2 wr b (D.take t)) (fun i _ => D.length - (intOf i).toNat)
  case atStart => exact ⟨0, Nat.zero_le _, rfl, T0.out⟩
  case round =>
    obtain ⟨t, ht, rfl, htell⟩ := hrel
    have T3 := Lib.hid htell; have C3 := Lib.hid (MC.out.keep htell.turn NC.out)
    clear htell
    by_cases hlt3 : t < D.length
    · obtain ⟨x, hx⟩ : ∃ x, D[t]? = some x := ⟨_, List.getElem?_eq_getElem hlt3⟩
      have TK : Hid (D.take (t + 1) = D.take t ++ [x]) := Lib.hid (by rw [List.take_add_one, hx]; rfl)
      have HX := Lib.hid hx
      clear hx
      obtain ⟨xk, xv⟩ := x
      go_wp2_with fail
      refine (at_ok Fc c D t (xk, xv) wr C3.out HX.out).mono ?_
      rintro e w4 ⟨rfl, n4, rfl⟩
      have C4 := Lib.hid (C3.out.more (more_drewN wr n4)); have T4 := Lib.hid (T3.out.more (more_drewN wr n4))
      clear C3 T3
      generalize wr.drewN n4 = w4 at C4 T4 ⊢
      simp only
      go_wp2_with fail
      refine (tell_ok w2 w4 b (D.take t) xk xv hlb1 T4.out (by simp; omega)).mono ?_
      rintro e w5 ⟨rfl, htell⟩
      have T5 := Lib.hid htell
      clear htell C4 T4
      go_wp2_with fail
      go_roundw
      case rel => exact ⟨t + 1, by omega, by go_num, by rw [TK.out]; exact T5.out⟩
      case measure => simp [intOf]; omega
    · obtain rfl : t = D.length := by omega
      have FIN2 : Hid (∀ wr', wr' = wr → Turned (fun k => k = b) W wr' ∧ ∃ v, wr'.heap[b]? = some (.cells #[v] 24 (0, 0)) ∧ PRw W.heap.size wr' v D) := Lib.hid (fun wr' e => by subst e; exact FIN.out _ (by have := T3.out; rwa [List.take_length] at this))
      go_wp2_with fail
      go_end0
      exact ⟨rfl, FIN2.out _ rfl⟩
end Go.Proofs.Ytflihdcliknggaa
