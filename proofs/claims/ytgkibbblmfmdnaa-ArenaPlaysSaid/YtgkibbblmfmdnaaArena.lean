/-
  Contracts of package arena's functions: what each access answers, and what it leaves.
-/
import Derived.Test.YtgkibbblmfmdnaaRows
import Derived.Test.YtgkibbblmfmdnaaMem
import Derived.WalkKit
import Derived.WalkSpells
import Derived.WalkLawsBesides
import Derived.Outline
import Derived.Deep.QuietTactic
import Derived.BigQuiet
import Derived.Lib.Hide
namespace Go.Proofs.Ytgkibbblmfmdnaa
open Go.RowKit
set_option linter.unusedVariables false

theorem load_turn (q : Int) (w : World) :
    Calls Try.prog 28 #[.int .i64 q] w fun e w' => e = .returned (.tuple #[.int .i64 q, .int .i64 q, .int .i64 0]) ∧ w' = w := by
  go_enter Try.func28, Try.ntmps28
  go_wp2
  go_ret3
  exact ⟨rfl, rfl⟩
theorem store_turn (q x : Int) (p : Addr) (w : World) (hp : w.cell? p = some (.int .i64 x)) :
    Calls Try.prog 23 #[.int .i64 q, .pointer (some p)] w fun e w' => e = .returned (.tuple #[.int .i64 x, .int .i64 0, .int .i64 0]) ∧ w' = w := by
  go_enter Try.func23, Try.ntmps23
  go_wp2
  go_ret3
  exact ⟨rfl, rfl⟩
theorem swap_turn_yes (q x : Int) (p r : Addr) (w : World) (hp : w.cell? p = some (.int .i64 q)) (hr : w.cell? r = some (.int .i64 x)) :
    Calls Try.prog 29 #[.int .i64 q, .pointer (some p), .pointer (some r)] w fun e w' => e = .returned (.tuple #[.int .i64 x, .int .i64 q, .int .i64 0]) ∧ w' = w := by
  go_enter Try.func29, Try.ntmps29
  go_wp2
  go_ret3
  exact ⟨rfl, rfl⟩
theorem swap_turn_no (q o : Int) (p r : Addr) (w : World) (hq : (q != o) = true) (hp : w.cell? p = some (.int .i64 o)) :
    Calls Try.prog 29 #[.int .i64 q, .pointer (some p), .pointer (some r)] w fun e w' => e = .returned (.tuple #[.int .i64 q, .int .i64 q, .int .i64 0]) ∧ w' = w := by
  go_enter Try.func29, Try.ntmps29
  go_wp2
  go_ret3
  exact ⟨rfl, rfl⟩
theorem bump_turn_end (q m : Int) (p : Addr) (w : World) (hq : m ≤ q) (hp : w.cell? p = some (.int .i64 m)) :
    Calls Try.prog 30 #[.int .i64 q, .pointer (some p)] w fun e w' => e = .returned (.tuple #[.int .i64 q, .int .i64 q, .int .i64 8]) ∧ w' = w := by
  go_enter Try.func30, Try.ntmps30
  go_wp2
  go_ret3
  exact ⟨rfl, rfl⟩
theorem bump_turn_on (q m : Int) (p : Addr) (w : World) (hq : q < m) (h0 : -9223372036854775808 ≤ q) (hm : m ≤ 9223372036854775807) (hp : w.cell? p = some (.int .i64 m)) :
    Calls Try.prog 30 #[.int .i64 q, .pointer (some p)] w fun e w' => e = .returned (.tuple #[.int .i64 (q + 1), .int .i64 (q + 1), .int .i64 0]) ∧ w' = w := by
  have hq' : ¬ m ≤ q := by omega
  go_enter Try.func30, Try.ntmps30
  go_wp2
  go_ret3
  exact ⟨rfl, rfl⟩

set_option maxHeartbeats 1000000 in
theorem do_load (a b : Nat) (ws : List Int) (c : Int) (i : Nat) (w : World) (h : At 53 w a b ws c)
    (hi : i < ws.length) (hl : ws.length ≤ 1048576) (hc : 0 ≤ c) (hc' : c ≤ 4611686018427387904) :
    Calls Try.prog 22 #[.pointer (some ⟨a, 0, none⟩), .agg #[.int .i64 i, .func (Fn.func 28) #[] #[]]] w
      (Did 53 a b w ws (c + 1) (.tuple #[.int .i64 (wordAt ws i), .int .i64 0])) := by
  have h0 := h.c0; have h1 := h.c1; have h2 := h.f0; have h3 := h.f1; have h4 := h.wd hi; have h5 := h.fw i
  have hla := h.la; have hlb := h.lb; have hne := h.ne
  have d1 : decide ((i : Int) < 0) = false := by simp
  have d2 : decide ((ws.length : Int) ≤ (i : Int)) = false := by simp; omega
  try simp only [wordAt, Int.toNat_natCast] at *
  generalize hv : ws.getD i 0 = v at *
  have HV := Lib.hid hv
  clear hv
  go_enter Try.func22, Try.ntmps22
  go_wp2_with fail
  go_quiet (fail)
  go_wp2_with fail
  go_quiet ((go_at_call 28; exact Calls.quiet_of_same (load_turn _ _)))
  go_wp2_with fail
  go_region
  all_goals go_wp2
  all_goals go_ret2
  all_goals exact ⟨rfl, did_same h _ _ _ HV.out, (did_word h _ _ _ _ _).2⟩
set_option maxHeartbeats 1000000 in
theorem do_store (a b : Nat) (ws : List Int) (c : Int) (i : Nat) (x : Int) (k : Nat) (w : World) (h : At 53 w a b ws c) (hx : w.cell? ⟨k, 0, none⟩ = some (.int .i64 x)) (hka : k ≠ a)
    (hi : i < ws.length) (hl : ws.length ≤ 1048576) (hc : 0 ≤ c) (hc' : c ≤ 4611686018427387904) :
    Calls Try.prog 22 #[.pointer (some ⟨a, 0, none⟩), .agg #[.int .i64 i, .func (Fn.func 23) #[] #[.pointer (some ⟨k, 0, none⟩)]]] w
      (Did 53 a b w (ws.set i x) (c + 1) (.tuple #[.int .i64 (0), .int .i64 0])) := by
  have h0 := h.c0; have h1 := h.c1; have h2 := h.f0; have h3 := h.f1; have h4 := h.wd hi; have h5 := h.fw i
  have hla := h.la; have hlb := h.lb; have hne := h.ne
  have hk := lt_of_cell hx
  have d1 : decide ((i : Int) < 0) = false := by simp
  have d2 : decide ((ws.length : Int) ≤ (i : Int)) = false := by simp; omega
  try simp only [wordAt, Int.toNat_natCast] at *
  generalize hv : ws.getD i 0 = v at *
  have HV := Lib.hid hv
  clear hv
  go_enter Try.func22, Try.ntmps22
  go_wp2_with fail
  go_quiet (fail)
  go_wp2_with fail
  go_quiet ((go_at_call 23; exact Calls.quiet_of_same (store_turn _ x _ _ (by go_simp))))
  go_wp2_with fail
  go_region
  all_goals go_wp2
  all_goals go_ret2
  all_goals exact ⟨rfl, (did_word h _ _ _ _ _).1, (did_word h _ _ _ _ _).2⟩
set_option maxHeartbeats 1000000 in
theorem do_swap_yes (a b : Nat) (ws : List Int) (c : Int) (i : Nat) (x : Int) (k k2 : Nat) (w : World) (h : At 53 w a b ws c) (hx : w.cell? ⟨k, 0, none⟩ = some (.int .i64 (wordAt ws i))) (hx2 : w.cell? ⟨k2, 0, none⟩ = some (.int .i64 x)) (hka : k ≠ a) (hka2 : k2 ≠ a)
    (hi : i < ws.length) (hl : ws.length ≤ 1048576) (hc : 0 ≤ c) (hc' : c ≤ 4611686018427387904) :
    Calls Try.prog 22 #[.pointer (some ⟨a, 0, none⟩), .agg #[.int .i64 i, .func (Fn.func 29) #[] #[.pointer (some ⟨k, 0, none⟩), .pointer (some ⟨k2, 0, none⟩)]]] w
      (Did 53 a b w (ws.set i x) (c + 1) (.tuple #[.int .i64 (wordAt ws i), .int .i64 0])) := by
  have h0 := h.c0; have h1 := h.c1; have h2 := h.f0; have h3 := h.f1; have h4 := h.wd hi; have h5 := h.fw i
  have hla := h.la; have hlb := h.lb; have hne := h.ne
  have hk := lt_of_cell hx
  have hk2 := lt_of_cell hx2
  have d1 : decide ((i : Int) < 0) = false := by simp
  have d2 : decide ((ws.length : Int) ≤ (i : Int)) = false := by simp; omega
  try simp only [wordAt, Int.toNat_natCast] at *
  generalize hv : ws.getD i 0 = v at *
  have HV := Lib.hid hv
  clear hv
  go_enter Try.func22, Try.ntmps22
  go_wp2_with fail
  go_quiet (fail)
  go_wp2_with fail
  go_quiet ((go_at_call 29; exact Calls.quiet_of_same (swap_turn_yes v x _ _ _ (by go_simp) (by go_simp))))
  go_wp2_with fail
  go_region
  all_goals go_wp2
  all_goals go_ret2
  all_goals exact ⟨rfl, (did_word h _ _ _ _ _).1, (did_word h _ _ _ _ _).2⟩
set_option maxHeartbeats 1000000 in
theorem do_swap_no (a b : Nat) (ws : List Int) (c : Int) (i : Nat) (o : Int) (k k2 : Nat) (w : World) (h : At 53 w a b ws c) (hx : w.cell? ⟨k, 0, none⟩ = some (.int .i64 o)) (hno : (wordAt ws i != o) = true) (hka : k ≠ a)
    (hi : i < ws.length) (hl : ws.length ≤ 1048576) (hc : 0 ≤ c) (hc' : c ≤ 4611686018427387904) :
    Calls Try.prog 22 #[.pointer (some ⟨a, 0, none⟩), .agg #[.int .i64 i, .func (Fn.func 29) #[] #[.pointer (some ⟨k, 0, none⟩), .pointer (some ⟨k2, 0, none⟩)]]] w
      (Did 53 a b w ws (c + 1) (.tuple #[.int .i64 (wordAt ws i), .int .i64 0])) := by
  have h0 := h.c0; have h1 := h.c1; have h2 := h.f0; have h3 := h.f1; have h4 := h.wd hi; have h5 := h.fw i
  have hla := h.la; have hlb := h.lb; have hne := h.ne
  have hk := lt_of_cell hx
  have d1 : decide ((i : Int) < 0) = false := by simp
  have d2 : decide ((ws.length : Int) ≤ (i : Int)) = false := by simp; omega
  try simp only [wordAt, Int.toNat_natCast] at *
  generalize hv : ws.getD i 0 = v at *
  have HV := Lib.hid hv
  clear hv
  go_enter Try.func22, Try.ntmps22
  go_wp2_with fail
  go_quiet (fail)
  go_wp2_with fail
  go_quiet ((go_at_call 29; exact Calls.quiet_of_same (swap_turn_no v o _ _ _ hno (by go_simp))))
  go_wp2_with fail
  go_region
  all_goals go_wp2
  all_goals go_ret2
  all_goals exact ⟨rfl, did_same h _ _ _ HV.out, (did_word h _ _ _ _ _).2⟩
set_option maxHeartbeats 1000000 in
theorem do_bump_end (a b : Nat) (ws : List Int) (c : Int) (i : Nat) (m : Int) (k : Nat) (w : World) (h : At 53 w a b ws c) (hx : w.cell? ⟨k, 0, none⟩ = some (.int .i64 m)) (hm : m ≤ wordAt ws i) (hka : k ≠ a)
    (hi : i < ws.length) (hl : ws.length ≤ 1048576) (hc : 0 ≤ c) (hc' : c ≤ 4611686018427387904) :
    Calls Try.prog 22 #[.pointer (some ⟨a, 0, none⟩), .agg #[.int .i64 i, .func (Fn.func 30) #[] #[.pointer (some ⟨k, 0, none⟩)]]] w
      (Did 53 a b w ws (c + 1) (.tuple #[.int .i64 (wordAt ws i), .int .i64 8])) := by
  have h0 := h.c0; have h1 := h.c1; have h2 := h.f0; have h3 := h.f1; have h4 := h.wd hi; have h5 := h.fw i
  have hla := h.la; have hlb := h.lb; have hne := h.ne
  have hk := lt_of_cell hx
  have d1 : decide ((i : Int) < 0) = false := by simp
  have d2 : decide ((ws.length : Int) ≤ (i : Int)) = false := by simp; omega
  try simp only [wordAt, Int.toNat_natCast] at *
  generalize hv : ws.getD i 0 = v at *
  have HV := Lib.hid hv
  clear hv
  go_enter Try.func22, Try.ntmps22
  go_wp2_with fail
  go_quiet (fail)
  go_wp2_with fail
  go_quiet ((go_at_call 30; exact Calls.quiet_of_same (bump_turn_end v m _ _ hm (by go_simp))))
  go_wp2_with fail
  go_region
  all_goals go_wp2
  all_goals go_ret2
  all_goals exact ⟨rfl, did_same h _ _ _ HV.out, (did_word h _ _ _ _ _).2⟩
set_option maxHeartbeats 1000000 in
theorem do_bump_on (a b : Nat) (ws : List Int) (c : Int) (i : Nat) (m : Int) (k : Nat) (w : World) (h : At 53 w a b ws c) (hx : w.cell? ⟨k, 0, none⟩ = some (.int .i64 m)) (hm : wordAt ws i < m) (hv0 : -9223372036854775808 ≤ wordAt ws i) (hm9 : m ≤ 9223372036854775807) (hka : k ≠ a)
    (hi : i < ws.length) (hl : ws.length ≤ 1048576) (hc : 0 ≤ c) (hc' : c ≤ 4611686018427387904) :
    Calls Try.prog 22 #[.pointer (some ⟨a, 0, none⟩), .agg #[.int .i64 i, .func (Fn.func 30) #[] #[.pointer (some ⟨k, 0, none⟩)]]] w
      (Did 53 a b w (ws.set i (wordAt ws i + 1)) (c + 1) (.tuple #[.int .i64 (wordAt ws i + 1), .int .i64 0])) := by
  have h0 := h.c0; have h1 := h.c1; have h2 := h.f0; have h3 := h.f1; have h4 := h.wd hi; have h5 := h.fw i
  have hla := h.la; have hlb := h.lb; have hne := h.ne
  have hk := lt_of_cell hx
  have d1 : decide ((i : Int) < 0) = false := by simp
  have d2 : decide ((ws.length : Int) ≤ (i : Int)) = false := by simp; omega
  try simp only [wordAt, Int.toNat_natCast] at *
  generalize hv : ws.getD i 0 = v at *
  have HV := Lib.hid hv
  clear hv
  go_enter Try.func22, Try.ntmps22
  go_wp2_with fail
  go_quiet (fail)
  go_wp2_with fail
  go_quiet ((go_at_call 30; exact Calls.quiet_of_same (bump_turn_on v m _ _ hm hv0 hm9 (by go_simp))))
  go_wp2_with fail
  go_region
  all_goals go_wp2
  all_goals go_ret2
  all_goals exact ⟨rfl, (did_word h _ _ _ _ _).1, (did_word h _ _ _ _ _).2⟩
set_option maxHeartbeats 1000000 in
theorem do_low (a b : Nat) (ws : List Int) (c i : Int) (g : Nat) (caps : Array Value) (w : World) (h : At 53 w a b ws c) (hi : i < 0) (hl : ws.length ≤ 1048576) :
    Calls Try.prog 22 #[.pointer (some ⟨a, 0, none⟩), .agg #[.int .i64 i, .func (Fn.func g) #[] caps]] w
      (Did 53 a b w ws c (.tuple #[.int .i64 0, .int .i64 3])) := by
  have h0 := h.c0; have h2 := h.f0
  have hla := h.la; have hlb := h.lb; have hne := h.ne
  have d1 : decide (i < 0) = true := by simp; omega
  go_enter Try.func22, Try.ntmps22
  go_wp2_with fail
  go_quiet (fail)
  go_wp2_with fail
  go_ret2
  exact ⟨rfl, (h.alloc _).drewN _, ((Turned.refl _ w).alloc _).drewN _⟩
set_option maxHeartbeats 1000000 in
theorem do_high (a b : Nat) (ws : List Int) (c i : Int) (g : Nat) (caps : Array Value) (w : World) (h : At 53 w a b ws c) (hi : (ws.length : Int) ≤ i) (hl : ws.length ≤ 1048576) :
    Calls Try.prog 22 #[.pointer (some ⟨a, 0, none⟩), .agg #[.int .i64 i, .func (Fn.func g) #[] caps]] w
      (Did 53 a b w ws c (.tuple #[.int .i64 0, .int .i64 3])) := by
  have h0 := h.c0; have h2 := h.f0
  have hla := h.la; have hlb := h.lb; have hne := h.ne
  have d1 : decide (i < 0) = false := by simp; omega
  have d2 : decide ((ws.length : Int) ≤ i) = true := by simp; omega
  go_enter Try.func22, Try.ntmps22
  go_wp2_with fail
  go_quiet (fail)
  go_wp2_with fail
  go_ret2
  exact ⟨rfl, (h.alloc _).drewN _, ((Turned.refl _ w).alloc _).drewN _⟩
theorem do_nil (i : Int) (g : Nat) (caps : Array Value) (w : World) :
    Calls Try.prog 22 #[.pointer none, .agg #[.int .i64 i, .func (Fn.func g) #[] caps]] w
      fun e w' => e = .returned (.tuple #[.int .i64 0, .int .i64 1]) ∧ Turned (fun _ => False) w w' := by
  go_enter Try.func22, Try.ntmps22
  go_wp2_with fail
  go_ret2
  exact ⟨rfl, (Turned.refl _ w).alloc _⟩

end Go.Proofs.Ytgkibbblmfmdnaa
