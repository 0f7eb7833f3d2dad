/-
  The walk over ViewOver.
-/
import Derived.Test.YtjoeminkdafmaaaViewLives
namespace Go.Proofs.Ytjoeminkdafmaaa
open Go.RowKit Go.Sort Go.Maps Go.Shelf
set_option linter.unusedVariables false
set_option linter.unusedSimpArgs false

/-- The box holds the view at p. -/
def BoxOf (b p : Nat) (w : World) : Prop := w.heap[b]? = some (.cells #[.pointer (some ⟨p, 0, none⟩)] 34 (0, 0))
set_option maxHeartbeats 1000000 in
theorem clo_over (F : Nat → Prop) (p b : Nat) (kn : Int → Option Int) (x : Option Addr) (W : World) (hv : ViewAt W F p kn []) (hb : W.heap[b]? = some (.cells #[.pointer x] 34 (0, 0))) (hF : ¬ F b) :
    Calls Try.prog 21 #[.pointer (some ⟨p, 0, none⟩), .pointer (some ⟨b, 0, none⟩)] W (WentS W F (fun k => k = b) (BoxOf b) p kn (.done [])) := by
  obtain ⟨c0, f0, l0⟩ := box_cells hb
  have FIN : Hid (WentS W F (fun k => k = b) (BoxOf b) p kn (.done []) (.returned (.tuple #[])) (W.setCell ⟨b, 0, none⟩ (.pointer (some ⟨p, 0, none⟩)))) := Lib.hid (by
    have t : Turned (fun k => k = b) W (W.setCell ⟨b, 0, none⟩ (.pointer (some ⟨p, 0, none⟩))) := turned_setCell (S := fun k => k = b) (Turned.refl _ W) (fun _ => rfl) _
    obtain ⟨M, q, n, F0, hp, hk, hm, fp, hf0, fM⟩ := hv.ex
    have hMb : M ≠ b := by
      rintro rfl
      obtain ⟨D, ⟨es, clock, hm', _⟩, _⟩ := hk
      rw [hb] at hm'; cases hm'
    exact ⟨rfl, ⟨F, ⟨M, q, n, F0, (Turned.block t p (lt_of_heap hp) (fun e => hF (e ▸ fp))).trans hp, hk.keep t hMb, hm.keep t (fun k hk e => hF (e ▸ (hf0 k hk).1)), fp, hf0, fM⟩, fun k hk => by have := hv.lt k hk; simpa using this⟩, t.mono (fun _ _ q => .inr q), box_put _ hb⟩)
  clear hv hb hF
  go_enter Try.func21, Try.ntmps21
  go_wp2_with fail
  go_end0
  exact FIN.out

set_option maxRecDepth 100000 in
set_option maxHeartbeats 4000000 in
theorem over_walk (a0 : Option Addr) (cap0 : Nat) (ps : List KV) (a x : Int) (w : World) (h0 : IsPairs w a0 ps) (o0 : OkPs ps) (m0 : ps.length ≤ 9223372036854775807) :
    Calls Try.prog 5 #[.slice a0 ps.length cap0, .int .i64 a, .int .i64 x] w (Gives w (.bool true)) := by
  have henter := enters_of Try.func21 (by kernel_rfl) rfl
  have hmf : ∀ (fn : Fn) (first cap : Array Value) (w : World), (Instr.makeFunc fn first cap).run Try.prog w = .ok (.func fn first cap) w := fun _ _ _ _ => rfl
  by_cases hk : ps.length ≤ 100
  · have d0 : decide ((100 : Int) < (ps.length : Int)) = false := by simp; omega
    have hb := heap_new w (.cells #[.pointer none] 34)
    have M0 : More w (w.alloc (.cells #[.pointer none] 34)) := (More.refl w).alloc _
    have hsz : w.heap.size < (w.alloc (.cells #[.pointer none] 34)).heap.size := by simp
    have RUN := Lib.hid (runs_ok a0 cap0 ps (.done []) (w.alloc (.cells #[.pointer none] 34)) (h0.more M0) (by omega) o0 21 #[.pointer (some ⟨w.heap.size, 0, none⟩)] (fun k => k = w.heap.size) (BoxOf w.heap.size) henter (fun k e => by subst e; exact hsz)
      (fun p w' w'' h t => (Turned.block t _ (lt_of_heap h) (by omega)).trans h)
      (fun W F p m v n => clo_over F p w.heap.size (look ps) none W v (m.block hb) (fun q => by have := n _ q; omega)))
    have NIL : Hid (∀ w', More w w' → Calls Try.prog 20 #[.slice a0 ps.length cap0, .nilFunc] w' fun e w'' => e = .returned (.tuple #[.int .i64 (-1), .slice none 0 0]) ∧ More w' w'') := Lib.hid fun w' m => runs_nil a0 cap0 ps w' (h0.more m) (by omega) o0
    have HM0 := Lib.hid M0
    clear h0 o0 M0 hb henter
    go_enter Try.func5, Try.ntmps5
    go_wp2_with fail
    refine (write_nil a x _).mono ?_
    rintro e w1 ⟨rfl, rfl⟩
    go_wp2_with fail
    refine (read_nil a _).mono ?_
    rintro e w1 ⟨rfl, rfl⟩
    go_wp2_with fail
    refine RUN.out.mono ?_
    rintro e w2 ⟨v, p, rfl, hr, ht, hx, hd⟩
    obtain ⟨ad, cd, rfl, _, _⟩ := hr.reads
    simp only [List.length_nil]
    have M2 : Hid (More w w2) := Lib.hid (Turned.mono (turned_own (F := fun _ => False) HM0.out ht (fun k q => .inr (by omega))) (fun _ _ q => q))
    obtain ⟨b0, _, _⟩ := box_cells hx
    have HX := Lib.hid hx
    have HD := Lib.hid hd
    clear hr ht hx hd RUN
    go_wp2_with fail
    refine (write_dead p (-1) a x w2 HD.out).mono ?_
    rintro e w3 ⟨rfl, h3⟩
    obtain rfl : w3 = w2 := h3
    go_wp2_with fail
    refine (NIL.out w3 M2.out).mono ?_
    rintro e w4 ⟨rfl, hm4⟩
    have HD4 := Lib.hid (HD.out.keep hm4 (fun q => q))
    obtain ⟨b4, _, _⟩ := box_cells (hm4.block HX.out)
    have M4 := Lib.hid (M2.out.trans hm4)
    clear hm4
    go_wp2_with fail
    refine (read_dead p (-1) a w4 HD4.out).mono ?_
    rintro e w5 ⟨rfl, h5⟩
    obtain rfl : w5 = w4 := h5
    go_wp2_with fail
    refine (lives_ok w5).mono ?_
    rintro e w6 ⟨rfl, hm6⟩
    have M6 := Lib.hid (M4.out.trans hm6)
    clear hm6
    go_wp2_with fail
    go_ret
    exact ⟨rfl, M6.out⟩
  · have d0 : decide ((100 : Int) < (ps.length : Int)) = true := by simp; omega
    clear h0 o0 hk henter
    go_enter Try.func5, Try.ntmps5
    go_wp2_with fail
    refine (lives_ok w).mono ?_
    rintro e w3 ⟨rfl, hm3⟩
    have M3 := Lib.hid hm3
    clear hm3
    go_wp2_with fail
    go_ret
    exact ⟨rfl, M3.out⟩
end Go.Proofs.Ytjoeminkdafmaaa
