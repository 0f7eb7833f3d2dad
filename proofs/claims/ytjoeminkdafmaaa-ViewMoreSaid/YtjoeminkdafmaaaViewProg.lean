/-
  The statements' functions that hand a small program to a view; Runs.
-/
import Derived.Test.YtjoeminkdafmaaaViewDoes
import Derived.Test.YtjoeminkdafmaaaViewRefRun
namespace Go.Proofs.Ytjoeminkdafmaaa
open Go.RowKit Go.Sort Go.Maps Go.Shelf
set_option linter.unusedVariables false
set_option linter.unusedSimpArgs false

theorem wentS_of {w w' : World} {F : Nat → Prop} {p : Nat} {kn : Int → Option Int} {R : Ran} {e : Ending} (h : Went w F p kn R e w') : WentS w F (fun _ => False) (fun _ _ => True) p kn R e w' := by
  cases R with
  | need a => exact ⟨h.1, h.2.1, h.2.2.mono (fun _ _ q => .inl q)⟩
  | done D =>
    obtain ⟨he, F', hv, ht, _⟩ := h
    exact ⟨he, ⟨F', hv⟩, ht.mono (fun _ _ q => .inl q), trivial⟩
theorem went_cases {w w' : World} {F : Nat → Prop} {p : Nat} {kn : Int → Option Int} {R : Ran} {e : Ending} (h : Went w F p kn R e w') : e = .panicked (endOf p) ∨ e = .returned (.tuple #[]) := by
  cases R with
  | need a => exact .inl h.1
  | done D => exact .inr h.1

set_option maxHeartbeats 1000000 in
theorem clo_runs (F : Nat → Prop) (p b : Nat) (kn : Int → Option Int) (a : Option Addr) (cap : Nat) (l : List Ins3) (R : Ran) (W : World) (hv : ViewAt W F p kn []) (hb : W.heap[b]? = some (.cells #[.slice a l.length cap] 23 (0, 0))) (hl : IsIns W a l) (hlen : l.length ≤ 1000) (hF : l ≠ [] → ∀ k, leads a k → ¬ F k) (hP : OkP l) (hK : OkK kn) (hR : runP kn l false 0 [] = R) :
    Calls Try.prog 23 #[.pointer (some ⟨p, 0, none⟩), .pointer (some ⟨b, 0, none⟩)] W (WentS W F (fun _ => False) (fun _ _ => True) p kn R) := by
  have PL := Lib.hid (plays_ok F p kn a cap l R W hv hl hlen hF hP hK hR)
  obtain ⟨c0, _, _⟩ := box_cells hb
  clear hv hb hl hF hP hK hR
  go_enter Try.func23, Try.ntmps23
  go_wp2_with fail
  refine PL.out.mono ?_
  intro e w' he
  have FIN := Lib.hid (wentS_of he)
  rcases went_cases he with rfl | rfl
  · exact ⟨rfl, FIN.out⟩
  · clear he
    go_wp2_with fail
    go_end0
    exact FIN.out

set_option maxHeartbeats 1000000 in
theorem clo_does (F : Nat → Prop) (p b : Nat) (kn : Int → Option Int) (a : Option Addr) (cap : Nat) (l : List Ins3) (R : Ran) (W : World) (hv : ViewAt W F p kn []) (hb : W.heap[b]? = some (.cells #[.slice a l.length cap] 23 (0, 0))) (hl : IsIns W a l) (hlen : l.length ≤ 1000) (hF : l ≠ [] → ∀ k, leads a k → ¬ F k) (hP : OkP l) (hK : OkK kn) (hR : runP kn l false 0 [] = R) :
    Calls Try.prog 14 #[.pointer (some ⟨p, 0, none⟩), .pointer (some ⟨b, 0, none⟩)] W (WentS W F (fun _ => False) (fun _ _ => True) p kn R) := by
  have PL := Lib.hid (plays_ok F p kn a cap l R W hv hl hlen hF hP hK hR)
  obtain ⟨c0, _, _⟩ := box_cells hb
  clear hv hb hl hF hP hK hR
  go_enter Try.func14, Try.ntmps14
  go_wp2_with fail
  refine PL.out.mono ?_
  intro e w' he
  have FIN := Lib.hid (wentS_of he)
  rcases went_cases he with rfl | rfl
  · exact ⟨rfl, FIN.out⟩
  · clear he
    go_wp2_with fail
    go_end0
    exact FIN.out

set_option maxHeartbeats 1000000 in
theorem clo_again (F : Nat → Prop) (p b : Nat) (kn : Int → Option Int) (a : Option Addr) (cap : Nat) (l : List Ins3) (R : Ran) (W : World) (hv : ViewAt W F p kn []) (hb : W.heap[b]? = some (.cells #[.slice a l.length cap] 23 (0, 0))) (hl : IsIns W a l) (hlen : l.length ≤ 1000) (hF : l ≠ [] → ∀ k, leads a k → ¬ F k) (hP : OkP l) (hK : OkK kn) (hR : runP kn l false 0 [] = R) :
    Calls Try.prog 22 #[.pointer (some ⟨p, 0, none⟩), .pointer (some ⟨b, 0, none⟩)] W (WentS W F (fun _ => False) (fun _ _ => True) p kn R) := by
  have PL := Lib.hid (plays_ok F p kn a cap l R W hv hl hlen hF hP hK hR)
  obtain ⟨c0, _, _⟩ := box_cells hb
  clear hv hb hl hF hP hK hR
  go_enter Try.func22, Try.ntmps22
  go_wp2_with fail
  refine PL.out.mono ?_
  intro e w' he
  have FIN := Lib.hid (wentS_of he)
  rcases went_cases he with rfl | rfl
  · exact ⟨rfl, FIN.out⟩
  · clear he
    go_wp2_with fail
    go_end0
    exact FIN.out

theorem ranR_of {w w0 w' : World} {R : Ran} {e : Ending} (m : More w w0) (h : RanS w0 (fun _ => False) (fun _ _ => True) R e w') : RanR w R e w' := by
  cases R with
  | need a => exact ⟨h.1, m.trans h.2⟩
  | done D =>
    obtain ⟨v, p, he, hr, ht, _⟩ := h
    exact ⟨v, he, hr.mono m.size, m.trans ht⟩
theorem box_more {w w' : World} {b : Nat} {c : Array Value} {T : TypeId} (h : w.heap[b]? = some (.cells c T (0, 0))) (t : More w w') : w'.heap[b]? = some (.cells c T (0, 0)) := t.block h

theorem ins_lt {w : World} {a : Option Addr} {l : List Ins3} (h : IsIns w a l) (h0 : l ≠ []) : ∀ k, leads a k → k < w.heap.size := by
  obtain ⟨s, o, rfl, hs, _⟩ := h.resolve_left h0
  intro k hk; cases hk; exact hs

set_option maxHeartbeats 2000000 in
/-- Runs. -/
theorem lruns_ok (ak al : Option Addr) (ck cl : Nat) (K : List KV) (l : List Ins3) (R : Ran) (w : World) (hK : IsPairs w ak K) (hL : IsIns w al l) (hk : K.length ≤ 1000) (hl : l.length ≤ 1000) (hKo : OkPs K) (hLo : OkP l) (hR : runP (look K) l false 0 [] = R) :
    Calls Try.prog 10 #[.slice ak K.length ck, .slice al l.length cl] w (RanR w R) := by
  have henter := enters_of Try.func23 (by kernel_rfl) rfl
  have hmf : ∀ (fn : Fn) (first cap : Array Value) (w : World), (Instr.makeFunc fn first cap).run Try.prog w = .ok (.func fn first cap) w := fun _ _ _ _ => rfl
  have M0 : More w (w.alloc (.cells #[.slice al l.length cl] 23)) := (More.refl w).alloc _
  have hb := heap_new w (.cells #[.slice al l.length cl] 23)
  have hsz : w.heap.size < (w.alloc (.cells #[.slice al l.length cl] 23)).heap.size := by simp
  have hK1 := hK.more M0
  have hL1 := hL.more M0
  have RUN := Lib.hid (runs_ok ak ck K R (w.alloc (.cells #[.slice al l.length cl] 23)) hK1 hk hKo 23 #[.pointer (some ⟨w.heap.size, 0, none⟩)] (fun _ => False) (fun _ _ => True) henter (fun _ q => q.elim) (fun _ _ _ _ _ => trivial)
    (fun W F p m v n => clo_runs F p w.heap.size (look K) al cl l R W v (m.block hb) (hL1.more m) hl (fun h0 k hk hf => by
      have := ins_lt hL h0 k hk; have := n k hf; omega) hLo (okK_look hKo) hR))
  have HM := Lib.hid M0
  clear M0 hb hK1 hL1 hK hL hR
  go_enter Try.func10, Try.ntmps10
  go_wp2_with fail
  refine RUN.out.mono ?_
  intro e w' he
  have FIN := Lib.hid (ranR_of HM.out he)
  cases R with
  | need a =>
    obtain ⟨rfl, _⟩ := he
    go_wp2_with fail
    go_ret2
    exact FIN.out
  | done D =>
    obtain ⟨v, p, rfl, _⟩ := he
    go_wp2_with fail
    go_ret2
    exact FIN.out
end Go.Proofs.Ytjoeminkdafmaaa
