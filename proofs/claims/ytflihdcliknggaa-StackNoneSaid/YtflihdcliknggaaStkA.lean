/-
  The landed package stack: where its words are.
-/
import Derived.Test.YtflihdcliknggaaStkD
import Derived.Test.YtflihdcliknggaaWentAll
import Derived.Test.YtflihdcliknggaaAnyC
namespace Go.Proofs.Ytflihdcliknggaa
open Go.RowKit Go.Sort Go.Maps Go.Shelf
set_option linter.unusedVariables false
set_option linter.unusedSimpArgs false

def stArr (b l : Int) : Array Value := #[.int .i64 b, .int .i64 l]
theorem box2 {w : World} {g : Nat} {a b : Int} {t : TypeId} (h : w.heap[g]? = some (.cells #[.int .i64 a, .int .i64 b] t (0, 0))) : w.cell? ⟨g, 0, none⟩ = some (.int .i64 a) ∧ w.cell? ⟨g, 1, none⟩ = some (.int .i64 b) := by
  refine ⟨?_, ?_⟩ <;> simp [World.cell?, h]
def stThere (b l : Int) : Bool := decide (0 < b) && decide (0 ≤ l)

set_option maxRecDepth 100000 in
theorem st_there (b l : Int) (w : World) : Calls Try.prog 34 #[.agg (stArr b l)] w (Gives w (.bool (stThere b l))) := by
  obtain ⟨w1, e1, h1, m1, s1⟩ := entry1 w (.cells (stArr b l) 52)
  obtain ⟨c0, c1⟩ := box2 h1
  have MM := Lib.hid m1
  unfold stThere
  clear h1 m1
  cases hb : decide (0 < b) with
  | true =>
    have d0 : decide (0 < b) = true := hb
    go_enter Try.func34, Try.ntmps34
    go_wp2_with fail
    go_ret
    exact ⟨rfl, MM.out⟩
  | false =>
    have d0 : decide (0 < b) = false := hb
    go_enter Try.func34, Try.ntmps34
    go_wp2_with fail
    go_ret
    exact ⟨rfl, MM.out⟩

/-- How many may be kept. -/
def stMostV (b l : Int) : Int := if stThere b l = true then min l (wrap64 (9223372036854775807 - b)) else 0
set_option maxRecDepth 100000 in
theorem st_most (b l : Int) (w : World) : Calls Try.prog 30 #[.agg (stArr b l)] w (Gives w (.int .i64 (stMostV b l))) := by
  obtain ⟨w1, e1, h1, m1, s1⟩ := entry1 w (.cells (stArr b l) 52)
  obtain ⟨c0, c1⟩ := box2 h1
  have MM := Lib.hid m1
  unfold stMostV
  have TH := Lib.hid (st_there b l w1)
  have H1 := Lib.hid h1
  clear h1 m1
  cases hb : stThere b l with
  | true =>
    rw [hb] at TH
    rw [if_pos rfl]
    clear hb
    go_enter Try.func30, Try.ntmps30
    go_wp2_with fail
    refine TH.out.mono ?_
    rintro e w2 ⟨rfl, h2⟩
    obtain ⟨d0, d1⟩ := box2 (h2.block H1.out)
    have M2 := Lib.hid (MM.out.trans h2)
    clear h2 c0 c1
    go_wp2_with fail
    go_ret
    exact ⟨rfl, M2.out⟩
  | false =>
    rw [hb] at TH
    rw [if_neg (by simp)]
    clear hb
    go_enter Try.func30, Try.ntmps30
    go_wp2_with fail
    refine TH.out.mono ?_
    rintro e w2 ⟨rfl, h2⟩
    have M2 := Lib.hid (MM.out.trans h2)
    clear h2
    go_wp2_with fail
    go_ret
    exact ⟨rfl, M2.out⟩

theorem w64_in {x : Int} (h0 : -9223372036854775808 ≤ x) (h1 : x ≤ 9223372036854775807) : wrap64 x = x := by unfold wrap64; omega
theorem stMost_in {b l : Int} {n : Nat} (H : StIn b l n) : stMostV b l = l := by
  have h1 := H.b1; have h0 := H.l0; have hh := H.hi; have ht := H.top
  unfold stMostV stThere
  rw [if_pos (by simp; omega), w64_in (by omega) (by omega)]; omega
theorem stMost_out {b l : Int} (h : stThere b l = false) : stMostV b l = 0 := by
  unfold stMostV; rw [if_neg (by simp [h])]
def stWordG (b l k : Int) : Int := if k < 0 ∨ stMostV b l ≤ k then 0 else wrap64 (wrap64 (b + 1) + k)
theorem stWord_in {b l k : Int} {n : Nat} (H : StIn b l n) : stWordG b l k = stWordV b l k := by
  have h1 := H.b1; have h0 := H.l0; have hh := H.hi; have ht := H.top
  unfold stWordG stWordV
  rw [stMost_in H]
  split
  · rfl
  · rw [w64_in (x := b + 1) (by omega) (by omega), w64_in (by omega) (by omega)]
theorem stWord_out {b l k : Int} (h : stThere b l = false) : stWordG b l k = 0 := by
  unfold stWordG; rw [stMost_out h, if_pos (by omega)]
set_option maxRecDepth 100000 in
theorem st_word (b l k : Int) (w : World) : Calls Try.prog 22 #[.agg (stArr b l), .int .i64 k] w (Gives w (.int .i64 (stWordG b l k))) := by
  obtain ⟨w1, e1, h1, m1, s1⟩ := entry1 w (.cells (stArr b l) 52)
  obtain ⟨c0, c1⟩ := box2 h1
  have MM := Lib.hid m1
  unfold stWordG
  have MO := Lib.hid (st_most b l w1)
  have H1 := Lib.hid h1
  clear h1 m1
  by_cases k0 : k < 0
  · have d0 : decide (k < 0) = true := by simp [k0]
    rw [if_pos (.inl k0)]
    clear k0
    go_enter Try.func22, Try.ntmps22
    go_wp2_with fail
    go_ret
    exact ⟨rfl, MM.out⟩
  · have d0 : decide (k < 0) = false := by simp; omega
    by_cases k1 : stMostV b l ≤ k
    · rw [if_pos (.inr k1)]
      generalize stMostV b l = mo at *
      have d1 : decide (mo ≤ k) = true := by simp [k1]
      clear k0 k1
      go_enter Try.func22, Try.ntmps22
      go_wp2_with fail
      refine MO.out.mono ?_
      rintro e w2 ⟨rfl, h2⟩
      have M2 := Lib.hid (MM.out.trans h2)
      clear h2
      go_wp2_with fail
      go_ret
      exact ⟨rfl, M2.out⟩
    · rw [if_neg (by omega)]
      generalize stMostV b l = mo at *
      have d1 : decide (mo ≤ k) = false := by simp; omega
      clear k0 k1
      go_enter Try.func22, Try.ntmps22
      go_wp2_with fail
      refine MO.out.mono ?_
      rintro e w2 ⟨rfl, h2⟩
      obtain ⟨e0, e1⟩ := box2 (h2.block H1.out)
      have M2 := Lib.hid (MM.out.trans h2)
      clear h2 c0 c1
      go_wp2_with fail
      go_ret
      exact ⟨rfl, M2.out⟩
set_option maxRecDepth 100000 in
theorem st_last (b l k : Int) (w : World) : Calls Try.prog 24 #[.agg (stArr b l), .int .i64 k] w (Gives w (.int .i64 (stWordG b l (wrap64 (k - 1))))) := by
  obtain ⟨w1, e1, h1, m1, s1⟩ := entry1 w (.cells (stArr b l) 52)
  obtain ⟨c0, c1⟩ := box2 h1
  have MM := Lib.hid m1
  clear h1 m1
  go_enter Try.func24, Try.ntmps24
  go_wp2_with fail
  refine (st_word b l _ _).mono ?_
  rintro e w2 ⟨rfl, h2⟩
  have M2 := Lib.hid (MM.out.trans h2)
  clear h2
  go_wp2_with fail
  go_ret
  exact ⟨rfl, M2.out⟩
set_option maxRecDepth 100000 in
/-- Without a stack nothing is kept. -/
theorem st_kept0 (b l : Int) (h : stThere b l = false) (v : Value) (w : World) : Calls Try.prog 26 #[.agg (stArr b l), v] w (Gives w (.int .i64 0)) := by
  obtain ⟨w1, e1, h1, m1, s1⟩ := entry1 w (.cells (stArr b l) 52)
  obtain ⟨c0, c1⟩ := box2 h1
  have MM := Lib.hid m1
  have TH := st_there b l w1
  rw [h] at TH
  have TH := Lib.hid TH
  clear h1 m1 h
  go_enter Try.func26, Try.ntmps26
  go_wp2_with fail
  refine TH.out.mono ?_
  rintro e w2 ⟨rfl, h2⟩
  have M2 := Lib.hid (MM.out.trans h2)
  clear h2
  go_wp2_with fail
  go_ret
  exact ⟨rfl, M2.out⟩
set_option maxRecDepth 100000 in
set_option maxHeartbeats 1000000 in
theorem st_kept {b l : Int} {n : Nat} (H : StIn b l n) (F : Nat → Prop) (p : Nat) (kn : Int → Option Int) (D : List KV) (w : World) (hv : ViewAt w F p kn D) (hk : OkK kn) (hD : InvD n D) :
    Calls Try.prog 26 #[.agg (stArr b l), .pointer (some ⟨p, 0, none⟩)] w (WentV w F p kn (fun x => .int .i64 x) (stKeptP b l kn D)) := by
  obtain ⟨Rr, hRr⟩ : ∃ Rr, stKeptP b l kn D = Rr := ⟨_, rfl⟩
  rw [hRr]
  obtain ⟨w1, e1, hl1, m1, s1⟩ := entry1 w (.cells (stArr b l) 52)
  obtain ⟨c0, c1⟩ := box2 hl1
  have nFl : ¬ F w.heap.size := fun q => by have := hv.lt _ q; omega
  have MM := Lib.hid m1
  have L0 := Lib.hid hl1
  have M0 : Hid (MidV w1 w1 F (fun _ => False) p kn n D F) := Lib.hid (MidV.begin (hv.more m1) hD)
  have KL : Hid (∀ wr D' F', MidV w1 wr F (fun _ => False) p kn n D' F' → wr.heap[w.heap.size]? = some (.cells (stArr b l) 52 (0, 0))) := Lib.hid fun wr D' F' h => mid_own h L0.out nFl (fun q => q)
  have NEED : Hid (∀ a w2, Rr = .need a → DeadAt w2 p a → Turned (fun b => F b ∨ False) w1 w2 → WentV w F p kn (fun x : Int => Value.int .i64 x) Rr (.panicked (endOf p)) w2) := Lib.hid fun a w2 e hd ht => mid_need MM.out (fun _ q => q.elim) e hd ht
  have DONE : Hid (∀ x w2 D' F', Rr = .ok x D' → MidV w1 w2 F (fun _ => False) p kn n D' F' → WentV w F p kn (fun x : Int => Value.int .i64 x) Rr (.returned ((fun x : Int => Value.int .i64 x) x)) w2) := Lib.hid fun x w2 D' F' e h => mid_done MM.out (fun _ q => q.elim) h e
  have h1 := H.b1; have h0 := H.l0; have hh := H.hi; have ht := H.top
  have TH := st_there b l w1
  rw [show stThere b l = true by unfold stThere; simp; omega] at TH
  have TH := Lib.hid TH
  have MO := Lib.hid (fun w' => (stMost_in H) ▸ st_most b l w')
  have HK := Lib.hid hk
  have HRr := Lib.hid hRr
  clear hl1 m1 hv hD hk nFl hRr
  go_enter Try.func26, Try.ntmps26
  go_wp2_with fail
  refine TH.out.mono ?_
  rintro e w2 ⟨rfl, h2⟩
  have M2 := Lib.hid (M0.out.more h2)
  obtain ⟨d0, d1⟩ := box2 (KL.out _ _ _ M2.out)
  clear h2 c0 c1
  go_wp2_with fail
  refine (read_any F p kn D b w2 M2.out.view (by unfold W64; omega)).mono ?_
  intro e w3 he
  rcases M2.out.step (More.refl _) HK.out (good_read n (by omega)) he with ⟨a', hE, rfl, hd', ht', _⟩ | ⟨y, D3, F3, hE, rfl, M3, hq3, _, _⟩
  · exact ⟨rfl, NEED.out a' w3 (HRr.out.symm.trans (bindP_need hE)) hd' ht'⟩
  have FIN := Lib.hid (DONE.out (stKeptV l y) w3 D3 F3 (HRr.out.symm.trans (bindP_ok hE)) M3)
  have DON := Lib.hid (fun w4 (h4 : More w3 w4) => DONE.out (stKeptV l y) w4 D3 F3 (HRr.out.symm.trans (bindP_ok hE)) (M3.more h4))
  obtain ⟨f0, f1⟩ := box2 (KL.out _ _ _ M3)
  have M3 := Lib.hid M3
  clear he hE d0 d1
  by_cases y0 : 0 ≤ y
  · have g0 : decide (0 ≤ y) = true := by simp [y0]
    by_cases y1 : y ≤ l
    · have g1 : decide (y ≤ l) = true := by simp [y1]
      rw [show stKeptV l y = y by unfold stKeptV; rw [if_pos ⟨y0, y1⟩]] at DON
      clear y0 y1 FIN
      go_wp2_with fail
      refine (MO.out _).mono ?_
      rintro e w4 ⟨rfl, h4⟩
      have D4 := Lib.hid (DON.out w4 h4)
      clear h4
      go_wp2_with fail
      go_ret
      exact D4.out
    · have g1 : decide (y ≤ l) = false := by simp; omega
      rw [show stKeptV l y = 0 by unfold stKeptV; rw [if_neg (by omega)]] at DON
      clear y0 y1 FIN
      go_wp2_with fail
      refine (MO.out _).mono ?_
      rintro e w4 ⟨rfl, h4⟩
      have D4 := Lib.hid (DON.out w4 h4)
      clear h4
      go_wp2_with fail
      go_ret
      exact D4.out
  · have g0 : decide (0 ≤ y) = false := by simp; omega
    rw [show stKeptV l y = 0 by unfold stKeptV; rw [if_neg (by omega)]] at FIN
    clear y0 DON
    go_wp2_with fail
    go_ret
    exact FIN.out
end Go.Proofs.Ytflihdcliknggaa
