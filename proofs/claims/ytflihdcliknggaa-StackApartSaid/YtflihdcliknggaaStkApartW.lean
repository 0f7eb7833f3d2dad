/-
  Layer 12's statement that a stack's calls change no words but its own: the program.
-/
import Derived.Test.YtflihdcliknggaaStkLives
namespace Go.Proofs.Ytflihdcliknggaa
open Go.RowKit Go.Sort Go.Maps Go.Shelf
set_option linter.unusedVariables false
set_option linter.unusedSimpArgs false

/-- The place of the n-th stack of three. -/
def stBase (n : Int) : Int := wrap64 (1 + wrap64 (wrap64 ((IntKind.u64.wrap n).tmod 3) * 5))
theorem stBase_b (n : Int) : stBase n = 1 ∨ stBase n = 6 ∨ stBase n = 11 := by
  unfold stBase
  have h : 0 ≤ IntKind.u64.wrap n := by rw [IntKind.wrap_u64]; omega
  rw [Int.tmod_eq_emod_of_nonneg h]
  generalize IntKind.u64.wrap n = m
  have h3 : m % 3 = 0 ∨ m % 3 = 1 ∨ m % 3 = 2 := by omega
  rcases h3 with e | e | e <;> rw [e] <;> simp [wrap64]
theorem stBase_in (n : Int) : StIn (stBase n) 4 16 := by
  have := stBase_b n
  exact ⟨by omega, by omega, by omega, by omega⟩
set_option maxRecDepth 100000 in
theorem st_base (n : Int) (w : World) : Calls Try.prog 15 #[.int .i64 n] w (Gives w (.int .i64 (stBase n))) := by
  have M := Lib.hid (More.refl w)
  go_enter Try.func15, Try.ntmps15
  go_wp2_with fail
  go_ret
  exact ⟨rfl, M.out⟩

def apartP (k b x : Int) : Prg Unit := if k = 2 then bindP (stPopP b 4) fun _ => pureP () else bindP (stPushP b 4 x) fun _ => pureP ()
theorem sound_apart (k b x : Int) : Sound (apartP k b x) := sound_ite (sound_bind (sound_stPop _ _) fun _ => sound_pure _) (sound_bind (sound_stPush _ _ _) fun _ => sound_pure _)
theorem good_apart {k b x : Int} {n : Nat} (H : StIn b 4 n) (hx : W64 x) : Good n (fun _ => True) (apartP k b x) := by
  unfold apartP
  split
  · exact good_bind (good_stPop H) fun _ _ => good_pure n trivial
  · exact good_bind (good_stPush H hx) fun _ _ => good_pure n trivial
/-- The words behind it: what is not the stack's stays. -/
theorem apart_flat {k b x : Int} {zs : List Int} (H : StIn b 4 zs.length) (hx : W64 x) (hz : OkW zs) : ∃ D, apartP k b x (allK zs) [] = .ok () D ∧ InvD zs.length D ∧ ∀ i : Int, 0 ≤ i → (i < b ∨ b + 4 < i) → wAt (applyD zs D) i = wAt zs i := by
  unfold apartP
  split
  · obtain ⟨D, e, a, i⟩ := flat_stPop H zs [] rfl hz (invD_nil _)
    refine ⟨D, by rw [bindP_ok e]; rfl, i, fun j h0 h1 => ?_⟩
    rw [a]
    exact (pop_off H rfl).2 j h0 h1
  · obtain ⟨D, e, a, i⟩ := flat_stPush H hx zs [] rfl hz (invD_nil _)
    refine ⟨D, by rw [bindP_ok e]; rfl, i, fun j h0 h1 => ?_⟩
    rw [a]
    exact (push_off H rfl).2 j h0 h1

structure ApB (g1 g2 : Nat) (k bb x b : Int) (w : World) : Prop where
  h1 : w.heap[g1]? = some (.cells #[.int .i64 k, .int .i64 bb, .int .i64 x] 40 (0, 0))
  h2 : BoxN g2 w b
theorem ApB.keep {g1 g2 : Nat} {k bb x b : Int} {w w' : World} {S : Nat → Prop} (h : ApB g1 g2 k bb x b w) (t : Turned S w w') (n1 : ¬ S g1) (n2 : ¬ S g2) : ApB g1 g2 k bb x b w' := ⟨kept_one t h.h1 n1, kept_one t h.h2 n2⟩
theorem box3 {w : World} {g : Nat} {a b c : Int} {t : TypeId} (h : w.heap[g]? = some (.cells #[.int .i64 a, .int .i64 b, .int .i64 c] t (0, 0))) : w.cell? ⟨g, 0, none⟩ = some (.int .i64 a) ∧ w.cell? ⟨g, 1, none⟩ = some (.int .i64 b) ∧ w.cell? ⟨g, 2, none⟩ = some (.int .i64 c) := by
  refine ⟨?_, ?_, ?_⟩ <;> simp [World.cell?, h]

set_option maxRecDepth 100000 in
set_option maxHeartbeats 2000000 in
theorem apart_clo {b : Int} {n : Nat} (H : StIn b 4 n) (k bb x : Int) (hx : W64 x) (F : Nat → Prop) (p g1 g2 : Nat) (kn : Int → Option Int) (W : World) (hv : ViewAt W F p kn []) (hk : OkK kn) (hY : ApB g1 g2 k bb x b W) (n1 : ¬ F g1) (n2 : ¬ F g2) :
    Calls Try.prog 16 #[.pointer (some ⟨p, 0, none⟩), .pointer (some ⟨g1, 0, none⟩), .pointer (some ⟨g2, 0, none⟩)] W (WentY W F (fun _ => False) (fun w' => ApB g1 g2 k bb x b w') (fun _ => True) p kn (ranOf (apartP k b x kn []))) := by
  obtain ⟨Rr, hR⟩ : ∃ Rr, apartP k b x kn [] = Rr := ⟨_, rfl⟩
  rw [hR]
  have M0 : Hid (MidV W W F (fun _ => False) p kn n [] F) := Lib.hid (MidV.begin hv (invD_nil n))
  have KT : Hid (∀ wr, Turned (fun b => F b ∨ False) W wr → ApB g1 g2 k bb x b wr) := Lib.hid fun wr t => hY.keep t (by rintro (q | q); exact n1 q; exact q) (by rintro (q | q); exact n2 q; exact q)
  have NEED : Hid (∀ a' w2, Rr = .need a' → DeadAt w2 p a' → Turned (fun b => F b ∨ False) W w2 → WentY W F (fun _ => False) (fun w' => ApB g1 g2 k bb x b w') (fun _ => True) p kn (ranOf Rr) (.panicked (endOf p)) w2) := Lib.hid fun a' w2 e hd ht' => wy_need (ranOf_need e) hd ht' (KT.out _ ht')
  have DONE : Hid (∀ w2 D F', Rr = .ok () D → MidV W w2 F (fun _ => False) p kn n D F' → WentY W F (fun _ => False) (fun w' => ApB g1 g2 k bb x b w') (fun _ => True) p kn (ranOf Rr) (.returned (.tuple #[])) w2) := Lib.hid fun w2 D F' e h => wy_done h (ranOf_ok e) (KT.out _ h.turn) trivial
  obtain ⟨c0, c1, c2⟩ := box3 hY.h1
  have c3 := (box_cells hY.h2).1
  have HK := Lib.hid hk
  have HH := Lib.hid H
  have HX := Lib.hid hx
  clear hv hk hY n1 n2 H hx
  unfold apartP at hR
  by_cases k2 : k = 2
  · rw [if_pos k2] at hR
    have d0 : (k == 2) = true := by simp [k2]
    have HRr := Lib.hid hR
    clear hR k2
    go_enter Try.func16, Try.ntmps16
    go_wp2_with fail
    refine (st_Pop HH.out F p kn [] W M0.out.view HK.out M0.out.inv).mono ?_
    intro e w2 he
    rcases M0.out.step (More.refl _) HK.out (good_stPop HH.out) he with ⟨a', hE, rfl, hd', ht', _⟩ | ⟨x2, D2, F2, hE, rfl, M2, _, _, _⟩
    · exact ⟨rfl, NEED.out a' w2 (HRr.out.symm.trans (bindP_need hE)) hd' ht'⟩
    have FIN := Lib.hid (DONE.out w2 D2 F2 (HRr.out.symm.trans (bindP_ok hE)) M2)
    clear he hE M2
    go_wp2_with fail
    go_end0
    exact FIN.out
  · rw [if_neg k2] at hR
    have d0 : (k == 2) = false := by simp [k2]
    have HRr := Lib.hid hR
    clear hR k2
    go_enter Try.func16, Try.ntmps16
    go_wp2_with fail
    refine (st_Push HH.out F p kn [] x HX.out W M0.out.view HK.out M0.out.inv).mono ?_
    intro e w2 he
    rcases M0.out.step (More.refl _) HK.out (good_stPush HH.out HX.out) he with ⟨a', hE, rfl, hd', ht', _⟩ | ⟨x2, D2, F2, hE, rfl, M2, _, _, _⟩
    · exact ⟨rfl, NEED.out a' w2 (HRr.out.symm.trans (bindP_need hE)) hd' ht'⟩
    have FIN := Lib.hid (DONE.out w2 D2 F2 (HRr.out.symm.trans (bindP_ok hE)) M2)
    clear he hE M2
    go_wp2_with fail
    go_end0
    exact FIN.out

theorem apart_do {b : Int} (k bb x : Int) (hx : W64 x) (zs : List Int) (H : StIn b 4 zs.length) (hlen : zs.length ≤ 1000) (hz : OkW zs) (g1 g2 : Nat) (ad : Option Addr) (cap : Nat) (w : World) (hY : ApB g1 g2 k bb x b w) (hw : IsWords w ad zs) :
    Calls Try.prog 7 #[.slice ad zs.length cap, .func (.func 16) #[] #[.pointer (some ⟨g1, 0, none⟩), .pointer (some ⟨g2, 0, none⟩)]] w (fun e w' => ∃ v1 v2 ws, e = .returned (.tuple #[v1, v2, .int .i64 0]) ∧ ws.length = zs.length ∧ (∀ i : Int, 0 ≤ i → (i < b ∨ b + 4 < i) → wAt ws i = wAt zs i) ∧ Rw w.heap.size w' v1 ws ∧ More w w') := by
  obtain ⟨D, hD, iD, hO⟩ := apart_flat (k := k) H hx hz
  obtain ⟨K', _, hK'⟩ := doP_run (sound_apart k b x) (good_apart H hx) hz hD (zs.length + 1) [] (okKn_nil _) (by simp)
  have l1 := lt_of_heap hY.h1
  have l2 := lt_of_heap hY.h2
  have M := doX_ok ad cap zs (fun K => ranOf (apartP k b x (look K) [])) (some (applyD zs D, K')) zs.length w hw hlen hz (fine_of (good_apart H hx) hz (by omega)) (by omega) hK' 16 #[.pointer (some ⟨g1, 0, none⟩), .pointer (some ⟨g2, 0, none⟩)] (fun _ => False)
    (fun w' => ApB g1 g2 k bb x b w') (fun _ _ => True)
    (fun k q => q.elim)
    (fun w' w'' y t => y.keep t (by omega) (by omega))
    (fun b w' w'' hb y t => trivial) hY (enters_of Try.func16 (by kernel_rfl) rfl)
    (fun K hK W F p t y hv hF => apart_clo H k bb x hx F p g1 g2 (look K) W hv (okK_of hK hz) y (fun q => by have := hF _ q; omega) (fun q => by have := hF _ q; omega))
  refine M.mono ?_
  rintro e w' ⟨v1, v2, b, rfl, r1, _, t, y, _, _⟩
  exact ⟨v1, v2, _, rfl, len_apply D zs, hO, r1, t⟩
end Go.Proofs.Ytflihdcliknggaa
