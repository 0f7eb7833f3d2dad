/-
  The landed package view: Read and Write, of a view that stands.
-/
import Derived.Test.YtonenkgjlmcfkaaView
import Derived.Outline
import Derived.WalkSmall
import Derived.WalkLawsBesides
namespace Go.Proofs.Ytonenkgjlmcfkaa
open Go.RowKit Go.Sort Go.Maps
set_option linter.unusedVariables false
set_option linter.unusedSimpArgs false

set_option maxHeartbeats 1000000 in
theorem read_low (F : Nat → Prop) (p : Nat) (kn : Int → Option Int) (D : List KV) (a : Int) (w : World) (h : ViewAt w F p kn D) (ha : a < 0) :
    Calls Try.prog 66 #[.pointer (some ⟨p, 0, none⟩), .int .i64 a] w fun e w' => e = .returned (.int .i64 0) ∧ ∃ n, w' = w.drewN n := by
  obtain ⟨M, q, n, F0, hp, hk, hm, _⟩ := h.ex
  obtain ⟨c0, _⟩ := view_cells hp
  have S := Lib.hid (stands_yes p w c0)
  have d : decide (a < 0) = true := by simp; omega
  have E : ∃ n, w = w.drewN n := ⟨0, rfl⟩
  clear h hp hk hm c0 ha
  go_enter Try.func66, Try.ntmps66
  go_wp2_with (go_at_call 75; refine S.out.mono ?_; rintro e w' ⟨rfl, rfl⟩)
  go_ret
  exact ⟨rfl, 0, rfl⟩
set_option maxHeartbeats 1000000 in
theorem read_wrote (F : Nat → Prop) (p : Nat) (kn : Int → Option Int) (D : List KV) (a y : Int) (w : World) (h : ViewAt w F p kn D) (ha : 0 ≤ a) (hy : look D a = some y) :
    Calls Try.prog 66 #[.pointer (some ⟨p, 0, none⟩), .int .i64 a] w fun e w' => e = .returned (.int .i64 y) ∧ ∃ n, w' = w.drewN n := by
  obtain ⟨M, q, n, F0, hp, hk, hm, _⟩ := h.ex
  obtain ⟨c0, c1, c2, c3, _, hl⟩ := view_cells hp
  have S := Lib.hid (stands_yes p w c0)
  have G := get_ok F0 q D a w hm
  rw [hy] at G
  have G := Lib.hid G
  have d : decide (a < 0) = false := by simp; omega
  clear h hp hk hm ha c0 c1 c3
  go_enter Try.func66, Try.ntmps66
  go_wp2_with (first | (go_at_call 75; refine S.out.mono ?_; rintro e w' ⟨rfl, rfl⟩) | (go_at_call 76; refine G.out.mono ?_; rintro e w' ⟨rfl, n, rfl⟩))
  go_ret
  exact ⟨rfl, n, rfl⟩
set_option maxHeartbeats 1000000 in
theorem read_known (F : Nat → Prop) (p : Nat) (kn : Int → Option Int) (D : List KV) (a y : Int) (w : World) (h : ViewAt w F p kn D) (ha : 0 ≤ a) (hw : W64 a) (hy : look D a = none) (hk' : kn a = some y) :
    Calls Try.prog 66 #[.pointer (some ⟨p, 0, none⟩), .int .i64 a] w fun e w' => e = .returned (.int .i64 y) ∧ ∃ n, w' = w.drewN n := by
  obtain ⟨M, q, n, F0, hp, hk, hm, _⟩ := h.ex
  have S := Lib.hid (stands_yes p w (view_cells hp).1)
  have G := get_ok F0 q D a w hm
  rw [hy] at G
  have G := Lib.hid G
  have L : ∀ m, Sem.run Try.prog (Instr.lookup 64 (.map (some M)) (.int .i64 a) true) (w.drewN m) = .ok (.tuple #[.int .i64 y, .bool true]) (w.drewN m) := fun m => by
    have := (hk.more (more_drewN w m)).look hw
    rw [hk'] at this
    exact this
  have d : decide (a < 0) = false := by simp; omega
  obtain ⟨c0, c1, c2, c3, _, hl⟩ := view_cells hp
  clear h hp hk hm ha c0 c3
  go_enter Try.func66, Try.ntmps66
  go_wp2_with (first | (go_at_call 75; refine S.out.mono ?_; rintro e w' ⟨rfl, rfl⟩) | (go_at_call 76; refine G.out.mono ?_; rintro e w' ⟨rfl, n, rfl⟩))
  go_ret
  exact ⟨rfl, n, rfl⟩
/-- Read of what is there. -/
theorem read_some (F : Nat → Prop) (p : Nat) (kn : Int → Option Int) (D : List KV) (a y : Int) (w : World) (h : ViewAt w F p kn D) (hw : W64 a) (hy : wordV kn D a = some y) :
    Calls Try.prog 66 #[.pointer (some ⟨p, 0, none⟩), .int .i64 a] w fun e w' => e = .returned (.int .i64 y) ∧ ∃ n, w' = w.drewN n := by
  unfold wordV at hy
  split at hy
  · cases hy; exact read_low F p kn D a w h (by omega)
  · cases e : look D a with
    | none => rw [e] at hy; exact read_known F p kn D a y w h (by omega) hw e (by simpa using hy)
    | some v =>
      rw [e] at hy
      have : v = y := by simpa using hy
      subst this
      exact read_wrote F p kn D a v w h (by omega) e

/-- The run has ended: at a. -/
def Ended (w : World) (F : Nat → Prop) (p : Nat) (a : Int) (e : Ending) (w' : World) : Prop := e = .panicked (endOf p) ∧ DeadAt w' p a ∧ Turned F w w'
theorem ended_of {w : World} {F : Nat → Prop} {p M q : Nat} {a : Int} {n : Nat} (hp : w.heap[p]? = some (.cells (viewCells (some ⟨p, 0, none⟩) M q (-1)) 93 (0, 0))) (fp : F p) :
    DeadAt (((w.drewN n).setCell ⟨p, 0, none⟩ (.pointer none)).setCell ⟨p, 3, none⟩ (.int .i64 a)) p a ∧ Turned F w (((w.drewN n).setCell ⟨p, 0, none⟩ (.pointer none)).setCell ⟨p, 3, none⟩ (.int .i64 a)) := by
  have h1 : (w.drewN n).heap[p]? = _ := hp
  have h2 := heap_setCell (o := 0) (.pointer none) h1
  have h4 := heap_setCell (o := 3) (.int .i64 a) h2
  exact ⟨⟨M, q, by rw [h4]; simp [viewCells]⟩, turned_setCell (turned_setCell ((Turned.refl F w).drewN n) (fun _ => fp) _) (fun _ => fp) _⟩
set_option maxHeartbeats 1000000 in
/-- Read of what is needed. -/
theorem read_need (F : Nat → Prop) (p : Nat) (kn : Int → Option Int) (D : List KV) (a : Int) (w : World) (h : ViewAt w F p kn D) (hw : W64 a) (hy : wordV kn D a = none) :
    Calls Try.prog 66 #[.pointer (some ⟨p, 0, none⟩), .int .i64 a] w (Ended w F p a) := by
  obtain ⟨ha, hy, hk'⟩ := word_none hy
  obtain ⟨M, q, n, F0, hp, hk, hm, fp, _⟩ := h.ex
  have S := Lib.hid (stands_yes p w (view_cells hp).1)
  have G := get_ok F0 q D a w hm
  rw [hy] at G
  have G := Lib.hid G
  have L : ∀ m, Sem.run Try.prog (Instr.lookup 64 (.map (some M)) (.int .i64 a) true) (w.drewN m) = .ok (.tuple #[.int .i64 0, .bool false]) (w.drewN m) := fun m => by
    have := (hk.more (more_drewN w m)).look hw
    rw [hk'] at this
    exact this
  have d : decide (a < 0) = false := by simp; omega
  obtain ⟨c0, c1, c2, c3, hf, hl⟩ := view_cells hp
  have FIN : Hid (∀ n, DeadAt (((w.drewN n).setCell ⟨p, 0, none⟩ (.pointer none)).setCell ⟨p, 3, none⟩ (.int .i64 a)) p a ∧ Turned F w (((w.drewN n).setCell ⟨p, 0, none⟩ (.pointer none)).setCell ⟨p, 3, none⟩ (.int .i64 a))) := Lib.hid fun n => ended_of hp fp
  clear h hp hk hm ha
  go_enter Try.func66, Try.ntmps66
  go_wp2_with (first | (go_at_call 75; refine S.out.mono ?_; rintro e w' ⟨rfl, rfl⟩) | (go_at_call 76; refine G.out.mono ?_; rintro e w' ⟨rfl, n, rfl⟩))
  exact ⟨rfl, rfl, FIN.out n⟩

/-- The view at p stands, of what was written D; only its own blocks have turned. -/
def DidView (w : World) (F : Nat → Prop) (p : Nat) (kn : Int → Option Int) (D : List KV) (v : Value) (e : Ending) (w' : World) : Prop :=
  e = .returned v ∧ ∃ F', ViewAt w' F' p kn D ∧ Turned F w w' ∧ ∀ k, F' k → F k ∨ w.heap.size ≤ k
theorem DidView.same {w w' : World} {F : Nat → Prop} {p : Nat} {kn : Int → Option Int} {D : List KV} {v : Value} (h : ViewAt w F p kn D) (t : More w w') : DidView w F p kn D v (.returned v) w' :=
  ⟨rfl, F, h.more t, Turned.mono t (fun _ _ q => q.elim), fun k hk => .inl hk⟩
theorem did_put {w w' : World} {F F0 F1 : Nat → Prop} {p M q n : Nat} {kn : Int → Option Int} {D' : List KV} {v : Value} (hp : w.heap[p]? = some (.cells (viewCells (some ⟨p, 0, none⟩) M q (-1)) 93 (0, 0)))
    (hk : KnownAt w M n kn) (fp : F p) (f0 : ∀ k, F0 k → F k ∧ k ≠ p) (fM : ¬ F M) (hl : ∀ k, F k → k < w.heap.size) (hm : MapAt w' F1 q D') (ht : Turned F0 w w') (h1 : ∀ k, F1 k → F0 k ∨ w.heap.size ≤ k) : DidView w F p kn D' v (.returned v) w' := by
  have hlM := hk.lt
  have hlp := lt_of_heap hp
  refine ⟨rfl, fun k => F k ∨ F1 k, ⟨⟨M, q, n, F1, ?_, hk.keep ht (fun r => fM (f0 M r).1), hm, .inl fp, fun k r => ⟨.inr r, fun e => ?_⟩, fun r => ?_⟩, fun k r => ?_⟩, ht.mono (fun k _ r => (f0 k r).1), fun k r => ?_⟩
  · rw [Turned.block ht p hlp (fun r => (f0 p r).2 rfl)]; exact hp
  · subst e
    rcases h1 k r with q | q
    · exact (f0 k q).2 rfl
    · omega
  · rcases r with r | r
    · exact fM r
    · rcases h1 M r with q | q
      · exact fM (f0 M q).1
      · omega
  · rcases r with r | r
    · exact Nat.lt_of_lt_of_le (hl k r) ht.size
    · exact hm.lt k r
  · rcases r with r | r
    · exact .inl r
    · exact (h1 k r).imp (fun q => (f0 k q).1) id

set_option maxHeartbeats 1000000 in
/-- Write. -/
theorem write_ok (F : Nat → Prop) (p : Nat) (kn : Int → Option Int) (D : List KV) (a x : Int) (w : World) (h : ViewAt w F p kn D) (hs : D.length < 100000) :
    Calls Try.prog 68 #[.pointer (some ⟨p, 0, none⟩), .int .i64 a, .int .i64 x] w (DidView w F p kn (writeV D a x) (.tuple #[])) := by
  obtain ⟨M, q, n, F0, hp, hk, hm, fp, f0, fM⟩ := h.ex
  have S := Lib.hid (stands_yes p w (view_cells hp).1)
  have P := Lib.hid (put_ok F0 q D a x w hm hs)
  by_cases ha : a < 0
  · have e : writeV D a x = D := by unfold writeV; rw [if_pos ha]
    have FIN := Lib.hid (DidView.same (v := .tuple #[]) h (More.refl w))
    rw [e]
    have d : decide (0 ≤ a) = false := by simp; omega
    clear h hp hk hm e ha P
    go_enter Try.func68, Try.ntmps68
    go_wp2_with (go_at_call 75; refine S.out.mono ?_; rintro e w' ⟨rfl, rfl⟩)
    go_end0
    exact FIN.out
  · have e : writeV D a x = putD D a x := by unfold writeV; rw [if_neg ha]
    rw [e]
    have d : decide (0 ≤ a) = true := by simp; omega
    have hl := h.lt
    have FIN : Hid (∀ w' F1, MapAt w' F1 q (putD D a x) → Turned F0 w w' → (∀ k, F1 k → F0 k ∨ w.heap.size ≤ k) → DidView w F p kn (putD D a x) (.tuple #[]) (.returned (.tuple #[])) w') :=
      Lib.hid fun w' F1 m t f => did_put hp hk fp f0 fM hl m t f
    obtain ⟨c0, c1, c2, c3, hf, hlp⟩ := view_cells hp
    clear h hp hk hm e ha fp f0 fM hl
    go_enter Try.func68, Try.ntmps68
    go_wp2_with (first | (go_at_call 75; refine S.out.mono ?_; rintro e w' ⟨rfl, rfl⟩) | (go_at_call 77; refine P.out.mono ?_; rintro e w1 ⟨rfl, F1, m, t, f⟩; have M1 := Lib.hid m; have T1 := Lib.hid t; have N1 := Lib.hid f; clear m t f))
    go_end0
    exact FIN.out _ _ M1.out T1.out N1.out

/-! Views that do not stand. -/
set_option maxHeartbeats 1000000 in
theorem read_nil (a : Int) (w : World) : Calls Try.prog 66 #[.pointer none, .int .i64 a] w fun e w' => e = .returned (.int .i64 0) ∧ w' = w := by
  go_enter Try.func66, Try.ntmps66
  go_wp2_with (go_at_call 75; refine (stands_nil _).mono ?_; rintro e w' ⟨rfl, rfl⟩)
  go_ret
  exact ⟨rfl, rfl⟩
set_option maxHeartbeats 1000000 in
theorem write_nil (a x : Int) (w : World) : Calls Try.prog 68 #[.pointer none, .int .i64 a, .int .i64 x] w fun e w' => e = .returned (.tuple #[]) ∧ w' = w := by
  go_enter Try.func68, Try.ntmps68
  go_wp2_with (go_at_call 75; refine (stands_nil _).mono ?_; rintro e w' ⟨rfl, rfl⟩)
  go_end0
  exact ⟨rfl, rfl⟩
set_option maxHeartbeats 1000000 in
theorem read_dead (p : Nat) (n a : Int) (w : World) (h : DeadAt w p n) : Calls Try.prog 66 #[.pointer (some ⟨p, 0, none⟩), .int .i64 a] w fun e w' => e = .returned (.int .i64 0) ∧ w' = w := by
  obtain ⟨M, q, hp⟩ := h
  have S := Lib.hid (stands_no p w (view_cells hp).1)
  clear hp
  go_enter Try.func66, Try.ntmps66
  go_wp2_with (go_at_call 75; refine S.out.mono ?_; rintro e w' ⟨rfl, rfl⟩)
  go_ret
  exact ⟨rfl, rfl⟩
set_option maxHeartbeats 1000000 in
theorem write_dead (p : Nat) (n a x : Int) (w : World) (h : DeadAt w p n) : Calls Try.prog 68 #[.pointer (some ⟨p, 0, none⟩), .int .i64 a, .int .i64 x] w fun e w' => e = .returned (.tuple #[]) ∧ w' = w := by
  obtain ⟨M, q, hp⟩ := h
  have S := Lib.hid (stands_no p w (view_cells hp).1)
  clear hp
  go_enter Try.func68, Try.ntmps68
  go_wp2_with (go_at_call 75; refine S.out.mono ?_; rintro e w' ⟨rfl, rfl⟩)
  go_end0
  exact ⟨rfl, rfl⟩
end Go.Proofs.Ytonenkgjlmcfkaa
