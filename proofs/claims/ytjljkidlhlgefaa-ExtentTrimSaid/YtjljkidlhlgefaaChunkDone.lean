/-
  What the statements' steps tell.
-/
import Derived.Test.YtjljkidlhlgefaaChunkCnt
namespace Go.Proofs.Ytjljkidlhlgefaa
open Go.RowKit Go.Sort Go.Maps Go.Shelf
set_option linter.unusedVariables false
set_option linter.unusedSimpArgs false

def b2i (b : Bool) : Int := if b then 1 else 0
/-- A step, as a program. -/
def doneP (pg st kind k n : Int) : Prg Int :=
  if kind = 0 then bindP (turnP pg st k 1) (fun y => pureP (b2i (decide (0 < y))))
  else if kind = 1 then bindP (turnP pg st k 0) (fun y => pureP (b2i (decide (0 < y))))
  else if kind = 2 then bindP (mappedP pg st k) (fun b => pureP (b2i b))
  else if kind = 3 then bindP (coversP pg st k n) (fun b => pureP (b2i b))
  else if kind = 4 then ensureP pg st k n
  else countP pg st
theorem bind_map {α β : Type} (p : Prg α) (f : α → β) (kn : Int → Option Int) (D : List KV) : bindP p (fun x => pureP (f x)) kn D = mapR f (p kn D) := by
  unfold bindP pureP mapR
  cases p kn D <;> rfl
theorem mapR_map {α β γ : Type} (f : α → β) (g : β → γ) (R : Res α) : mapR g (mapR f R) = mapR (fun x => g (f x)) R := by cases R <;> rfl
theorem done_out {w w' : World} {F : Nat → Prop} {p : Nat} {kn : Int → Option Int} {Rb : Res Bool} {e : Ending} (he : WentV w F p kn (fun b => .bool b) Rb e w') :
    (e = .panicked (endOf p) ∧ WentV w F p kn (fun s => .int .i64 s) (mapR b2i Rb) e w') ∨ ∃ b, e = .returned (.bool b) ∧ WentV w F p kn (fun s => .int .i64 s) (mapR b2i Rb) (.returned (.int .i64 (b2i b))) w' := by
  rcases went_cases he with ⟨a, hR, rfl⟩ | ⟨b, D, hR, rfl⟩
  · exact .inl ⟨rfl, WentV.mapN _ hR he⟩
  · exact .inr ⟨b, rfl, WentV.map (val' := fun s : Int => Value.int .i64 s) b2i hR he⟩

/-- Over words. -/
def coversW (pg st x y : Int) (ws : List Int) : Bool := if thereB pg x y then coversV pg st (spanV x y) (x / 4) ws else false
def ensureW (pg st x y : Int) (ws : List Int) : Int × List Int := if thereB pg x y then ensureV pg st (spanV x y) (x / 4) 0 ws else (0, ws)
def countW (pg st : Int) (ws : List Int) : Int := countV pg st (chunksV pg).toNat 0 0 ws
def doneV (pg st kind k y : Int) (ws : List Int) : Int × List Int :=
  if kind = 0 then (b2i (decide (0 < (turnV pg st k 1 ws).1)), (turnV pg st k 1 ws).2)
  else if kind = 1 then (b2i (decide (0 < (turnV pg st k 0 ws).1)), (turnV pg st k 0 ws).2)
  else if kind = 2 then (b2i (mappedV pg st ws k), ws)
  else if kind = 3 then (b2i (coversW pg st k y ws), ws)
  else if kind = 4 then ensureW pg st k y ws
  else (countW pg st ws, ws)
section
variable {pg st : Int} {n : Nat} (H : TblIn pg st n)
include H
theorem good_covers (x y : Int) : Good n (fun _ => True) (coversP pg st x y) := by
  unfold coversP; split
  · exact good_coversN H _ _
  · exact good_pure n trivial
theorem good_ensure (x y : Int) : Good n (fun _ => True) (ensureP pg st x y) := by
  unfold ensureP; split
  · exact good_imp (good_ensureN H _ _ 0 (by omega)) (fun _ _ => trivial)
  · exact good_pure n trivial
theorem good_count : Good n (fun _ => True) (countP pg st) := good_imp (good_countN H _ _ 0 (by omega)) (fun _ _ => trivial)
theorem flat_covers (x y : Int) : Flat n (coversP pg st x y) (fun ws => (coversW pg st x y ws, ws)) := by
  unfold coversP coversW; split
  · exact flat_coversN H _ _
  · exact flat_pure n false
theorem flat_ensure (x y : Int) : Flat n (ensureP pg st x y) (ensureW pg st x y) := by
  unfold ensureP
  split
  · rename_i h
    exact flat_eq (flat_ensureN H _ _ 0) (fun ws _ => by unfold ensureW; rw [if_pos h])
  · rename_i h
    exact flat_eq (flat_pure n 0) (fun ws _ => by unfold ensureW; rw [if_neg h])
theorem flat_count : Flat n (countP pg st) (fun ws => (countW pg st ws, ws)) := flat_countN H _ _ _
theorem good_done (kind k y : Int) : Good n (fun _ => True) (doneP pg st kind k y) := by
  unfold doneP
  split
  · exact good_bind (good_turn H k 1 (by unfold W64; omega)) (fun x _ => good_pure n trivial)
  split
  · exact good_bind (good_turn H k 0 (by unfold W64; omega)) (fun x _ => good_pure n trivial)
  split
  · exact good_bind (good_mapped H k) (fun x _ => good_pure n trivial)
  split
  · exact good_bind (good_covers H k y) (fun x _ => good_pure n trivial)
  split
  · exact good_ensure H k y
  · exact good_count H
theorem flat_done (kind k y : Int) : Flat n (doneP pg st kind k y) (doneV pg st kind k y) := by
  unfold doneP
  split
  · rename_i h
    exact flat_eq (flat_bind (flat_turn H k 1 (by unfold W64; omega)) (fun x => flat_pure n (b2i (decide (0 < x))))) (fun ws _ => by unfold doneV; rw [if_pos h])
  split
  · rename_i h0 h
    exact flat_eq (flat_bind (flat_turn H k 0 (by unfold W64; omega)) (fun x => flat_pure n (b2i (decide (0 < x))))) (fun ws _ => by unfold doneV; rw [if_neg h0, if_pos h])
  split
  · rename_i h0 h1 h
    exact flat_eq (flat_bind (flat_mapped H k) (fun x => flat_pure n (b2i x))) (fun ws _ => by unfold doneV; rw [if_neg h0, if_neg h1, if_pos h])
  split
  · rename_i h0 h1 h2 h
    exact flat_eq (flat_bind (flat_covers H k y) (fun x => flat_pure n (b2i x))) (fun ws _ => by unfold doneV; rw [if_neg h0, if_neg h1, if_neg h2, if_pos h])
  split
  · rename_i h0 h1 h2 h3 h
    exact flat_eq (flat_ensure H k y) (fun ws _ => by unfold doneV; rw [if_neg h0, if_neg h1, if_neg h2, if_neg h3, if_pos h])
  · rename_i h0 h1 h2 h3 h4
    exact flat_eq (flat_count H) (fun ws _ => by unfold doneV; rw [if_neg h0, if_neg h1, if_neg h2, if_neg h3, if_neg h4])
end
theorem sound_done (pg st kind k y : Int) : Sound (doneP pg st kind k y) := by
  unfold doneP
  refine sound_ite (sound_bind (sound_turn _ _ _ _) (fun _ => sound_pure _)) (sound_ite (sound_bind (sound_turn _ _ _ _) (fun _ => sound_pure _)) (sound_ite (sound_bind (sound_mapped _ _ _) (fun _ => sound_pure _)) (sound_ite (sound_bind (sound_covers _ _ _ _) (fun _ => sound_pure _)) (sound_ite (sound_ensure _ _ _ _) (sound_count _ _)))))

/-- No word but the table's. -/
structure Off (pg st : Int) (ws ws' : List Int) : Prop where
  len : ws'.length = ws.length
  ok : OkW ws → OkW ws'
  eq : ∀ i : Int, 0 ≤ i → (∀ k, isChunk pg k = true → i ≠ tblV pg st k) → wAt ws' i = wAt ws i
theorem Off.refl (pg st : Int) (ws : List Int) : Off pg st ws ws := ⟨rfl, id, fun _ _ _ => rfl⟩
theorem Off.trans {pg st : Int} {a b c : List Int} (h : Off pg st a b) (g : Off pg st b c) : Off pg st a c := ⟨g.len.trans h.len, fun q => g.ok (h.ok q), fun i h0 hk => (g.eq i h0 hk).trans (h.eq i h0 hk)⟩
theorem off_turn {pg st : Int} {n : Nat} (H : TblIn pg st n) (k x : Int) (hx : W64 x) (ws : List Int) (hn : ws.length = n) : Off pg st ws (turnV pg st k x ws).2 := by
  refine ⟨turn_len _ _ _ _ _, turn_ok _ _ _ _ hx _, fun i h0 hk => ?_⟩
  unfold turnV
  split
  · rename_i h
    split
    · rfl
    · obtain ⟨t0, t1, t2⟩ := tbl_b H h
      show wAt (ws.set _ x) i = _
      rw [wAt_set (by omega) h0 (by omega), if_neg (hk k h)]
  · rfl
theorem off_ensure {pg st : Int} {n : Nat} (H : TblIn pg st n) (m : Nat) : ∀ (k s : Int) (ws : List Int), ws.length = n → Off pg st ws (ensureV pg st m k s ws).2 := by
  induction m with
  | zero => intro k s ws _; exact Off.refl _ _ _
  | succ m ih =>
    intro k s ws hn
    have h1 := off_turn H k 1 (by unfold W64; omega) ws hn
    exact h1.trans (ih (k + 1) _ _ (h1.len.trans hn))
theorem off_done {pg st : Int} {n : Nat} (H : TblIn pg st n) (kind k y : Int) (ws : List Int) (hn : ws.length = n) : Off pg st ws (doneV pg st kind k y ws).2 := by
  unfold doneV
  split
  · exact off_turn H k 1 (by unfold W64; omega) ws hn
  split
  · exact off_turn H k 0 (by unfold W64; omega) ws hn
  split
  · exact Off.refl _ _ _
  split
  · exact Off.refl _ _ _
  split
  · unfold ensureW; split
    · exact off_ensure H _ _ _ _ hn
    · exact Off.refl _ _ _
  · exact Off.refl _ _ _
end Go.Proofs.Ytjljkidlhlgefaa
