/-
  What the statements' steps tell.
-/
import Derived.Test.YtonenkgjlmcfkaaChunkCnt
namespace Go.Proofs.Ytonenkgjlmcfkaa
open Go.RowKit Go.Sort Go.Maps Go.Shelf
set_option linter.unusedVariables false
set_option linter.unusedSimpArgs false

def b2i (b : Bool) : Int := if b then 1 else 0
/-- A step, as a program. -/
def doneP (pg st kind k n : Int) : Prg Int :=
  if kind = 0 then bindP (turnP pg st k 1) (fun y => pureP (b2i (decide (0 < y))))
  else if kind = 1 then bindP (turnP pg st k 0) (fun y => pureP (b2i (decide (0 < y))))
  else if kind = 2 then bindP (mappedP pg st k) (fun b => pureP (b2i b))
  else if kind = 3 then bindP (coversP pg st k n) (fun b => pureP (b2i b))
  else if kind = 4 then ensureP pg st k n
  else countP pg st
theorem bind_map {α β : Type} (p : Prg α) (f : α → β) (kn : Int → Option Int) (D : List KV) : bindP p (fun x => pureP (f x)) kn D = mapR f (p kn D) := by
  unfold bindP pureP mapR
  cases p kn D <;> rfl
theorem mapR_map {α β γ : Type} (f : α → β) (g : β → γ) (R : Res α) : mapR g (mapR f R) = mapR (fun x => g (f x)) R := by cases R <;> rfl
theorem done_out {w w' : World} {F : Nat → Prop} {p : Nat} {kn : Int → Option Int} {Rb : Res Bool} {e : Ending} (he : WentV w F p kn (fun b => .bool b) Rb e w') :
    (e = .panicked (endOf p) ∧ WentV w F p kn (fun s => .int .i64 s) (mapR b2i Rb) e w') ∨ ∃ b, e = .returned (.bool b) ∧ WentV w F p kn (fun s => .int .i64 s) (mapR b2i Rb) (.returned (.int .i64 (b2i b))) w' := by
  rcases went_cases he with ⟨a, hR, rfl⟩ | ⟨b, D, hR, rfl⟩
  · exact .inl ⟨rfl, WentV.mapN _ hR he⟩
  · exact .inr ⟨b, rfl, WentV.map (val' := fun s : Int => Value.int .i64 s) b2i hR he⟩

set_option maxRecDepth 100000 in
set_option maxHeartbeats 4000000 in
theorem c_done {c : Cfg} (R : c.Ok) {n : Nat} (H : TblIn c.pg c.st n) (hn : n ≤ 10000) (F : Nat → Prop) (p : Nat) (kn : Int → Option Int) (D : List KV) (kind k y : Int) (hx : W64 k) (w : World) (hv : ViewAt w F p kn D) (hk : OkK kn) (hD : InvD n D) :
    Calls Try.prog 11 #[.pointer (some ⟨p, 0, none⟩), .agg c.arr, .agg #[.int .i64 kind, .int .i64 k, .int .i64 y]] w (WentV w F p kn (fun s => .int .i64 s) (doneP c.pg c.st kind k y kn D)) := by
  have h0 := row_new w c.arr 28
  have mB : More (w.alloc (.cells c.arr 28)) ((w.alloc (.cells c.arr 28)).alloc (.cells #[.int .i64 kind, .int .i64 k, .int .i64 y] 41)) := (More.refl _).alloc _
  have HC := Lib.hid (mB.block h0)
  have hb := row_new (w.alloc (.cells c.arr 28)) #[.int .i64 kind, .int .i64 k, .int .i64 y] 41
  rw [World.size_alloc] at hb
  have HM := Lib.hid (((More.refl w).alloc (.cells c.arr 28)).trans mB)
  have x0 := cell_more (j := 0) hb (More.refl _) rfl
  have x1 := cell_more (j := 1) hb (More.refl _) rfl
  have x2 := cell_more (j := 2) hb (More.refl _) rfl
  have HV := Lib.hid (hv.more HM.out)
  have HK := Lib.hid hk
  have HD := Lib.hid hD
  have HX := Lib.hid hx
  have HH := Lib.hid H
  have HR := Lib.hid R
  clear hv hk hD hx H R h0 mB hb
  have hN := hn
  clear hn
  by_cases e0 : kind = 0
  · have d0 : (kind == 0) = true := by simp [e0]
    have hP : doneP c.pg c.st kind k y kn D = mapR b2i (mapR (fun y => decide (0 < y)) (turnP c.pg c.st k 1 kn D)) := by unfold doneP; rw [if_pos e0]; rw [bind_map, mapR_map]
    rw [hP]
    clear hP e0
    go_enter Try.func11, Try.ntmps11
    go_wp2_with (refine wpList_load_row rfl 28 _ rfl _ rfl 28 _ _ _ HC.out Try.underlying28 rfl (by kernel_rfl) ?_)
    refine (c_Map HR.out HH.out hN F p kn D k _ HV.out HK.out HD.out).mono ?_
    intro e w1 he
    rcases done_out (he.after HM.out) with ⟨rfl, fin⟩ | ⟨b, rfl, fin⟩
    · exact ⟨rfl, fin⟩
    · have FIN := Lib.hid fin
      clear he fin
      cases b <;> (go_wp2_with fail; go_ret; exact FIN.out)
  by_cases e1 : kind = 1
  · have d0 : (kind == 0) = false := by simp [e0]
    have d1 : (kind == 1) = true := by simp [e1]
    have hP : doneP c.pg c.st kind k y kn D = mapR b2i (mapR (fun y => decide (0 < y)) (turnP c.pg c.st k 0 kn D)) := by unfold doneP; rw [if_neg e0]; rw [if_pos e1]; rw [bind_map, mapR_map]
    rw [hP]
    clear hP e0 e1
    go_enter Try.func11, Try.ntmps11
    go_wp2_with (refine wpList_load_row rfl 28 _ rfl _ rfl 28 _ _ _ HC.out Try.underlying28 rfl (by kernel_rfl) ?_)
    refine (c_Unmap HR.out HH.out hN F p kn D k _ HV.out HK.out HD.out).mono ?_
    intro e w1 he
    rcases done_out (he.after HM.out) with ⟨rfl, fin⟩ | ⟨b, rfl, fin⟩
    · exact ⟨rfl, fin⟩
    · have FIN := Lib.hid fin
      clear he fin
      cases b <;> (go_wp2_with fail; go_ret; exact FIN.out)
  by_cases e2 : kind = 2
  · have d0 : (kind == 0) = false := by simp [e0]
    have d1 : (kind == 1) = false := by simp [e1]
    have d2 : (kind == 2) = true := by simp [e2]
    have hP : doneP c.pg c.st kind k y kn D = mapR b2i (mappedP c.pg c.st k kn D) := by unfold doneP; rw [if_neg e0]; rw [if_neg e1]; rw [if_pos e2]; rw [bind_map]
    rw [hP]
    clear hP e0 e1 e2
    go_enter Try.func11, Try.ntmps11
    go_wp2_with (refine wpList_load_row rfl 28 _ rfl _ rfl 28 _ _ _ HC.out Try.underlying28 rfl (by kernel_rfl) ?_)
    refine (c_Mapped HR.out F p kn D k _ HV.out).mono ?_
    intro e w1 he
    rcases done_out (he.after HM.out) with ⟨rfl, fin⟩ | ⟨b, rfl, fin⟩
    · exact ⟨rfl, fin⟩
    · have FIN := Lib.hid fin
      clear he fin
      cases b <;> (go_wp2_with fail; go_ret; exact FIN.out)
  by_cases e3 : kind = 3
  · have d0 : (kind == 0) = false := by simp [e0]
    have d1 : (kind == 1) = false := by simp [e1]
    have d2 : (kind == 2) = false := by simp [e2]
    have d3 : (kind == 3) = true := by simp [e3]
    have hP : doneP c.pg c.st kind k y kn D = mapR b2i (coversP c.pg c.st k y kn D) := by unfold doneP; rw [if_neg e0]; rw [if_neg e1]; rw [if_neg e2]; rw [if_pos e3]; rw [bind_map]
    rw [hP]
    clear hP e0 e1 e2 e3
    go_enter Try.func11, Try.ntmps11
    go_wp2_with (refine wpList_load_row rfl 28 _ rfl _ rfl 28 _ _ _ HC.out Try.underlying28 rfl (by kernel_rfl) ?_)
    refine (c_Covers HR.out HH.out F p kn D k y HX.out _ HV.out HK.out HD.out).mono ?_
    intro e w1 he
    rcases done_out (he.after HM.out) with ⟨rfl, fin⟩ | ⟨b, rfl, fin⟩
    · exact ⟨rfl, fin⟩
    · have FIN := Lib.hid fin
      clear he fin
      cases b <;> (go_wp2_with fail; go_ret; exact FIN.out)
  by_cases e4 : kind = 4
  · have d0 : (kind == 0) = false := by simp [e0]
    have d1 : (kind == 1) = false := by simp [e1]
    have d2 : (kind == 2) = false := by simp [e2]
    have d3 : (kind == 3) = false := by simp [e3]
    have d4 : (kind == 4) = true := by simp [e4]
    have hP : doneP c.pg c.st kind k y kn D = ensureP c.pg c.st k y kn D := by unfold doneP; rw [if_neg e0]; rw [if_neg e1]; rw [if_neg e2]; rw [if_neg e3]; rw [if_pos e4]
    rw [hP]
    clear hP e0 e1 e2 e3 e4
    go_enter Try.func11, Try.ntmps11
    go_wp2_with (refine wpList_load_row rfl 28 _ rfl _ rfl 28 _ _ _ HC.out Try.underlying28 rfl (by kernel_rfl) ?_)
    refine (c_Ensure HR.out HH.out hN F p kn D k y HX.out _ HV.out HK.out HD.out).mono ?_
    intro e w1 he
    have fin := he.after HM.out
    rcases went_cases he with ⟨a, hR, rfl⟩ | ⟨x, D', hR, rfl⟩
    · exact ⟨rfl, fin⟩
    · have FIN := Lib.hid fin
      clear he fin
      go_wp2_with fail
      go_ret
      exact FIN.out
  have d0 : (kind == 0) = false := by simp [e0]
  have d1 : (kind == 1) = false := by simp [e1]
  have d2 : (kind == 2) = false := by simp [e2]
  have d3 : (kind == 3) = false := by simp [e3]
  have d4 : (kind == 4) = false := by simp [e4]
  have hP : doneP c.pg c.st kind k y kn D = countP c.pg c.st kn D := by unfold doneP; rw [if_neg e0]; rw [if_neg e1]; rw [if_neg e2]; rw [if_neg e3]; rw [if_neg e4]
  rw [hP]
  clear hP e0 e1 e2 e3 e4
  go_enter Try.func11, Try.ntmps11
  go_wp2_with (refine wpList_load_row rfl 28 _ rfl _ rfl 28 _ _ _ HC.out Try.underlying28 rfl (by kernel_rfl) ?_)
  refine (c_Count HR.out HH.out F p kn D _ HV.out HK.out HD.out).mono ?_
  intro e w1 he
  have fin := he.after HM.out
  rcases went_cases he with ⟨a, hR, rfl⟩ | ⟨x, D', hR, rfl⟩
  · exact ⟨rfl, fin⟩
  · have FIN := Lib.hid fin
    clear he fin
    go_wp2_with fail
    go_ret
    exact FIN.out

/-- Over words. -/
def coversW (pg st x y : Int) (ws : List Int) : Bool := if thereB pg x y then coversV pg st (spanV x y) (x / 4) ws else false
def ensureW (pg st x y : Int) (ws : List Int) : Int × List Int := if thereB pg x y then ensureV pg st (spanV x y) (x / 4) 0 ws else (0, ws)
def countW (pg st : Int) (ws : List Int) : Int := countV pg st (chunksV pg).toNat 0 0 ws
def doneV (pg st kind k y : Int) (ws : List Int) : Int × List Int :=
  if kind = 0 then (b2i (decide (0 < (turnV pg st k 1 ws).1)), (turnV pg st k 1 ws).2)
  else if kind = 1 then (b2i (decide (0 < (turnV pg st k 0 ws).1)), (turnV pg st k 0 ws).2)
  else if kind = 2 then (b2i (mappedV pg st ws k), ws)
  else if kind = 3 then (b2i (coversW pg st k y ws), ws)
  else if kind = 4 then ensureW pg st k y ws
  else (countW pg st ws, ws)
section
variable {pg st : Int} {n : Nat} (H : TblIn pg st n)
include H
theorem good_covers (x y : Int) : Good n (fun _ => True) (coversP pg st x y) := by
  unfold coversP; split
  · exact good_coversN H _ _
  · exact good_pure n trivial
theorem good_ensure (x y : Int) : Good n (fun _ => True) (ensureP pg st x y) := by
  unfold ensureP; split
  · exact good_imp (good_ensureN H _ _ 0 (by omega)) (fun _ _ => trivial)
  · exact good_pure n trivial
theorem good_count : Good n (fun _ => True) (countP pg st) := good_imp (good_countN H _ _ 0 (by omega)) (fun _ _ => trivial)
theorem flat_covers (x y : Int) : Flat n (coversP pg st x y) (fun ws => (coversW pg st x y ws, ws)) := by
  unfold coversP coversW; split
  · exact flat_coversN H _ _
  · exact flat_pure n false
theorem flat_ensure (x y : Int) : Flat n (ensureP pg st x y) (ensureW pg st x y) := by
  unfold ensureP
  split
  · rename_i h
    exact flat_eq (flat_ensureN H _ _ 0) (fun ws _ => by unfold ensureW; rw [if_pos h])
  · rename_i h
    exact flat_eq (flat_pure n 0) (fun ws _ => by unfold ensureW; rw [if_neg h])
theorem flat_count : Flat n (countP pg st) (fun ws => (countW pg st ws, ws)) := flat_countN H _ _ _
theorem good_done (kind k y : Int) : Good n (fun _ => True) (doneP pg st kind k y) := by
  unfold doneP
  split
  · exact good_bind (good_turn H k 1 (by unfold W64; omega)) (fun x _ => good_pure n trivial)
  split
  · exact good_bind (good_turn H k 0 (by unfold W64; omega)) (fun x _ => good_pure n trivial)
  split
  · exact good_bind (good_mapped H k) (fun x _ => good_pure n trivial)
  split
  · exact good_bind (good_covers H k y) (fun x _ => good_pure n trivial)
  split
  · exact good_ensure H k y
  · exact good_count H
theorem flat_done (kind k y : Int) : Flat n (doneP pg st kind k y) (doneV pg st kind k y) := by
  unfold doneP
  split
  · rename_i h
    exact flat_eq (flat_bind (flat_turn H k 1 (by unfold W64; omega)) (fun x => flat_pure n (b2i (decide (0 < x))))) (fun ws _ => by unfold doneV; rw [if_pos h])
  split
  · rename_i h0 h
    exact flat_eq (flat_bind (flat_turn H k 0 (by unfold W64; omega)) (fun x => flat_pure n (b2i (decide (0 < x))))) (fun ws _ => by unfold doneV; rw [if_neg h0, if_pos h])
  split
  · rename_i h0 h1 h
    exact flat_eq (flat_bind (flat_mapped H k) (fun x => flat_pure n (b2i x))) (fun ws _ => by unfold doneV; rw [if_neg h0, if_neg h1, if_pos h])
  split
  · rename_i h0 h1 h2 h
    exact flat_eq (flat_bind (flat_covers H k y) (fun x => flat_pure n (b2i x))) (fun ws _ => by unfold doneV; rw [if_neg h0, if_neg h1, if_neg h2, if_pos h])
  split
  · rename_i h0 h1 h2 h3 h
    exact flat_eq (flat_ensure H k y) (fun ws _ => by unfold doneV; rw [if_neg h0, if_neg h1, if_neg h2, if_neg h3, if_pos h])
  · rename_i h0 h1 h2 h3 h4
    exact flat_eq (flat_count H) (fun ws _ => by unfold doneV; rw [if_neg h0, if_neg h1, if_neg h2, if_neg h3, if_neg h4])
end
theorem sound_done (pg st kind k y : Int) : Sound (doneP pg st kind k y) := by
  unfold doneP
  refine sound_ite (sound_bind (sound_turn _ _ _ _) (fun _ => sound_pure _)) (sound_ite (sound_bind (sound_turn _ _ _ _) (fun _ => sound_pure _)) (sound_ite (sound_bind (sound_mapped _ _ _) (fun _ => sound_pure _)) (sound_ite (sound_bind (sound_covers _ _ _ _) (fun _ => sound_pure _)) (sound_ite (sound_ensure _ _ _ _) (sound_count _ _)))))

/-- No word but the table's. -/
structure Off (pg st : Int) (ws ws' : List Int) : Prop where
  len : ws'.length = ws.length
  ok : OkW ws → OkW ws'
  eq : ∀ i : Int, 0 ≤ i → (∀ k, isChunk pg k = true → i ≠ tblV pg st k) → wAt ws' i = wAt ws i
theorem Off.refl (pg st : Int) (ws : List Int) : Off pg st ws ws := ⟨rfl, id, fun _ _ _ => rfl⟩
theorem Off.trans {pg st : Int} {a b c : List Int} (h : Off pg st a b) (g : Off pg st b c) : Off pg st a c := ⟨g.len.trans h.len, fun q => g.ok (h.ok q), fun i h0 hk => (g.eq i h0 hk).trans (h.eq i h0 hk)⟩
theorem off_turn {pg st : Int} {n : Nat} (H : TblIn pg st n) (k x : Int) (hx : W64 x) (ws : List Int) (hn : ws.length = n) : Off pg st ws (turnV pg st k x ws).2 := by
  refine ⟨turn_len _ _ _ _ _, turn_ok _ _ _ _ hx _, fun i h0 hk => ?_⟩
  unfold turnV
  split
  · rename_i h
    split
    · rfl
    · obtain ⟨t0, t1, t2⟩ := tbl_b H h
      show wAt (ws.set _ x) i = _
      rw [wAt_set (by omega) h0 (by omega), if_neg (hk k h)]
  · rfl
theorem off_ensure {pg st : Int} {n : Nat} (H : TblIn pg st n) (m : Nat) : ∀ (k s : Int) (ws : List Int), ws.length = n → Off pg st ws (ensureV pg st m k s ws).2 := by
  induction m with
  | zero => intro k s ws _; exact Off.refl _ _ _
  | succ m ih =>
    intro k s ws hn
    have h1 := off_turn H k 1 (by unfold W64; omega) ws hn
    exact h1.trans (ih (k + 1) _ _ (h1.len.trans hn))
theorem off_done {pg st : Int} {n : Nat} (H : TblIn pg st n) (kind k y : Int) (ws : List Int) (hn : ws.length = n) : Off pg st ws (doneV pg st kind k y ws).2 := by
  unfold doneV
  split
  · exact off_turn H k 1 (by unfold W64; omega) ws hn
  split
  · exact off_turn H k 0 (by unfold W64; omega) ws hn
  split
  · exact Off.refl _ _ _
  split
  · exact Off.refl _ _ _
  split
  · unfold ensureW; split
    · exact off_ensure H _ _ _ _ hn
    · exact Off.refl _ _ _
  · exact Off.refl _ _ _
end Go.Proofs.Ytonenkgjlmcfkaa
