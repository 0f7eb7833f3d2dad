/-
  What package chunk's functions do, as programs over words, and as plain functions.
-/
import Derived.Test.YtogfikemodaepaaGreatPrgAll
import Derived.Test.YtogfikemodaepaaGreatLayPlain
namespace Go.Proofs.YtogfikemodaepaaGreat
set_option linter.unusedVariables false
set_option linter.unusedSimpArgs false

/-- Is there such a chunk? -/
def isChunk (pg k : Int) : Bool := decide (0 ≤ k) && decide (k < chunksV pg)
theorem isChunk_iff {pg k : Int} : isChunk pg k = true ↔ 0 ≤ k ∧ k < chunksV pg := by simp [isChunk]
theorem isChunk_not {pg k : Int} : isChunk pg k = false ↔ ¬ (0 ≤ k ∧ k < chunksV pg) := by
  cases h : isChunk pg k with
  | true => simp [isChunk_iff.1 h]
  | false => simp only [true_iff]; intro q; rw [isChunk_iff.2 q] at h; cases h
theorem tbl_in {pg st k : Int} (h : isChunk pg k = true) : tblV pg st k = tableV st + k := if_pos (isChunk_iff.1 h)
theorem tbl_out {pg st k : Int} (h : isChunk pg k = false) : tblV pg st k = 0 := if_neg (isChunk_not.1 h)
def ofV (p : Int) : Int := if p < 0 then -1 else p / 4
def firstV (pg k : Int) : Int := if isChunk pg k then 4 * k else 0
def sizeV (pg k : Int) : Int := if isChunk pg k then min 4 (pg - 4 * k) else 0
def thereB (pg p n : Int) : Bool := decide (0 ≤ p) && (decide (1 ≤ n) && decide (n ≤ pg - p))
theorem there_iff {pg p n : Int} : thereB pg p n = true ↔ 0 ≤ p ∧ 1 ≤ n ∧ n ≤ pg - p := by simp [thereB]

theorem size_1 {pg k : Int} (h : isChunk pg k = true) : 1 ≤ sizeV pg k := by
  unfold sizeV
  rw [if_pos h]
  have := isChunk_iff.1 h
  unfold chunksV at *
  omega

/-! The programs. -/
def mappedP (pg st k : Int) : Prg Bool := if isChunk pg k then bindP (readP (tblV pg st k)) (fun y => pureP (decide (y = 1))) else pureP false
def turnP (pg st k x : Int) : Prg Int := if isChunk pg k then bindP (mappedP pg st k) (fun b => if b = decide (x = 1) then pureP 0 else bindP (writeP (tblV pg st k) x) (fun _ => pureP (sizeV pg k))) else pureP 0
/-- Over m chunks from k on. -/
def coversN (pg st : Int) : Nat → Int → Prg Bool
  | 0, _ => pureP true
  | m + 1, k => bindP (mappedP pg st k) (fun b => if b then coversN pg st m (k + 1) else pureP false)
def ensureN (pg st : Int) : Nat → Int → Int → Prg Int
  | 0, _, s => pureP s
  | m + 1, k, s => bindP (turnP pg st k 1) (fun x => ensureN pg st m (k + 1) (s + x))
def countN (pg st : Int) : Nat → Int → Int → Prg Int
  | 0, _, s => pureP s
  | m + 1, k, s => bindP (mappedP pg st k) (fun b => countN pg st m (k + 1) (s + if b then sizeV pg k else 0))
/-- How many chunks pages lie in. -/
def spanV (p n : Int) : Nat := ((p + n - 1) / 4 - p / 4 + 1).toNat
def coversP (pg st p n : Int) : Prg Bool := if thereB pg p n then coversN pg st (spanV p n) (p / 4) else pureP false
def ensureP (pg st p n : Int) : Prg Int := if thereB pg p n then ensureN pg st (spanV p n) (p / 4) 0 else pureP 0
def countP (pg st : Int) : Prg Int := countN pg st (chunksV pg).toNat 0 0

/-- The table's words lie among n words. -/
structure TblIn (pg st : Int) (n : Nat) : Prop where
  st1 : 1 ≤ st
  st2 : st ≤ 64
  pg1 : 1 ≤ pg
  pg2 : pg ≤ 256
  top : tableV st + chunksV pg ≤ n
section
variable {pg st : Int} {n : Nat} (H : TblIn pg st n)
include H
theorem tbl_b {k : Int} (h : isChunk pg k = true) : 4 ≤ tblV pg st k ∧ tblV pg st k < n ∧ W64 (tblV pg st k) := by
  rw [tbl_in h]
  have := isChunk_iff.1 h
  have h1 := H.st1; have h2 := H.st2; have h3 := H.top; have h4 := H.pg1; have h5 := H.pg2
  unfold chunksV at *
  unfold tableV W64 at *
  omega
theorem size_b (k : Int) : 0 ≤ sizeV pg k ∧ sizeV pg k ≤ 4 := by
  unfold sizeV
  split
  · rename_i h
    have := isChunk_iff.1 h
    have := H.pg1
    unfold chunksV at *
    omega
  · omega
theorem good_mapped (k : Int) : Good n (fun _ => True) (mappedP pg st k) := by
  unfold mappedP
  split
  · rename_i h
    exact good_bind (good_read n (tbl_b H h).2.1) (fun y _ => good_pure n trivial)
  · exact good_pure n trivial
theorem good_turn (k x : Int) (hx : W64 x) : Good n (fun y => 0 ≤ y ∧ y ≤ 4) (turnP pg st k x) := by
  unfold turnP
  split
  · rename_i h
    obtain ⟨h0, h1, h2⟩ := tbl_b H h
    refine good_bind (good_mapped H k) (fun b _ => ?_)
    split
    · exact good_pure n (by omega)
    · exact good_bind (good_write n h2 h1 hx) (fun _ _ => good_pure n (size_b H k))
  · exact good_pure n (by omega)
theorem good_coversN (m : Nat) : ∀ k, Good n (fun _ => True) (coversN pg st m k) := by
  induction m with
  | zero => intro k; exact good_pure n trivial
  | succ m ih =>
    intro k
    refine good_bind (good_mapped H k) (fun b _ => ?_)
    split
    · exact ih _
    · exact good_pure n trivial
theorem good_ensureN (m : Nat) : ∀ k s : Int, 0 ≤ s → Good n (fun y : Int => 0 ≤ y ∧ y ≤ s + 4 * m) (ensureN pg st m k s) := by
  induction m with
  | zero => intro k s h; exact good_pure n (by omega)
  | succ m ih =>
    intro k s h
    exact good_bind (good_turn H k 1 (by unfold W64; omega)) (fun x hx => good_imp (ih _ _ (by omega)) (fun y hy => by omega))
theorem good_countN (m : Nat) : ∀ k s : Int, 0 ≤ s → Good n (fun y : Int => 0 ≤ y ∧ y ≤ s + 4 * m) (countN pg st m k s) := by
  induction m with
  | zero => intro k s h; exact good_pure n (by omega)
  | succ m ih =>
    intro k s h
    have hb := size_b H k
    exact good_bind (good_mapped H k) (fun b _ => good_imp (ih (k + 1) (s + if b then sizeV pg k else 0) (by split <;> omega)) (fun y hy => by split at hy <;> omega))
end
theorem sound_mapped (pg st k : Int) : Sound (mappedP pg st k) := by
  unfold mappedP
  exact sound_ite (sound_bind (sound_read _) (fun _ => sound_pure _)) (sound_pure _)
theorem sound_turn (pg st k x : Int) : Sound (turnP pg st k x) := by
  unfold turnP
  exact sound_ite (sound_bind (sound_mapped _ _ _) (fun _ => sound_ite (sound_pure _) (sound_bind (sound_write _ _) (fun _ => sound_pure _)))) (sound_pure _)
theorem sound_coversN (pg st : Int) (m : Nat) : ∀ k, Sound (coversN pg st m k) := by
  induction m with
  | zero => intro k; exact sound_pure _
  | succ m ih => intro k; exact sound_bind (sound_mapped _ _ _) (fun b => sound_ite (ih _) (sound_pure _))
theorem sound_ensureN (pg st : Int) (m : Nat) : ∀ k s, Sound (ensureN pg st m k s) := by
  induction m with
  | zero => intro k s; exact sound_pure _
  | succ m ih => intro k s; exact sound_bind (sound_turn _ _ _ _) (fun x => ih _ _)
theorem sound_countN (pg st : Int) (m : Nat) : ∀ k s, Sound (countN pg st m k s) := by
  induction m with
  | zero => intro k s; exact sound_pure _
  | succ m ih => intro k s; exact sound_bind (sound_mapped _ _ _) (fun x => ih _ _)
theorem sound_covers (pg st p n : Int) : Sound (coversP pg st p n) := sound_ite (sound_coversN _ _ _ _) (sound_pure _)
theorem sound_ensure (pg st p n : Int) : Sound (ensureP pg st p n) := sound_ite (sound_ensureN _ _ _ _ _) (sound_pure _)
theorem sound_count (pg st : Int) : Sound (countP pg st) := sound_countN _ _ _ _ _

theorem span_b {pg p n : Int} (h : thereB pg p n = true) (h2 : pg ≤ 256) : (spanV p n : Int) = (p + n - 1) / 4 - p / 4 + 1 ∧ spanV p n ≤ 64 := by
  obtain ⟨h0, h1, h3⟩ := there_iff.1 h
  unfold spanV; omega
/-- Each of them is there. -/
theorem span_in {pg p n : Int} (h : thereB pg p n = true) (i : Nat) (hi : i < spanV p n) : isChunk pg (p / 4 + i) = true := by
  obtain ⟨h0, h1, h3⟩ := there_iff.1 h
  rw [isChunk_iff]
  unfold spanV at hi
  unfold chunksV
  omega

/-! Over words. -/
def mappedV (pg st : Int) (ws : List Int) (k : Int) : Bool := isChunk pg k && decide (wAt ws (tblV pg st k) = 1)
def turnV (pg st : Int) (k x : Int) (ws : List Int) : Int × List Int :=
  if isChunk pg k then (if mappedV pg st ws k = decide (x = 1) then (0, ws) else (sizeV pg k, ws.set (tblV pg st k).toNat x)) else (0, ws)
def coversV (pg st : Int) : Nat → Int → List Int → Bool
  | 0, _, _ => true
  | m + 1, k, ws => mappedV pg st ws k && coversV pg st m (k + 1) ws
def ensureV (pg st : Int) : Nat → Int → Int → List Int → Int × List Int
  | 0, _, s, ws => (s, ws)
  | m + 1, k, s, ws => ensureV pg st m (k + 1) (s + (turnV pg st k 1 ws).1) (turnV pg st k 1 ws).2
def countV (pg st : Int) : Nat → Int → Int → List Int → Int
  | 0, _, s, _ => s
  | m + 1, k, s, ws => countV pg st m (k + 1) (s + if mappedV pg st ws k then sizeV pg k else 0) ws
section
variable {pg st : Int} {n : Nat} (H : TblIn pg st n)
include H
theorem flat_mapped (k : Int) : Flat n (mappedP pg st k) (fun ws => (mappedV pg st ws k, ws)) := by
  unfold mappedP mappedV
  split
  · rename_i h
    obtain ⟨h0, h1, h2⟩ := tbl_b H h
    exact flat_eq (flat_bind (flat_read (by omega) h1) (fun y => flat_pure n (decide (y = 1)))) (fun ws _ => by simp [h])
  · rename_i h
    exact flat_eq (flat_pure n false) (fun ws _ => by simp [h])
theorem flat_turn (k x : Int) (hx : W64 x) : Flat n (turnP pg st k x) (turnV pg st k x) := by
  unfold turnP
  split
  · rename_i h
    obtain ⟨h0, h1, h2⟩ := tbl_b H h
    have hb : ∀ b : Bool, Flat n (if b = decide (x = 1) then pureP 0 else bindP (writeP (tblV pg st k) x) (fun _ => pureP (sizeV pg k))) (fun ws => if b = decide (x = 1) then (0, ws) else (sizeV pg k, ws.set (tblV pg st k).toNat x)) := fun b => by
      by_cases e : b = decide (x = 1)
      · rw [if_pos e]; exact flat_eq (flat_pure n 0) (fun ws _ => by rw [if_pos e])
      · rw [if_neg e]; exact flat_eq (flat_bind (flat_write (by omega) h1 h2 hx) (fun _ => flat_pure n (sizeV pg k))) (fun ws _ => by rw [if_neg e])
    exact flat_eq (flat_bind (flat_mapped H k) hb) (fun ws _ => by unfold turnV; rw [if_pos h])
  · rename_i h
    exact flat_eq (flat_pure n 0) (fun ws _ => by unfold turnV; rw [if_neg h])
theorem flat_coversN (m : Nat) : ∀ k, Flat n (coversN pg st m k) (fun ws => (coversV pg st m k ws, ws)) := by
  induction m with
  | zero => intro k; exact flat_pure n true
  | succ m ih =>
    intro k
    have hb : ∀ b : Bool, Flat n (if b then coversN pg st m (k + 1) else pureP false) (fun ws => (b && coversV pg st m (k + 1) ws, ws)) := fun b => by
      cases b with
      | true => exact ih (k + 1)
      | false => exact flat_pure n false
    exact flat_bind (flat_mapped H k) hb
theorem flat_ensureN (m : Nat) : ∀ k s, Flat n (ensureN pg st m k s) (ensureV pg st m k s) := by
  induction m with
  | zero => intro k s; exact flat_pure n s
  | succ m ih => intro k s; exact flat_bind (flat_turn H k 1 (by unfold W64; omega)) (fun x => ih (k + 1) (s + x))
theorem flat_countN (m : Nat) : ∀ k s, Flat n (countN pg st m k s) (fun ws => (countV pg st m k s ws, ws)) := by
  induction m with
  | zero => intro k s; exact flat_pure n s
  | succ m ih => intro k s; exact flat_bind (flat_mapped H k) (fun b => ih (k + 1) (s + if b then sizeV pg k else 0))
end
theorem turn_len (pg st k x : Int) (ws : List Int) : (turnV pg st k x ws).2.length = ws.length := by
  unfold turnV; split
  · split <;> simp
  · rfl
theorem turn_ok (pg st k x : Int) (hx : W64 x) (ws : List Int) (h : OkW ws) : OkW (turnV pg st k x ws).2 := by
  have hs : ∀ i, OkW (ws.set i x) := fun i y hy => by
    rcases List.mem_or_eq_of_mem_set hy with q | rfl
    · exact h y q
    · exact hx
  unfold turnV; split
  · split
    · exact h
    · exact hs _
  · exact h
end Go.Proofs.YtogfikemodaepaaGreat
