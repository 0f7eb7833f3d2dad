/-
  The landed model: how it lies in memory, and its small functions.
-/
import Derived.Test.YtahejbahnhohcaaDoorMdD
namespace Go.Proofs.YtahejbahnhohcaaDoor
open Go.RowKit Go.Sort
set_option linter.unusedVariables false
set_option linter.unusedSimpArgs false

def mdArr (c : Cfg) (q g n cap : Nat) : Array Value := (c.arr.toList ++ [Value.pointer (some ⟨q, 0, none⟩), Value.slice (some ⟨g, 0, none⟩) n cap]).toArray
theorem arr_len24 (c : Cfg) : c.arr.toList.length = 24 := rfl
theorem md_lay (c : Cfg) (q g n cap : Nat) : ∀ j, j < c.arr.size → (mdArr c q g n cap)[0 + j]? = c.arr[j]? := fun j hj => by
  have hj : j < c.arr.toList.length := by simpa using hj
  rw [← Array.getElem?_toList (xs := c.arr), Nat.zero_add]
  unfold mdArr
  generalize c.arr.toList = l at hj ⊢
  rw [List.getElem?_toArray, List.getElem?_append_left hj]
theorem md_live (c : Cfg) (q g n cap : Nat) : (mdArr c q g n cap)[24]? = some (.pointer (some ⟨q, 0, none⟩)) := by
  have h := arr_len24 c
  unfold mdArr
  generalize c.arr.toList = l at h ⊢
  rw [List.getElem?_toArray, List.getElem?_append_right (by omega), h]; rfl
theorem md_words (c : Cfg) (q g n cap : Nat) : (mdArr c q g n cap)[25]? = some (.slice (some ⟨g, 0, none⟩) n cap) := by
  have h := arr_len24 c
  unfold mdArr
  generalize c.arr.toList = l at h ⊢
  rw [List.getElem?_toArray, List.getElem?_append_right (by omega), h]; rfl
theorem md_len (c : Cfg) (q g n cap : Nat) : (mdArr c q g n cap).size = 26 := by
  have h := arr_len24 c
  unfold mdArr
  generalize c.arr.toList = l at h ⊢
  simp [h]

/-- At p, in the blocks F, a model of the live blocks D and the user words ws. -/
structure MdAt (w : World) (F : Nat → Prop) (p : Nat) (c : Cfg) (D : List BKV) (ws : List Int) : Prop where
  ok : c.Ok
  bk : Bk c.us c.words D
  len : (ws.length : Int) = 32 * c.pg
  lt : ∀ k, F k → k < w.heap.size
  ex : ∃ q g cap F1, w.heap[p]? = some (.cells (mdArr c q g ws.length cap) 68 (0, 0)) ∧ BMapAt w F1 q D ∧ RowAt w 3 (ws.map (Value.int .i64)) (some ⟨g, 0, none⟩) cap ∧ F p ∧ F g ∧ g ≠ p ∧ ∀ k, F1 k → F k ∧ k ≠ p ∧ k ≠ g
theorem MdAt.keep {w w' : World} {F S : Nat → Prop} {p : Nat} {c : Cfg} {D : List BKV} {ws : List Int} (h : MdAt w F p c D ws) (ht : Turned S w w') (hs : ∀ k, F k → ¬ S k) : MdAt w' F p c D ws := by
  obtain ⟨q, g, cap, F1, hp, hb, hr, fp, fg, gp, f1⟩ := h.ex
  refine ⟨h.ok, h.bk, h.len, fun k hk => Nat.lt_of_lt_of_le (h.lt k hk) ht.size, q, g, cap, F1, ?_, hb.keep ht (fun k hk => hs k (f1 k hk).1), hr.keep ht (fun k hk => hs k (by cases hk; exact fg)), fp, fg, gp, f1⟩
  rw [Turned.block ht p (lt_of_heap hp) (hs p fp)]; exact hp
theorem MdAt.more {w w' : World} {F : Nat → Prop} {p : Nat} {c : Cfg} {D : List BKV} {ws : List Int} (h : MdAt w F p c D ws) (ht : More w w') : MdAt w' F p c D ws := h.keep ht (fun _ _ q => q)
theorem MdAt.small {w : World} {F : Nat → Prop} {p : Nat} {c : Cfg} {D : List BKV} {ws : List Int} (h : MdAt w F p c D ws) : D.length ≤ 8192 := by
  have h1 := h.bk.many; have h2 := us_b h.ok; omega

theorem noT_arr : noT.arr = #[.int .i64 0, .int .i64 0, .int .i64 0, .int .i64 0, .int .i64 0, .int .i64 0, .int .i64 0] := rfl
set_option maxRecDepth 100000 in
theorem build_err (e : Int) (W : World) : (Instr.build 30 [(0, .int .i64 e)].toArray).run Tryd.prog W = .ok (.agg (errR e).arr) W := run_build W _ _ _ (by kernel_rfl)
set_option maxRecDepth 100000 in
set_option maxHeartbeats 1000000 in
theorem md_refused (e : Int) (w : World) : Calls Tryd.prog 24 #[.int .i64 e] w (Gives w (.agg (errR e).arr)) := by
  obtain ⟨w1, e1, h1, m1, s1⟩ := entry1 w (.cells #[.int .i64 0, .int .i64 0, .int .i64 0, .int .i64 0, .int .i64 0, .int .i64 0, .int .i64 0, .int .i64 0, .int .i64 0, .int .i64 0, .int .i64 0] 30)
  have H1 := Lib.hid h1
  have MM := Lib.hid m1
  have hb := build_err e
  clear h1 m1 s1
  go_enter Tryd.func24, Tryd.ntmps24
  go_wp2_with (refine wpList_store_row rfl 30 _ _ rfl w.heap.size (errR e).arr rfl rfl 30 _ H1.out (by kernel_rfl) rfl (rp_one _) ?_)
  refine bodyPost_ret (v := .agg (errR e).arr) (results_cell_row Tryd.results24 _ _ _ 30 _ (0, 0) _ rfl (setRow_heap _ _ _ _ _ _ H1.out) Tryd.underlying30 rfl (by kernel_rfl)) rfl ⟨rfl, MM.out.setRow _ _ (by omega)⟩

theorem md_cfits (n a : Int) (hn : n ≤ 9223372036854775807) (w : World) (hs : Sizes w) : Calls Tryd.prog 38 #[.int .i64 n, .int .i64 a] w fun e w' => e = .returned (.int .i64 (fitE n a)) ∧ w' = w := by
  have HF := Lib.hid (cl_fit n a hn w hs)
  have ht : fitT n a = .tuple #[.int .i64 (fitC n a), .int .i64 (fitP n a), .int .i64 (fitS n a), .int .i64 (fitE n a)] := rfl
  rw [ht] at HF
  clear ht
  generalize fitC n a = x1 at HF
  generalize fitP n a = x2 at HF
  generalize fitS n a = x3 at HF
  generalize fitE n a = x4 at HF ⊢
  go_enter Tryd.func38, Tryd.ntmps38
  go_wp2_with fail
  refine HF.out.mono ?_
  rintro e w1 ⟨rfl, h1⟩
  obtain rfl : w = w1 := h1.symm
  go_wp2_with fail
  go_ret
  exact ⟨rfl, rfl⟩

/-- What Asks answers. -/
def askE (x : CL) : Int := if x.kd < 1 ∨ 12 < x.kd then 2 else if x.kd = 5 then fitE x.sz x.al else if x.kd = 1 ∨ x.kd = 3 ∨ x.kd = 4 then fitE x.sz 1 else 0
theorem cl_cells {w : World} {g : Nat} (s : CL) {t : TypeId} (h : w.heap[g]? = some (.cells s.arr t (0, 0))) :
    w.cell? ⟨g, 0, none⟩ = some (.int .i64 s.kd) ∧ w.cell? ⟨g, 1, none⟩ = some (.int .i64 s.ad) ∧ w.cell? ⟨g, 2, none⟩ = some (.int .i64 s.sz) ∧ w.cell? ⟨g, 3, none⟩ = some (.int .i64 s.al) ∧ w.cell? ⟨g, 4, none⟩ = some (.int .i64 s.vl) := by
  simp [World.cell?, h, CL.arr]
theorem rp_cells {w : World} {g : Nat} (s : RP) {t : TypeId} (h : w.heap[g]? = some (.cells s.arr t (0, 0))) :
    w.cell? ⟨g, 0, none⟩ = some (.int .i64 s.er) ∧ w.cell? ⟨g, 1, none⟩ = some (.int .i64 s.ad) ∧ w.cell? ⟨g, 2, none⟩ = some (.int .i64 s.sz) ∧ w.cell? ⟨g, 3, none⟩ = some (.int .i64 s.vl) := by
  simp [World.cell?, h, RP.arr]
set_option maxRecDepth 100000 in
set_option maxHeartbeats 2000000 in
theorem md_asks (x : CL) (hn : x.sz ≤ 9223372036854775807) (w : World) (hs : Sizes w) : Calls Tryd.prog 25 #[.agg x.arr] w (Gives w (.int .i64 (askE x))) := by
  obtain ⟨w1, e1, h1, m1, s1⟩ := entry1 w (.cells x.arr 25)
  obtain ⟨a0, a1, a2, a3, a4⟩ := cl_cells x h1
  have MM := Lib.hid m1
  have HF := Lib.hid (fun al => md_cfits x.sz al hn w1 (hs.more m1))
  clear h1 m1 s1 hs hn
  have hE : ∀ v, askE x = v → Hid (askE x = v) := fun v h => Lib.hid h
  by_cases c1 : x.kd < 1
  · have HE := Lib.hid (show askE x = 2 by simp [askE, c1])
    have d1 : decide (x.kd < 1) = true := by simpa using c1
    clear c1 hE
    go_enter Tryd.func25, Tryd.ntmps25
    go_wp2_with fail
    go_ret
    exact ⟨by rw [HE.out]; rfl, MM.out⟩
  have d1 : decide (x.kd < 1) = false := by simpa using c1
  by_cases c2 : 12 < x.kd
  · have HE := Lib.hid (show askE x = 2 by simp [askE, c2])
    have d2 : decide (12 < x.kd) = true := by simpa using c2
    clear c1 c2 hE
    go_enter Tryd.func25, Tryd.ntmps25
    go_wp2_with fail
    go_ret
    exact ⟨by rw [HE.out]; rfl, MM.out⟩
  have d2 : decide (12 < x.kd) = false := by simpa using c2
  by_cases c3 : x.kd = 5
  · have HE := Lib.hid (show askE x = fitE x.sz x.al by simp [askE, c3])
    have d3 : (x.kd == 5) = true := by simpa using c3
    clear c1 c2 c3 hE
    go_enter Tryd.func25, Tryd.ntmps25
    go_wp2_with fail
    refine (HF.out _).mono ?_
    rintro e w2 ⟨rfl, h2⟩
    obtain rfl : w1 = w2 := h2.symm
    go_wp2_with fail
    go_ret
    exact ⟨by rw [HE.out]; rfl, MM.out⟩
  have d3 : (x.kd == 5) = false := by simpa using c3
  have fin : ∀ b1 b3 b4 : Bool, (x.kd == 1) = b1 → (x.kd == 3) = b3 → (x.kd == 4) = b4 → (b1 || b3 || b4) = true → Hid (askE x = fitE x.sz 1) := fun b1 b3 b4 e1 e3 e4 hb => Lib.hid (by
    have : x.kd = 1 ∨ x.kd = 3 ∨ x.kd = 4 := by
      subst e1 e3 e4
      simpa [or_assoc] using hb
    simp [askE, c1, c2, c3, this])
  have fin0 : (x.kd == 1) = false → (x.kd == 3) = false → (x.kd == 4) = false → Hid (askE x = 0) := fun e1 e3 e4 => Lib.hid (by
    simp at e1 e3 e4
    simp [askE, c1, c2, c3, e1, e3, e4])
  clear c1 c2 c3 hE
  cases b1 : (x.kd == 1) <;> cases b3 : (x.kd == 3) <;> cases b4 : (x.kd == 4)
  case false.false.false =>
    have HE := fin0 b1 b3 b4
    clear fin fin0
    go_enter Tryd.func25, Tryd.ntmps25
    go_wp2_with fail
    go_ret
    exact ⟨by rw [HE.out]; rfl, MM.out⟩
  all_goals
    have HE := fin _ _ _ b1 b3 b4 rfl
    clear fin fin0
    go_enter Tryd.func25, Tryd.ntmps25
    go_wp2_with fail
    refine (HF.out _).mono ?_
    rintro e w2 ⟨rfl, h2⟩
    obtain rfl : w1 = w2 := h2.symm
    go_wp2_with fail
    go_ret
    exact ⟨by rw [HE.out]; rfl, MM.out⟩
end Go.Proofs.YtahejbahnhohcaaDoor
