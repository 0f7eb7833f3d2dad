/-
  Stats and replies: how they lie, how two are compared; the landed tally's Sum and Right.
-/
import Derived.Test.YtahejbahnhohcaaDoorMdK
import Derived.Test.YtahejbahnhohcaaDoorTwo
import Derived.ChangeKeysEq
namespace Go.Proofs.YtahejbahnhohcaaDoor
open Go.RowKit Go.Sort
set_option linter.unusedVariables false
set_option linter.unusedSimpArgs false
set_option linter.unusedSectionVars false

structure Cfg where
  wk : Int
  cp : Int
  pg : Int
  st : Int
  tr : Int
  wt : Int
  ck : Int
  pr : Int
  ca : Int
  bi : Int
  ba : Int
def Cfg.Ok (c : Cfg) : Prop := CfgOk c.wk c.cp c.pg c.st c.tr c.wt c.ck c.pr c.ca c.bi c.ba
def Cfg.starts (c : Cfg) : Nat → Int := startsV c.cp c.pg c.st c.ca c.bi
/-- The cells of a layout, and of a configuration. -/
def Cfg.arr (c : Cfg) : Array Value := layArr c.wk c.cp c.pg c.st c.tr c.wt c.ck c.pr c.ca c.bi c.ba c.starts
def Cfg.cells (c : Cfg) : Array Value := #[.int .i64 c.wk, .int .i64 c.cp, .int .i64 c.pg, .int .i64 c.st, .int .i64 c.tr, .int .i64 c.wt, .int .i64 c.ck, .int .i64 c.pr, .int .i64 c.ca, .int .i64 c.bi, .int .i64 c.ba]
def Cfg.words (c : Cfg) : Int := wordsV c.cp c.pg c.st c.ca c.bi
/-- The cells of a chunk. -/
structure TS where
  bl : Int
  ak : Int
  wo : Int
  ke : Int
  op : Int
  ma : Int
  us : Int
def TS.arr (s : TS) : Array Value := #[.int .i64 s.bl, .int .i64 s.ak, .int .i64 s.wo, .int .i64 s.ke, .int .i64 s.op, .int .i64 s.ma, .int .i64 s.us]
def sumT (a b : TS) : TS := ⟨Go.RowKit.wrap64 (a.bl + b.bl), Go.RowKit.wrap64 (a.ak + b.ak), Go.RowKit.wrap64 (a.wo + b.wo), Go.RowKit.wrap64 (a.ke + b.ke), Go.RowKit.wrap64 (a.op + b.op), Go.RowKit.wrap64 (a.ma + b.ma), Go.RowKit.wrap64 (a.us + b.us)⟩
def noT : TS := ⟨0, 0, 0, 0, 0, 0, 0⟩
theorem ts_one (s : TS) : s.arr.all (·.oneCell') = true := by simp [TS.arr, Value.oneCell']
theorem ts_cells {w : World} {g : Nat} (s : TS) {t : TypeId} (h : w.heap[g]? = some (.cells s.arr t (0, 0))) :
    w.cell? ⟨g, 0, none⟩ = some (.int .i64 s.bl) ∧ w.cell? ⟨g, 1, none⟩ = some (.int .i64 s.ak) ∧ w.cell? ⟨g, 2, none⟩ = some (.int .i64 s.wo) ∧ w.cell? ⟨g, 3, none⟩ = some (.int .i64 s.ke) ∧ w.cell? ⟨g, 4, none⟩ = some (.int .i64 s.op) ∧ w.cell? ⟨g, 5, none⟩ = some (.int .i64 s.ma) ∧ w.cell? ⟨g, 6, none⟩ = some (.int .i64 s.us) := by
  simp [World.cell?, h, TS.arr]
set_option maxRecDepth 100000 in
set_option maxHeartbeats 1000000 in
theorem t_Sum (a b : TS) (w : World) : Calls Tryd.prog 74 #[.agg a.arr, .agg b.arr] w (Gives w (.agg (sumT a b).arr)) := by
  obtain ⟨w3, e3, h0, h1, h2, m3, s3⟩ := entry3 w (.cells a.arr 28) (.cells b.arr 28) (.cells #[.int .i64 0, .int .i64 0, .int .i64 0, .int .i64 0, .int .i64 0, .int .i64 0, .int .i64 0] 28)
  obtain ⟨a0, a1, a2, a3, a4, a5, a6⟩ := ts_cells a h0
  obtain ⟨b0, b1, b2, b3, b4, b5, b6⟩ := ts_cells b h1
  have H2 := Lib.hid h2
  have MM := Lib.hid m3
  clear h0 h1 h2 m3 s3
  go_enter Tryd.func74, Tryd.ntmps74
  go_wp2_with (refine wpList_store_row rfl 28 _ _ rfl (w.heap.size + 2) (sumT a b).arr rfl rfl 28 _ H2.out (by kernel_rfl) rfl (ts_one _) ?_)
  refine bodyPost_ret (v := .agg (sumT a b).arr) (results_cell_row Tryd.results74 _ _ _ 28 _ (0, 0) _ rfl (setRow_heap _ _ _ _ _ _ H2.out) Tryd.underlying28 rfl (by kernel_rfl)) rfl ⟨rfl, MM.out.setRow _ _ (by omega)⟩
def minI (x y : Int) : Int := if y < x then y else x
def maxI (x y : Int) : Int := if x < y then y else x
section
variable {P : Program} {ops : Array Oper} {rest : List Oper} {o : Oper} {a : Act} {w : World} {Q : Exit → Act → World → Prop}
theorem run_min (x : Int) (xs : List Int) (ats : Array TypeId) (ty : TypeId) (w : World) : (Builtin.min_ ats ty ((x :: xs).map (Value.int .i64)).toArray).run P w = .ok (.int .i64 (xs.foldl minI x)) w := by
  show Sem.run P ((xs.map (Value.int .i64)).foldlM Builtin.min2 (.int .i64 x)) w = _
  induction xs generalizing x with
  | nil => rfl
  | cons y xs ih =>
    rw [List.map_cons, List.foldlM_cons, Sem.run_bind]
    show Result.andThen _ _ = _
    rw [show Sem.run P (Builtin.min2 (.int .i64 x) (.int .i64 y)) w = .ok (.int .i64 (minI x y)) w from rfl]
    exact ih (minI x y)
theorem run_max (x : Int) (xs : List Int) (ats : Array TypeId) (ty : TypeId) (w : World) : (Builtin.max_ ats ty ((x :: xs).map (Value.int .i64)).toArray).run P w = .ok (.int .i64 (xs.foldl maxI x)) w := by
  show Sem.run P ((xs.map (Value.int .i64)).foldlM Builtin.max2 (.int .i64 x)) w = _
  induction xs generalizing x with
  | nil => rfl
  | cons y xs ih =>
    rw [List.map_cons, List.foldlM_cons, Sem.run_bind]
    show Result.andThen _ _ = _
    rw [show Sem.run P (Builtin.max2 (.int .i64 x) (.int .i64 y)) w = .ok (.int .i64 (maxI x y)) w from rfl]
    exact ih (maxI x y)
end
def leastT (s : TS) : Int := [s.ak, s.wo, s.ke, s.op, s.ma, s.us].foldl minI s.bl
def mostT (s : TS) : Int := [s.ak, s.wo, s.ke, s.op, s.ma, s.us].foldl maxI s.bl
theorem min_le (x y b : Int) : b ≤ minI x y ↔ b ≤ x ∧ b ≤ y := by unfold minI; split <;> omega
theorem max_le (x y b : Int) : maxI x y ≤ b ↔ x ≤ b ∧ y ≤ b := by unfold maxI; split <;> omega
theorem least_iff (s : TS) (b : Int) : b ≤ leastT s ↔ b ≤ s.bl ∧ b ≤ s.ak ∧ b ≤ s.wo ∧ b ≤ s.ke ∧ b ≤ s.op ∧ b ≤ s.ma ∧ b ≤ s.us := by
  simp only [leastT, List.foldl, min_le, and_assoc]
theorem most_iff (s : TS) (b : Int) : mostT s ≤ b ↔ s.bl ≤ b ∧ s.ak ≤ b ∧ s.wo ≤ b ∧ s.ke ≤ b ∧ s.op ≤ b ∧ s.ma ≤ b ∧ s.us ≤ b := by
  simp only [mostT, List.foldl, max_le, and_assoc]
def rightL (a : TS) : Bool := decide (0 ≤ leastT a) && (decide (maxI a.wo a.ke ≤ 35184372088832) && (decide (a.us ≤ 1099511627776) && (decide (maxI a.ak a.bl ≤ a.wo) && (decide (a.us ≤ a.ma) && (a.op == wrap64 (wrap64 (wrap64 (a.us * 32) - a.wo) - a.ke))))))
def rightR (a : TS) : Bool := !decide (leastT a < 0) && (!decide (a.wo < a.ak) && (!decide (a.wo < a.bl) && (!decide (a.ma < a.us) && (!decide (1099511627776 < a.us) && (!decide (35184372088832 < a.wo) && (!decide (35184372088832 < a.ke) && (a.op == wrap64 (wrap64 (wrap64 (32 * a.us) - a.wo) - a.ke))))))))
theorem right_eq (a : TS) : rightL a = rightR a := by
  rw [Bool.eq_iff_iff]
  simp only [rightL, rightR, Bool.and_eq_true, decide_eq_true_eq, Bool.not_eq_true', decide_eq_false_iff_not, max_le, beq_iff_eq, Int.mul_comm a.us 32]
  constructor
  · rintro ⟨h1, h2, h3, h4, h5, h6⟩; exact ⟨by omega, by omega, by omega, by omega, by omega, by omega, by omega, h6⟩
  · rintro ⟨h1, h2, h3, h4, h5, h6, h7, h8⟩; exact ⟨by omega, by omega, by omega, by omega, by omega, h8⟩
set_option maxRecDepth 100000 in
set_option maxHeartbeats 4000000 in
theorem t_Right (a : TS) (w : World) : Calls Tryd.prog 59 #[.agg a.arr] w (Gives w (.bool (rightL a))) := by
  obtain ⟨L, hL⟩ : ∃ L, leastT a = L := ⟨_, rfl⟩
  have rL : ∀ W, Sem.run Tryd.prog (Builtin.min_ #[3, 3, 3, 3, 3, 3, 3] 3 #[.int .i64 a.bl, .int .i64 a.ak, .int .i64 a.wo, .int .i64 a.ke, .int .i64 a.op, .int .i64 a.ma, .int .i64 a.us]) W = .ok (.int .i64 L) W := fun W => hL ▸ run_min a.bl [a.ak, a.wo, a.ke, a.op, a.ma, a.us] _ _ W
  obtain ⟨X, hX⟩ : ∃ X, maxI a.wo a.ke = X := ⟨_, rfl⟩
  have rX : ∀ W, Sem.run Tryd.prog (Builtin.max_ #[3, 3] 3 #[.int .i64 a.wo, .int .i64 a.ke]) W = .ok (.int .i64 X) W := fun W => hX ▸ run_max a.wo [a.ke] _ _ W
  obtain ⟨Y, hY⟩ : ∃ Y, maxI a.ak a.bl = Y := ⟨_, rfl⟩
  have rY : ∀ W, Sem.run Tryd.prog (Builtin.max_ #[3, 3] 3 #[.int .i64 a.ak, .int .i64 a.bl]) W = .ok (.int .i64 Y) W := fun W => hY ▸ run_max a.ak [a.bl] _ _ W
  unfold rightL
  rw [hL, hX, hY]
  clear hL hX hY
  obtain ⟨w1, e1, h0, m1, s1⟩ := entry1 w (.cells a.arr 28)
  obtain ⟨a0, a1, a2, a3, a4, a5, a6⟩ := ts_cells a h0
  have MM := Lib.hid m1
  clear h0 m1 s1
  by_cases h0 : 0 ≤ L
  · have d0 : decide (0 ≤ L) = true := decide_eq_true h0
    clear h0
    by_cases h1 : X ≤ 35184372088832
    · have d1 : decide (X ≤ 35184372088832) = true := decide_eq_true h1
      clear h1
      by_cases h2 : a.us ≤ 1099511627776
      · have d2 : decide (a.us ≤ 1099511627776) = true := decide_eq_true h2
        clear h2
        by_cases h3 : Y ≤ a.wo
        · have d3 : decide (Y ≤ a.wo) = true := decide_eq_true h3
          clear h3
          by_cases h4 : a.us ≤ a.ma
          · have d4 : decide (a.us ≤ a.ma) = true := decide_eq_true h4
            clear h4
            go_enter Tryd.func59, Tryd.ntmps59
            go_wp2_with fail
            go_ret
            exact ⟨by simp only [d0, d1, d2, d3, d4, Bool.true_and, Bool.not_true, Bool.not_false, Int.mul_comm 32]; rfl, MM.out⟩
          · have d4 : decide (a.us ≤ a.ma) = false := decide_eq_false h4
            clear h4
            go_enter Tryd.func59, Tryd.ntmps59
            go_wp2_with fail
            go_ret
            exact ⟨by simp only [d4, d0, d1, d2, d3, Bool.true_and, Bool.false_and, Bool.not_true, Bool.not_false]; rfl, MM.out⟩
        · have d3 : decide (Y ≤ a.wo) = false := decide_eq_false h3
          clear h3
          go_enter Tryd.func59, Tryd.ntmps59
          go_wp2_with fail
          go_ret
          exact ⟨by simp only [d3, d0, d1, d2, Bool.true_and, Bool.false_and, Bool.not_true, Bool.not_false]; rfl, MM.out⟩
      · have d2 : decide (a.us ≤ 1099511627776) = false := decide_eq_false h2
        clear h2
        go_enter Tryd.func59, Tryd.ntmps59
        go_wp2_with fail
        go_ret
        exact ⟨by simp only [d2, d0, d1, Bool.true_and, Bool.false_and, Bool.not_true, Bool.not_false]; rfl, MM.out⟩
    · have d1 : decide (X ≤ 35184372088832) = false := decide_eq_false h1
      clear h1
      go_enter Tryd.func59, Tryd.ntmps59
      go_wp2_with fail
      go_ret
      exact ⟨by simp only [d1, d0, Bool.true_and, Bool.false_and, Bool.not_true, Bool.not_false]; rfl, MM.out⟩
  · have d0 : decide (0 ≤ L) = false := decide_eq_false h0
    clear h0
    go_enter Tryd.func59, Tryd.ntmps59
    go_wp2_with fail
    go_ret
    exact ⟨by simp only [d0, Bool.true_and, Bool.false_and, Bool.not_true, Bool.not_false]; rfl, MM.out⟩
def eqT (a b : TS) : Bool := (a.bl == b.bl) && ((a.ak == b.ak) && ((a.wo == b.wo) && ((a.ke == b.ke) && ((a.op == b.op) && ((a.ma == b.ma) && (a.us == b.us))))))
theorem run_eqT (a b : TS) (d : Nat) (W : World) : (Op.equalIn (d + 1 + 1) 28 (.agg a.arr) (.agg b.arr)).run Tryd.prog W = .ok (eqT a b) W := by
  rw [run_equalIn_struct W (d + 1) _ _ _ (by kernel_rfl) (by kernel_rfl)]
  have hu : Tryd.prog.underlying 3 = some (.int .i64) := Tryd.underlying3
  have e := fun x y => run_equalIn_int (P := Tryd.prog) W d 3 .i64 .i64 x y hu
  have hf : (Tryd.prog.fieldsOf 28).toList.map (fun f => (f.name == "_", f.type, f.offset)) = [(false, 3, 0), (false, 3, 1), (false, 3, 2), (false, 3, 3), (false, 3, 4), (false, 3, 5), (false, 3, 6)] := by kernel_rfl
  have p : ∀ (xs : Array Value) (k : Nat) (v : Value), xs[k]? = some v → (part 3 xs k).run Tryd.prog W = .ok v W := fun xs k v h => run_part_plain W (by kernel_rfl) h
  have key : ∀ (f : Field) (fs : List Field) (k : Nat) (x y : Int), (f.name == "_", f.type, f.offset) = (false, 3, k) → a.arr[k]? = some (.int .i64 x) → b.arr[k]? = some (.int .i64 y) → ∀ r, (Op.eqFields (d + 1) a.arr b.arr fs).run Tryd.prog W = .ok r W → (Op.eqFields (d + 1) a.arr b.arr (f :: fs)).run Tryd.prog W = .ok ((x == y) && r) W := by
    intro f fs k x y hk hx hy r hr
    simp only [Prod.mk.injEq] at hk
    obtain ⟨h1, h2, h3⟩ := hk
    have h1' : f.name ≠ "_" := by simpa using h1
    rw [Op.eqFields, if_pos h1', h2, h3]
    simp only [Sem.run_bind, p _ _ _ hx, p _ _ _ hy, Result.andThen_ok, e]
    cases x == y
    · simp
    · simpa using hr
  generalize (Tryd.prog.fieldsOf 28).toList = fs at hf ⊢
  have hl := congrArg List.length hf
  simp only [List.length_map, List.length_cons, List.length_nil] at hl
  obtain ⟨f0, f1, f2, f3, f4, f5, f6, rfl⟩ : ∃ f0 f1 f2 f3 f4 f5 f6, fs = [f0, f1, f2, f3, f4, f5, f6] := by
    rcases fs with _ | ⟨f0, _ | ⟨f1, _ | ⟨f2, _ | ⟨f3, _ | ⟨f4, _ | ⟨f5, _ | ⟨f6, _ | ⟨f7, fs⟩⟩⟩⟩⟩⟩⟩⟩ <;> simp at hl
    exact ⟨_, _, _, _, _, _, _, rfl⟩
  simp only [List.map_cons, List.map_nil, List.cons.injEq, and_true] at hf
  obtain ⟨h0, h1, h2, h3, h4, h5, h6⟩ := hf
  unfold eqT
  refine key f0 _ 0 _ _ h0 rfl rfl _ ?_
  refine key f1 _ 1 _ _ h1 rfl rfl _ ?_
  refine key f2 _ 2 _ _ h2 rfl rfl _ ?_
  refine key f3 _ 3 _ _ h3 rfl rfl _ ?_
  refine key f4 _ 4 _ _ h4 rfl rfl _ ?_
  refine key f5 _ 5 _ _ h5 rfl rfl _ ?_
  rw [key f6 [] 6 a.us b.us h6 rfl rfl true rfl, Bool.and_true]
theorem eqT_iff (a b : TS) : eqT a b = true ↔ a = b := by
  obtain ⟨a0, a1, a2, a3, a4, a5, a6⟩ := a
  obtain ⟨b0, b1, b2, b3, b4, b5, b6⟩ := b
  simp [eqT]
/-- A reply. -/
structure RP where
  er : Int
  ad : Int
  sz : Int
  vl : Int
  st : TS
def RP.arr (r : RP) : Array Value := #[.int .i64 r.er, .int .i64 r.ad, .int .i64 r.sz, .int .i64 r.vl, .int .i64 r.st.bl, .int .i64 r.st.ak, .int .i64 r.st.wo, .int .i64 r.st.ke, .int .i64 r.st.op, .int .i64 r.st.ma, .int .i64 r.st.us]
def errR (e : Int) : RP := ⟨e, 0, 0, 0, noT⟩
/-- A call. -/
structure CL where
  kd : Int
  ad : Int
  sz : Int
  al : Int
  vl : Int
def CL.arr (c : CL) : Array Value := #[.int .i64 c.kd, .int .i64 c.ad, .int .i64 c.sz, .int .i64 c.al, .int .i64 c.vl]
def eqR (a b : RP) : Bool := (a.er == b.er) && ((a.ad == b.ad) && ((a.sz == b.sz) && ((a.vl == b.vl) && eqT a.st b.st)))
theorem eqR_iff (a b : RP) : eqR a b = true ↔ a = b := by
  obtain ⟨a0, a1, a2, a3, a4⟩ := a
  obtain ⟨b0, b1, b2, b3, b4⟩ := b
  simp [eqR, eqT_iff]
theorem rp_one (r : RP) : r.arr.all (·.oneCell') = true := by simp [RP.arr, Value.oneCell']
theorem cl_one (r : CL) : r.arr.all (·.oneCell') = true := by simp [CL.arr, Value.oneCell']
theorem run_eqR (a b : RP) (W : World) : (Op.equalIn 10000 30 (.agg a.arr) (.agg b.arr)).run Tryd.prog W = .ok (eqR a b) W := by
  rw [show (10000 : Nat) = 9999 + 1 from rfl, run_equalIn_struct W 9999 _ _ _ (by kernel_rfl) (by kernel_rfl)]
  have hu : Tryd.prog.underlying 3 = some (.int .i64) := Tryd.underlying3
  have hue : Tryd.prog.underlying 26 = some (.int .i64) := Tryd.underlying26
  have e := fun x y => run_equalIn_int (P := Tryd.prog) W 9998 3 .i64 .i64 x y hu
  have ee := fun x y => run_equalIn_int (P := Tryd.prog) W 9998 26 .i64 .i64 x y hue
  have hf : (Tryd.prog.fieldsOf 30).toList.map (fun f => (f.name == "_", f.type, f.offset)) = [(false, 26, 0), (false, 3, 1), (false, 3, 2), (false, 3, 3), (false, 28, 4)] := by kernel_rfl
  have p : ∀ (xs : Array Value) (k : Nat) (v : Value), xs[k]? = some v → (part 3 xs k).run Tryd.prog W = .ok v W := fun xs k v h => run_part_plain W (by kernel_rfl) h
  have pe : ∀ (xs : Array Value) (k : Nat) (v : Value), xs[k]? = some v → (part 26 xs k).run Tryd.prog W = .ok v W := fun xs k v h => run_part_plain W (by kernel_rfl) h
  have ps : ∀ r : RP, (part 28 r.arr 4).run Tryd.prog W = .ok (.agg r.st.arr) W := fun r => by
    have ha : (isAgg 28).run Tryd.prog W = .ok true W := by
      unfold isAgg
      rw [Sem.run_bind, run_underlying Tryd.underlying28 W]
      rfl
    have hz : (sizeOf 28).run Tryd.prog W = .ok 7 W := Tryd.sizeOf28 W
    simp only [part, Sem.run_bind, ha, Result.andThen_ok, if_true, hz]
    rfl
  have key : ∀ (T : TypeId) (f : Field) (fs : List Field) (k : Nat) (x y : Value) (t : Bool), (f.name == "_", f.type, f.offset) = (false, T, k) → (part T a.arr k).run Tryd.prog W = .ok x W → (part T b.arr k).run Tryd.prog W = .ok y W → (Op.equalIn 9999 T x y).run Tryd.prog W = .ok t W → ∀ r, (Op.eqFields 9999 a.arr b.arr fs).run Tryd.prog W = .ok r W → (Op.eqFields 9999 a.arr b.arr (f :: fs)).run Tryd.prog W = .ok (t && r) W := by
    intro T f fs k x y t hk hx hy ht r hr
    simp only [Prod.mk.injEq] at hk
    obtain ⟨h1, h2, h3⟩ := hk
    have h1' : f.name ≠ "_" := by simpa using h1
    rw [Op.eqFields, if_pos h1', h2, h3]
    simp only [Sem.run_bind, hx, hy, Result.andThen_ok, ht]
    cases t
    · simp
    · simpa using hr
  generalize (Tryd.prog.fieldsOf 30).toList = fs at hf ⊢
  have hl := congrArg List.length hf
  simp only [List.length_map, List.length_cons, List.length_nil] at hl
  obtain ⟨f0, f1, f2, f3, f4, rfl⟩ : ∃ f0 f1 f2 f3 f4, fs = [f0, f1, f2, f3, f4] := by
    rcases fs with _ | ⟨f0, _ | ⟨f1, _ | ⟨f2, _ | ⟨f3, _ | ⟨f4, _ | ⟨f5, fs⟩⟩⟩⟩⟩⟩ <;> simp at hl
    exact ⟨_, _, _, _, _, rfl⟩
  simp only [List.map_cons, List.map_nil, List.cons.injEq, and_true] at hf
  obtain ⟨h0, h1, h2, h3, h4⟩ := hf
  unfold eqR
  refine key _ f0 _ 0 _ _ _ h0 (pe _ _ _ rfl) (pe _ _ _ rfl) (ee _ _) _ ?_
  refine key _ f1 _ 1 _ _ _ h1 (p _ _ _ rfl) (p _ _ _ rfl) (e _ _) _ ?_
  refine key _ f2 _ 2 _ _ _ h2 (p _ _ _ rfl) (p _ _ _ rfl) (e _ _) _ ?_
  refine key _ f3 _ 3 _ _ _ h3 (p _ _ _ rfl) (p _ _ _ rfl) (e _ _) _ ?_
  rw [key _ f4 [] 4 _ _ _ h4 (ps a) (ps b) (run_eqT a.st b.st 9997 W) true rfl, Bool.and_true]
theorem run_binR (s t : RP) (W : World) : Sem.run Tryd.prog (binOp .eql 30 (.agg s.arr) (.agg t.arr)) W = .ok (.bool (eqR s t)) W := by
  rw [run_eql_struct, run_eqR]
  rfl
theorem wpList_eqR {ops : Array Oper} {rest : List Oper} {o : Oper} {a : Act} {w : World} {Q : Exit → Act → World → Prop} (x y : Operand) (ho : o.op = .binOp .eql 30 x y 30) (hw : Region.wanted o (yielded ops a.tmps) = true) (s t : RP) (hx : a.eval x = .agg s.arr) (hy : a.eval y = .agg t.arr)
    (h : wpList Tryd.prog ops Q rest (a.put o.dst (.bool (eqR s t))) w) : wpList Tryd.prog ops Q (o :: rest) a w :=
  wpList_wanted hw fun K hK => by
    have hg : Sem.run Tryd.prog (eqGuard .eql 30 x y (.agg s.arr) (.agg t.arr)) w = .ok () w := run_eqGuard_agg w .eql 30 x y s.arr t.arr (by kernel_rfl)
    unfold Oper.wp execOp
    simp only [ho, hx, hy, Sem.run_bind, hg, run_binR, Result.andThen_ok]
    exact hK _ _ h
theorem wpQuiet_eqR {ops : Array Oper} {rest : List Oper} {o : Oper} {a : Act} {C : World → Prop} {Q : Act → Prop} (x y : Operand) (ho : o.op = .binOp .eql 30 x y 30) (hw : Region.wanted o (yielded ops a.tmps) = true) (s t : RP) (hx : a.eval x = .agg s.arr) (hy : a.eval y = .agg t.arr)
    (h : wpQuiet Tryd.prog ops C Q rest (a.put o.dst (.bool (eqR s t)))) : wpQuiet Tryd.prog ops C Q (o :: rest) a := by
  refine wpQuiet_do (.bool (eqR s t)) hw (fun W hW => ?_) h
  have hg : Sem.run Tryd.prog (eqGuard .eql 30 x y (.agg s.arr) (.agg t.arr)) W = .ok () W := run_eqGuard_agg W .eql 30 x y s.arr t.arr (by kernel_rfl)
  unfold Oper.quietAt execOp
  simp only [ho, hx, hy, Sem.run_bind, hg, run_binR, Result.andThen_ok]
  exact ⟨rfl, rfl⟩
end Go.Proofs.YtahejbahnhohcaaDoor
