/-
  The landed package chunk: one chunk, looked at and turned.
-/
import Derived.Test.YtogfikemodaepaaGreatLayTop
import Derived.Test.YtogfikemodaepaaGreatViewDoY
import Derived.Test.YtogfikemodaepaaGreatChunkD
import Derived.Test.YtogfikemodaepaaGreatBase
namespace Go.Proofs.YtogfikemodaepaaGreat
open Go.RowKit Go.Sort Go.Maps Go.Shelf
set_option linter.unusedVariables false
set_option linter.unusedSimpArgs false

/-- A configuration. -/
structure Cfg where
  wk : Int
  cp : Int
  pg : Int
  st : Int
  tr : Int
  wt : Int
  ck : Int
  pr : Int
  ca : Int
  bi : Int
  ba : Int
def Cfg.Ok (c : Cfg) : Prop := CfgOk c.wk c.cp c.pg c.st c.tr c.wt c.ck c.pr c.ca c.bi c.ba
def Cfg.starts (c : Cfg) : Nat → Int := startsV c.cp c.pg c.st c.ca c.bi
/-- The cells of a layout, and of a configuration. -/
def Cfg.arr (c : Cfg) : Array Value := layArr c.wk c.cp c.pg c.st c.tr c.wt c.ck c.pr c.ca c.bi c.ba c.starts
def Cfg.cells (c : Cfg) : Array Value := #[.int .i64 c.wk, .int .i64 c.cp, .int .i64 c.pg, .int .i64 c.st, .int .i64 c.tr, .int .i64 c.wt, .int .i64 c.ck, .int .i64 c.pr, .int .i64 c.ca, .int .i64 c.bi, .int .i64 c.ba]
def Cfg.words (c : Cfg) : Int := wordsV c.cp c.pg c.st c.ca c.bi
/-- The cells of a chunk. -/
def chkArr (c : Cfg) (k : Int) : Array Value := c.arr.push (.int .i64 k)

theorem y_table {c : Cfg} (R : c.Ok) (w : World) (k : Int) : Calls Tryz.prog 105 #[.agg c.arr, .int .i64 k] w (Gives w (.int .i64 (tblV c.pg c.st k))) := xtable R w k
theorem y_config {c : Cfg} (R : c.Ok) (w : World) : Calls Tryz.prog 58 #[.agg c.arr] w (Gives w (.agg #[.int .i64 c.wk, .int .i64 c.cp, .int .i64 c.pg, .int .i64 c.st, .int .i64 c.tr, .int .i64 c.wt, .int .i64 c.ck, .int .i64 c.pr, .int .i64 c.ca, .int .i64 c.bi, .int .i64 c.ba])) := xconfig R w
theorem y_words {c : Cfg} (R : c.Ok) (w : World) : Calls Tryz.prog 13 #[.agg c.arr] w (Gives w (.int .i64 c.words)) := xwords R w
theorem y_chunks {c : Cfg} (R : c.Ok) (w : World) : Calls Tryz.prog 54 #[.agg c.arr] w (Gives w (.int .i64 (chunksV c.pg))) := xchunks R w
theorem field_pages (c : Cfg) (W : World) : (Instr.field 23 (.agg #[.int .i64 c.wk, .int .i64 c.cp, .int .i64 c.pg, .int .i64 c.st, .int .i64 c.tr, .int .i64 c.wt, .int .i64 c.ck, .int .i64 c.pr, .int .i64 c.ca, .int .i64 c.bi, .int .i64 c.ba]) 2).run Tryz.prog W = .ok (.int .i64 c.pg) W := by kernel_rfl
theorem build_chunk (c : Cfg) (k : Int) (W : World) : (Instr.build 98 #[(0, .agg c.arr), (1, .int .i64 k)]).run Tryz.prog W = .ok (.agg (chkArr c k)) W := run_build W _ _ _ (by kernel_rfl)
theorem chk_last (c : Cfg) (k : Int) : (chkArr c k)[24]? = some (.int .i64 k) := by rfl
theorem chk_part (c : Cfg) (k : Int) : ∀ j, j < 24 → (chkArr c k)[j]? = c.arr[j]? := fun j hj => by
  unfold chkArr
  rw [Array.getElem?_push, if_neg (by show j ≠ 24; omega)]

/-- A load of a struct that lies at the beginning of a greater one. -/
theorem run_loadVar_head {P : Program} (w : World) (g : Nat) (t ty : TypeId) (cs hs : Array Value) (fr : Nat × Nat) (d : TypeDesc) (hg : w.heap[g]? = some (.cells cs t fr)) (hc : ∀ j, j < hs.size → cs[j]? = hs[j]?)
    (hu : P.underlying ty = some d) (hd : (match d with | .struct _ | .array _ _ => true | _ => false) = true) (hi : (P.info? ty).map (·.size) = some hs.size) :
    (loadVar ty ⟨g, 0, none⟩).run P w = .ok (.agg hs) w := by
  have hl : (loadCells ⟨g, 0, none⟩ hs.toList.length).run P w = .ok hs.toList.toArray w :=
    run_loadCells_list (P := P) w ⟨g, 0, none⟩ hs.toList (fun j v hv => by
      have hj : j < hs.size := by have := (List.getElem?_eq_some_iff.1 hv).1; simpa using this
      rw [addr_add, Nat.zero_add, cell_of_row w g j cs t fr hg, hc j hj]
      simpa using hv)
  cases hq : P.info? ty with
  | none => simp [hq] at hi
  | some i =>
    have hs : i.size = hs.size := by simpa [hq] using hi
    have hagg : (isAgg ty).run P w = .ok true w := by
      unfold isAgg
      rw [Sem.run_bind, run_underlying hu w]
      cases d <;> simp_all
    simp only [Array.length_toList, Array.toArray_toList] at hl
    simp [loadVar, Sem.run_bind, hagg, sizeOf, typeInfo, hq, hs, hl]
theorem wpList_load_head {P : Program} {ops : Array Oper} {rest : List Oper} {o : Oper} {a : Act} {w : World} {Q : Exit → Act → World → Prop} (hw : Region.wanted o (yielded ops a.tmps) = true) (ty : TypeId) (x : Operand) (ho : o.op = .load ty x)
    (g : Nat) (hx : a.eval x = .pointer (some ⟨g, 0, none⟩)) (t : TypeId) (cs hs : Array Value) (fr : Nat × Nat) (d : TypeDesc) (hg : w.heap[g]? = some (.cells cs t fr)) (hc : ∀ j, j < hs.size → cs[j]? = hs[j]?)
    (hu : P.underlying ty = some d) (hd : (match d with | .struct _ | .array _ _ => true | _ => false) = true) (hi : (P.info? ty).map (·.size) = some hs.size)
    (h : wpList P ops Q rest (a.put o.dst (.agg hs)) w) : wpList P ops Q (o :: rest) a w :=
  wpList_wanted hw fun K hK => by
    unfold Oper.wp Oper.upon execOp
    simp only [ho, hx, Instr.loadAt, Instr.sureAddr, Sem.run_bind, Sem.run_pure, Result.andThen_ok, run_loadVar_head w g t ty cs hs fr d hg hc hu hd hi]
    exact hK _ _ h

theorem c_of (p : Int) (h0 : -9223372036854775808 ≤ p) (h1 : p ≤ 9223372036854775807) (w : World) : Calls Tryz.prog 42 #[.int .i64 p] w fun e w' => e = .returned (.int .i64 (ofV p)) ∧ w' = w := by
  by_cases c : p < 0
  · rw [show ofV p = -1 from if_pos c]
    go_enter Tryz.func42, Tryz.ntmps42
    go_wp2_with fail
    go_ret
    exact ⟨rfl, rfl⟩
  · rw [show ofV p = p / 4 from if_neg c]
    have q2 : IntKind.i64.wrap (p.tdiv 4) = p / 4 := by rw [Int.tdiv_eq_ediv_of_nonneg (by omega)]; exact wrap_in (by omega) (by omega)
    have d0 : decide (p < 0) = false := by simp; omega
    go_enter Tryz.func42, Tryz.ntmps42
    go_wp2_with fail
    go_ret
    exact ⟨rfl, rfl⟩

theorem c_word {c : Cfg} (R : c.Ok) (k : Int) (w : World) : Calls Tryz.prog 94 #[.agg (chkArr c k)] w (Gives w (.int .i64 (tblV c.pg c.st k))) := by
  have HC := Lib.hid (row_new w (chkArr c k) 98)
  have x24 := cell_more HC.out (More.refl _) (chk_last c k)
  have HM : Hid (More w (w.alloc (.cells (chkArr c k) 98))) := (More.refl w).alloc _
  go_enter Tryz.func94, Tryz.ntmps94
  go_wp2_with (refine wpList_load_head rfl 28 _ rfl _ rfl 98 _ c.arr _ _ HC.out (chk_part c k) Tryz.underlying28 rfl (by kernel_rfl) ?_)
  refine (y_table R _ k).mono ?_
  rintro e w1 ⟨rfl, h1⟩
  go_wp2_with fail
  go_ret
  exact ⟨rfl, HM.out.trans h1⟩
theorem tbl_zero {c : Cfg} (R : c.Ok) (k : Int) : (tblV c.pg c.st k == 0) = !isChunk c.pg k := by
  have h1 := R.st1
  cases h : isChunk c.pg k with
  | true =>
    rw [tbl_in h]
    have := isChunk_iff.1 h
    unfold tableV
    simp; omega
  | false => rw [tbl_out h]; rfl
theorem c_none {c : Cfg} (R : c.Ok) (k : Int) (w : World) : Calls Tryz.prog 93 #[.agg (chkArr c k)] w (Gives w (.bool (!isChunk c.pg k))) := by
  have HC := Lib.hid (row_new w (chkArr c k) 98)
  have HM : Hid (More w (w.alloc (.cells (chkArr c k) 98))) := (More.refl w).alloc _
  have b0 := tbl_zero R k
  go_enter Tryz.func93, Tryz.ntmps93
  go_wp2_with (refine wpList_load_row rfl 98 _ rfl _ rfl 98 _ _ _ HC.out Tryz.underlying98 rfl (by kernel_rfl) ?_)
  refine (c_word R k _).mono ?_
  rintro e w1 ⟨rfl, h1⟩
  go_wp2_with fail
  go_ret
  exact ⟨rfl, HM.out.trans h1⟩

set_option maxRecDepth 100000 in
set_option maxHeartbeats 2000000 in
theorem c_pages {c : Cfg} (R : c.Ok) (k : Int) (w : World) : Calls Tryz.prog 81 #[.agg (chkArr c k)] w (Gives w (.tuple #[.int .i64 (firstV c.pg k), .int .i64 (sizeV c.pg k)])) := by
  have HC := Lib.hid (row_new w (chkArr c k) 98)
  have HM : Hid (More w (w.alloc (.cells (chkArr c k) 98))) := (More.refl w).alloc _
  cases h : isChunk c.pg k with
  | false =>
    rw [show firstV c.pg k = 0 by unfold firstV; rw [h]; rfl, show sizeV c.pg k = 0 by unfold sizeV; rw [h]; rfl]
    go_enter Tryz.func81, Tryz.ntmps81
    go_wp2_with (refine wpList_load_row rfl 98 _ rfl _ rfl 98 _ _ _ HC.out Tryz.underlying98 rfl (by kernel_rfl) ?_)
    refine (c_none R k _).mono ?_
    rw [h]
    rintro e w1 ⟨rfl, h1⟩
    go_wp2_with fail
    go_ret2
    exact ⟨rfl, HM.out.trans h1⟩
  | true =>
    have hfl := field_pages c
    have hb := isChunk_iff.1 h
    have p1 := R.pg1
    have p2 := R.pg2
    have hu : 4 * k < c.pg ∧ k < 64 := by unfold chunksV at hb; omega
    have q0 : IntKind.i64.wrap (k * 4) = 4 * k := by rw [wrap_in (by omega) (by omega)]; omega
    have q1 : IntKind.i64.wrap (c.pg - 4 * k) = c.pg - 4 * k := wrap_in (by omega) (by omega)
    rw [show firstV c.pg k = 4 * k by unfold firstV; rw [h]; rfl, show sizeV c.pg k = min 4 (c.pg - 4 * k) by unfold sizeV; rw [h]; rfl]
    generalize hz : c.pg - 4 * k = z at q1
    have R' := Lib.hid R
    clear hb hu p1 p2
    have zz := Lib.hid hz
    clear hz
    go_enter Tryz.func81, Tryz.ntmps81
    go_wp2_with (refine wpList_load_row rfl 98 _ rfl _ rfl 98 _ _ _ HC.out Tryz.underlying98 rfl (by kernel_rfl) ?_)
    refine (c_none R'.out k _).mono ?_
    rw [h]
    rintro e w1 ⟨rfl, h1⟩
    have HC1 := Lib.hid (h1.block HC.out)
    have HM1 := Lib.hid (HM.out.trans h1)
    have x24 := cell_more HC1.out (More.refl _) (chk_last c k)
    clear h1
    go_wp2_with (refine wpList_load_head rfl 28 _ rfl _ rfl 98 _ c.arr _ _ HC1.out (chk_part c k) Tryz.underlying28 rfl (by kernel_rfl) ?_)
    refine (y_config R'.out _).mono ?_
    rintro e w2 ⟨rfl, h2⟩
    have HM2 := Lib.hid (HM1.out.trans h2)
    have q3 := zz.out
    clear h2
    go_wp2_with fail
    go_ret2
    exact ⟨rfl, HM2.out⟩

/-- What a function that is handed the view at p comes to. -/
def WentV {α : Type} (w : World) (F : Nat → Prop) (p : Nat) (kn : Int → Option Int) (val : α → Value) (R : Res α) (e : Ending) (w' : World) : Prop :=
  match R with
  | .need a => Ended w F p a e w'
  | .ok x D => DidView w F p kn D (val x) e w'
theorem WentV.from {α : Type} {w w2 w' : World} {F F' : Nat → Prop} {p : Nat} {kn : Int → Option Int} {val : α → Value} {R : Res α} {e : Ending} (t : Turned F w w2) (n : ∀ k, F' k → F k ∨ w.heap.size ≤ k) (h : WentV w2 F' p kn val R e w') : WentV w F p kn val R e w' := by
  cases R with
  | need a => exact ⟨h.1, h.2.1, turned_own t h.2.2 n⟩
  | ok x D =>
    obtain ⟨he, F1, hv, ht, hn⟩ := h
    refine ⟨he, F1, hv, turned_own t ht n, fun k hk => ?_⟩
    rcases hn k hk with q | q
    · exact n k q
    · exact .inr (Nat.le_trans t.size q)
theorem WentV.after {α : Type} {w w2 w' : World} {F : Nat → Prop} {p : Nat} {kn : Int → Option Int} {val : α → Value} {R : Res α} {e : Ending} (t : More w w2) (h : WentV w2 F p kn val R e w') : WentV w F p kn val R e w' :=
  h.from (Turned.mono t (fun _ _ q => q.elim)) (fun k q => .inl q)
theorem WentV.need {α : Type} {w w' : World} {F : Nat → Prop} {p : Nat} {kn : Int → Option Int} {val : α → Value} {R : Res α} {e : Ending} {a : Int} (hR : R = .need a) (h : Ended w F p a e w') : WentV w F p kn val R e w' := by subst hR; exact h
theorem WentV.did {α : Type} {w w' : World} {F : Nat → Prop} {p : Nat} {kn : Int → Option Int} {val : α → Value} {R : Res α} {e : Ending} {x : α} {D : List KV} (hR : R = .ok x D) (h : DidView w F p kn D (val x) e w') : WentV w F p kn val R e w' := by subst hR; exact h
/-- The view stands as it stood. -/
theorem WentV.same {α : Type} {w w' : World} {F : Nat → Prop} {p : Nat} {kn : Int → Option Int} {D : List KV} {val : α → Value} {R : Res α} {x : α} (hR : R = .ok x D) (hv : ViewAt w F p kn D) (t : More w w') : WentV w F p kn val R (.returned (val x)) w' := by
  subst hR; exact DidView.same hv t

theorem tbl64 {c : Cfg} (R : c.Ok) {k : Int} (h : isChunk c.pg k = true) : W64 (tblV c.pg c.st k) := by
  rw [tbl_in h]
  have := isChunk_iff.1 h
  have h1 := tableB R; have h2 := chunksB R
  unfold W64; omega

set_option maxHeartbeats 1000000 in
theorem c_isMapped {c : Cfg} (R : c.Ok) (F : Nat → Prop) (p : Nat) (kn : Int → Option Int) (D : List KV) (k : Int) (w : World) (hv : ViewAt w F p kn D) :
    Calls Tryz.prog 71 #[.agg (chkArr c k), .pointer (some ⟨p, 0, none⟩)] w (WentV w F p kn (fun b => .bool b) (mappedP c.pg c.st k kn D)) := by
  have HC := Lib.hid (row_new w (chkArr c k) 98)
  have HM : Hid (More w (w.alloc (.cells (chkArr c k) 98))) := (More.refl w).alloc _
  have HV := Lib.hid hv
  have HR := Lib.hid R
  clear hv
  cases h : isChunk c.pg k with
  | false =>
    have FIN : Hid (∀ w', More w w' → WentV w F p kn (fun b => .bool b) (mappedP c.pg c.st k kn D) (.returned (.bool false)) w') := Lib.hid fun w' m => WentV.same (by unfold mappedP; rw [h]; rfl) HV.out m
    go_enter Tryz.func71, Tryz.ntmps71
    go_wp2_with (refine wpList_load_row rfl 98 _ rfl _ rfl 98 _ _ _ HC.out Tryz.underlying98 rfl (by kernel_rfl) ?_)
    refine (c_none HR.out k _).mono ?_
    rw [h]
    rintro e w1 ⟨rfl, h1⟩
    have HM1 := Lib.hid (HM.out.trans h1)
    clear h1
    go_wp2_with fail
    go_ret
    exact FIN.out _ HM1.out
  | true =>
    have hR : mappedP c.pg c.st k kn D = bindP (readP (tblV c.pg c.st k)) (fun y => pureP (decide (y = 1))) kn D := by unfold mappedP; rw [h]; rfl
    rw [hR]
    have HW := Lib.hid (tbl64 R h)
    go_enter Tryz.func71, Tryz.ntmps71
    go_wp2_with (refine wpList_load_row rfl 98 _ rfl _ rfl 98 _ _ _ HC.out Tryz.underlying98 rfl (by kernel_rfl) ?_)
    refine (c_none HR.out k _).mono ?_
    rw [h]
    rintro e w1 ⟨rfl, h1⟩
    have HM1 := Lib.hid (HM.out.trans h1)
    have HC1 := Lib.hid (h1.block HC.out)
    clear h1
    go_wp2_with (refine wpList_load_rowG rfl 98 _ rfl _ rfl 98 _ _ _ HC1.out Tryz.underlying98 rfl (by kernel_rfl) ?_)
    refine (c_word HR.out k _).mono ?_
    rintro e w2 ⟨rfl, h2⟩
    have HM2 := Lib.hid (HM1.out.trans h2)
    clear h2
    have HV2 := Lib.hid (HV.out.more HM2.out)
    cases hw : wordV kn D (tblV c.pg c.st k) with
    | none =>
      have HN := Lib.hid hw
      clear hw
      go_wp2_with fail
      refine (read_need F p kn D _ w2 HV2.out HW.out HN.out).mono ?_
      intro e w3 he
      obtain rfl := he.1
      exact ⟨rfl, WentV.after HM2.out (WentV.need (bindP_need (readP_none HN.out)) he)⟩
    | some y =>
      have HN := Lib.hid hw
      have FIN : Hid (∀ n, WentV w F p kn (fun b => .bool b) (bindP (readP (tblV c.pg c.st k)) (fun y => pureP (decide (y = 1))) kn D) (.returned (.bool (decide (y = 1)))) (w2.drewN n)) := Lib.hid fun n => WentV.same (by rw [bindP_ok (readP_some HN.out)]; rfl) HV.out (HM2.out.drewN n)
      have b1 : (y == 1) = decide (y = 1) := by by_cases q : y = 1 <;> simp [q]
      clear hw
      go_wp2_with fail
      refine (read_some F p kn D _ y w2 HV2.out HW.out HN.out).mono ?_
      rintro e w3 ⟨rfl, n, rfl⟩
      go_wp2_with fail
      go_ret
      exact FIN.out n
set_option maxRecDepth 100000 in
set_option maxHeartbeats 2000000 in
theorem c_turn {c : Cfg} (R : c.Ok) {n : Nat} (H : TblIn c.pg c.st n) (hn : n ≤ 10000) (F : Nat → Prop) (p : Nat) (kn : Int → Option Int) (D : List KV) (k x : Int) (w : World) (hv : ViewAt w F p kn D) (hk : OkK kn) (hD : InvD n D) :
    Calls Tryz.prog 74 #[.agg (chkArr c k), .pointer (some ⟨p, 0, none⟩), .int .i64 x] w (WentV w F p kn (fun y => .int .i64 y) (turnP c.pg c.st k x kn D)) := by
  have HC := Lib.hid (row_new w (chkArr c k) 98)
  have HM : Hid (More w (w.alloc (.cells (chkArr c k) 98))) := (More.refl w).alloc _
  have HV := Lib.hid hv
  have HR := Lib.hid R
  have HK := Lib.hid hk
  have HD := Lib.hid hD
  have HH := Lib.hid H
  clear hv hk hD H
  cases h : isChunk c.pg k with
  | false =>
    have FIN : Hid (∀ w', More w w' → WentV w F p kn (fun y => .int .i64 y) (turnP c.pg c.st k x kn D) (.returned (.int .i64 0)) w') := Lib.hid fun w' m => WentV.same (by unfold turnP; rw [h]; rfl) HV.out m
    go_enter Tryz.func74, Tryz.ntmps74
    go_wp2_with (refine wpList_load_row rfl 98 _ rfl _ rfl 98 _ _ _ HC.out Tryz.underlying98 rfl (by kernel_rfl) ?_)
    refine (c_none HR.out k _).mono ?_
    rw [h]
    rintro e w1 ⟨rfl, h1⟩
    have HM1 := Lib.hid (HM.out.trans h1)
    clear h1
    go_wp2_with fail
    go_ret
    exact FIN.out _ HM1.out
  | true =>
    have hR : turnP c.pg c.st k x kn D = bindP (mappedP c.pg c.st k) (fun b => if b = decide (x = 1) then pureP 0 else bindP (writeP (tblV c.pg c.st k) x) (fun _ => pureP (sizeV c.pg k))) kn D := by unfold turnP; rw [h]; rfl
    rw [hR]
    have HW := Lib.hid (tbl64 R h)
    go_enter Tryz.func74, Tryz.ntmps74
    go_wp2_with (refine wpList_load_row rfl 98 _ rfl _ rfl 98 _ _ _ HC.out Tryz.underlying98 rfl (by kernel_rfl) ?_)
    refine (c_none HR.out k _).mono ?_
    rw [h]
    rintro e w1 ⟨rfl, h1⟩
    have HM1 := Lib.hid (HM.out.trans h1)
    have HC1 := Lib.hid (h1.block HC.out)
    clear h1
    have HV1 := Lib.hid (HV.out.more HM1.out)
    have bx : (x == 1) = decide (x = 1) := by by_cases q : x = 1 <;> simp [q]
    go_wp2_with (refine wpList_load_rowG rfl 98 _ rfl _ rfl 98 _ _ _ HC1.out Tryz.underlying98 rfl (by kernel_rfl) ?_)
    refine (c_isMapped HR.out F p kn D k w1 HV1.out).mono ?_
    intro e w2 he
    cases hm : mappedP c.pg c.st k kn D with
    | need a =>
      rw [hm] at he
      obtain rfl := he.1
      have FIN := WentV.after (kn := kn) HM1.out (WentV.need (val := fun y : Int => Value.int .i64 y) (bindP_need (f := fun b : Bool => if b = decide (x = 1) then pureP (0 : Int) else bindP (writeP (tblV c.pg c.st k) x) (fun _ => pureP (sizeV c.pg k))) hm) he)
      exact ⟨rfl, FIN⟩
    | ok b D1 =>
      rw [hm] at he
      have HB := Lib.hid hm
      have hI1 := ((good_mapped HH.out k).ok HK.out HD.out hm).1
      obtain ⟨rfl, F1, hv2, ht2, hn2⟩ := he
      have lD1 : D1.length < 100000 := by have := hI1.len; omega
      have HV2 := Lib.hid hv2
      have HT2 : Hid (Turned F w w2) := Lib.hid (turned_own (Turned.mono HM1.out (fun _ _ q => q.elim)) ht2 (fun k q => .inl q))
      have HN1 := Lib.hid hn2
      have HN2 : Hid (∀ k, F1 k → F k ∨ w.heap.size ≤ k) := Lib.hid fun k q => (hn2 k q).imp id (fun r => Nat.le_trans HM1.out.size r)
      have nC : ¬ F w.heap.size := fun q => by have := HV.out.lt _ q; omega
      have HC2 : Hid (w2.heap[w.heap.size]? = _) := Lib.hid ((Turned.block ht2 _ (lt_of_heap HC1.out) nC).trans HC1.out)
      clear hm hI1 hv2 ht2 hn2
      by_cases hb : b = decide (x = 1)
      · have FIN : Hid (∀ w', More w2 w' → WentV w F p kn (fun y => .int .i64 y) (bindP (mappedP c.pg c.st k) (fun b => if b = decide (x = 1) then pureP 0 else bindP (writeP (tblV c.pg c.st k) x) (fun _ => pureP (sizeV c.pg k))) kn D) (.returned (.int .i64 0)) w') := Lib.hid fun w' m =>
          WentV.from HT2.out HN2.out (WentV.same (by rw [bindP_ok HB.out, if_pos hb]; rfl) HV2.out m)
        have be : (b == decide (x = 1)) = true := by simp [hb]
        clear hb
        go_wp2_with fail
        go_ret
        exact FIN.out _ (More.refl _)
      · have FIN : Hid (∀ w0 e w', More w2 w0 → DidView w0 F1 p kn (writeV D1 (tblV c.pg c.st k) x) (.tuple #[]) e w' → e = .returned (.tuple #[]) ∧ Turned F1 w0 w' ∧ ∀ w'', More w' w'' → WentV w F p kn (fun y => .int .i64 y) (bindP (mappedP c.pg c.st k) (fun b => if b = decide (x = 1) then pureP 0 else bindP (writeP (tblV c.pg c.st k) x) (fun _ => pureP (sizeV c.pg k))) kn D) (.returned (.int .i64 (sizeV c.pg k))) w'') := Lib.hid fun w0 e w' m hd => by
          obtain ⟨he, F2, hv3, ht3, hn3⟩ := hd
          refine ⟨he, ht3, fun w'' m2 => ?_⟩
          refine WentV.from HT2.out HN2.out (WentV.did (x := sizeV c.pg k) (D := writeV D1 (tblV c.pg c.st k) x) (by rw [bindP_ok HB.out, if_neg hb]; rfl) ⟨rfl, F2, hv3.more m2, ?_, fun k q => (hn3 k q).imp id (fun r => Nat.le_trans m.size r)⟩)
          exact turned_own (F' := fun _ => False) (turned_own (Turned.mono m (fun _ _ q => q.elim)) ht3 (fun k q => .inl q)) m2 (fun _ q => q.elim)
        have be : (b == decide (x = 1)) = false := by simp [hb]
        clear hb
        go_wp2_with (refine wpList_load_row rfl 98 _ rfl _ rfl 98 _ _ _ HC2.out Tryz.underlying98 rfl (by kernel_rfl) ?_)
        refine (c_word HR.out k _).mono ?_
        rintro e w3 ⟨rfl, h3⟩
        have HM3 := Lib.hid h3
        have HV3 := Lib.hid (HV2.out.more h3)
        have HC3 := Lib.hid (h3.block HC2.out)
        clear h3
        go_wp2_with fail
        refine (write_ok F1 p kn D1 (tblV c.pg c.st k) x w3 HV3.out lD1).mono ?_
        intro e w4 he
        obtain ⟨rfl, ht4, hf⟩ := FIN.out w3 e w4 HM3.out he
        have HF := Lib.hid hf
        have nC1 : ¬ F1 w.heap.size := fun q => by
          have h0 : w.heap.size < w1.heap.size := lt_of_heap HC1.out
          rcases HN1.out _ q with r | r
          · exact nC r
          · omega
        have HC4 : Hid (w4.heap[w.heap.size]? = _) := Lib.hid ((Turned.block ht4 _ (lt_of_heap HC3.out) nC1).trans HC3.out)
        clear hf he ht4
        go_wp2_with (refine wpList_load_row rfl 98 _ rfl _ rfl 98 _ _ _ HC4.out Tryz.underlying98 rfl (by kernel_rfl) ?_)
        refine (c_pages HR.out k _).mono ?_
        rintro e w5 ⟨rfl, h5⟩
        have HM5 := Lib.hid h5
        clear h5
        go_wp2_with fail
        go_ret
        exact HF.out _ HM5.out
end Go.Proofs.YtogfikemodaepaaGreat
