/-
  The landed package chunk: one chunk, looked at and turned.
-/
import Derived.Test.YtogfikemodaepaaDoorLayTop
import Derived.Test.YtogfikemodaepaaDoorViewDoY
import Derived.Test.YtogfikemodaepaaDoorChunkD
import Derived.Test.YtogfikemodaepaaDoorBase
namespace Go.Proofs.YtogfikemodaepaaDoor
open Go.RowKit Go.Sort Go.Maps Go.Shelf
set_option linter.unusedVariables false
set_option linter.unusedSimpArgs false

/-- A configuration. -/
structure Cfg where
  wk : Int
  cp : Int
  pg : Int
  st : Int
  tr : Int
  wt : Int
  ck : Int
  pr : Int
  ca : Int
  bi : Int
  ba : Int
def Cfg.Ok (c : Cfg) : Prop := CfgOk c.wk c.cp c.pg c.st c.tr c.wt c.ck c.pr c.ca c.bi c.ba
def Cfg.starts (c : Cfg) : Nat → Int := startsV c.cp c.pg c.st c.ca c.bi
/-- The cells of a layout, and of a configuration. -/
def Cfg.arr (c : Cfg) : Array Value := layArr c.wk c.cp c.pg c.st c.tr c.wt c.ck c.pr c.ca c.bi c.ba c.starts
def Cfg.cells (c : Cfg) : Array Value := #[.int .i64 c.wk, .int .i64 c.cp, .int .i64 c.pg, .int .i64 c.st, .int .i64 c.tr, .int .i64 c.wt, .int .i64 c.ck, .int .i64 c.pr, .int .i64 c.ca, .int .i64 c.bi, .int .i64 c.ba]
def Cfg.words (c : Cfg) : Int := wordsV c.cp c.pg c.st c.ca c.bi
/-- The cells of a chunk. -/
def chkArr (c : Cfg) (k : Int) : Array Value := c.arr.push (.int .i64 k)

theorem y_config {c : Cfg} (R : c.Ok) (w : World) : Calls Tryd.prog 55 #[.agg c.arr] w (Gives w (.agg #[.int .i64 c.wk, .int .i64 c.cp, .int .i64 c.pg, .int .i64 c.st, .int .i64 c.tr, .int .i64 c.wt, .int .i64 c.ck, .int .i64 c.pr, .int .i64 c.ca, .int .i64 c.bi, .int .i64 c.ba])) := xconfig R w
theorem y_words {c : Cfg} (R : c.Ok) (w : World) : Calls Tryd.prog 27 #[.agg c.arr] w (Gives w (.int .i64 c.words)) := xwords R w
theorem field_pages (c : Cfg) (W : World) : (Instr.field 23 (.agg #[.int .i64 c.wk, .int .i64 c.cp, .int .i64 c.pg, .int .i64 c.st, .int .i64 c.tr, .int .i64 c.wt, .int .i64 c.ck, .int .i64 c.pr, .int .i64 c.ca, .int .i64 c.bi, .int .i64 c.ba]) 2).run Tryd.prog W = .ok (.int .i64 c.pg) W := by kernel_rfl
theorem chk_last (c : Cfg) (k : Int) : (chkArr c k)[24]? = some (.int .i64 k) := by rfl
theorem chk_part (c : Cfg) (k : Int) : ∀ j, j < 24 → (chkArr c k)[j]? = c.arr[j]? := fun j hj => by
  unfold chkArr
  rw [Array.getElem?_push, if_neg (by show j ≠ 24; omega)]

/-- A load of a struct that lies at the beginning of a greater one. -/
theorem run_loadVar_head {P : Program} (w : World) (g : Nat) (t ty : TypeId) (cs hs : Array Value) (fr : Nat × Nat) (d : TypeDesc) (hg : w.heap[g]? = some (.cells cs t fr)) (hc : ∀ j, j < hs.size → cs[j]? = hs[j]?)
    (hu : P.underlying ty = some d) (hd : (match d with | .struct _ | .array _ _ => true | _ => false) = true) (hi : (P.info? ty).map (·.size) = some hs.size) :
    (loadVar ty ⟨g, 0, none⟩).run P w = .ok (.agg hs) w := by
  have hl : (loadCells ⟨g, 0, none⟩ hs.toList.length).run P w = .ok hs.toList.toArray w :=
    run_loadCells_list (P := P) w ⟨g, 0, none⟩ hs.toList (fun j v hv => by
      have hj : j < hs.size := by have := (List.getElem?_eq_some_iff.1 hv).1; simpa using this
      rw [addr_add, Nat.zero_add, cell_of_row w g j cs t fr hg, hc j hj]
      simpa using hv)
  cases hq : P.info? ty with
  | none => simp [hq] at hi
  | some i =>
    have hs : i.size = hs.size := by simpa [hq] using hi
    have hagg : (isAgg ty).run P w = .ok true w := by
      unfold isAgg
      rw [Sem.run_bind, run_underlying hu w]
      cases d <;> simp_all
    simp only [Array.length_toList, Array.toArray_toList] at hl
    simp [loadVar, Sem.run_bind, hagg, sizeOf, typeInfo, hq, hs, hl]
theorem wpList_load_head {P : Program} {ops : Array Oper} {rest : List Oper} {o : Oper} {a : Act} {w : World} {Q : Exit → Act → World → Prop} (hw : Region.wanted o (yielded ops a.tmps) = true) (ty : TypeId) (x : Operand) (ho : o.op = .load ty x)
    (g : Nat) (hx : a.eval x = .pointer (some ⟨g, 0, none⟩)) (t : TypeId) (cs hs : Array Value) (fr : Nat × Nat) (d : TypeDesc) (hg : w.heap[g]? = some (.cells cs t fr)) (hc : ∀ j, j < hs.size → cs[j]? = hs[j]?)
    (hu : P.underlying ty = some d) (hd : (match d with | .struct _ | .array _ _ => true | _ => false) = true) (hi : (P.info? ty).map (·.size) = some hs.size)
    (h : wpList P ops Q rest (a.put o.dst (.agg hs)) w) : wpList P ops Q (o :: rest) a w :=
  wpList_wanted hw fun K hK => by
    unfold Oper.wp Oper.upon execOp
    simp only [ho, hx, Instr.loadAt, Instr.sureAddr, Sem.run_bind, Sem.run_pure, Result.andThen_ok, run_loadVar_head w g t ty cs hs fr d hg hc hu hd hi]
    exact hK _ _ h

theorem tbl_zero {c : Cfg} (R : c.Ok) (k : Int) : (tblV c.pg c.st k == 0) = !isChunk c.pg k := by
  have h1 := R.st1
  cases h : isChunk c.pg k with
  | true =>
    rw [tbl_in h]
    have := isChunk_iff.1 h
    unfold tableV
    simp; omega
  | false => rw [tbl_out h]; rfl
/-- What a function that is handed the view at p comes to. -/
def WentV {α : Type} (w : World) (F : Nat → Prop) (p : Nat) (kn : Int → Option Int) (val : α → Value) (R : Res α) (e : Ending) (w' : World) : Prop :=
  match R with
  | .need a => Ended w F p a e w'
  | .ok x D => DidView w F p kn D (val x) e w'
theorem WentV.from {α : Type} {w w2 w' : World} {F F' : Nat → Prop} {p : Nat} {kn : Int → Option Int} {val : α → Value} {R : Res α} {e : Ending} (t : Turned F w w2) (n : ∀ k, F' k → F k ∨ w.heap.size ≤ k) (h : WentV w2 F' p kn val R e w') : WentV w F p kn val R e w' := by
  cases R with
  | need a => exact ⟨h.1, h.2.1, turned_own t h.2.2 n⟩
  | ok x D =>
    obtain ⟨he, F1, hv, ht, hn⟩ := h
    refine ⟨he, F1, hv, turned_own t ht n, fun k hk => ?_⟩
    rcases hn k hk with q | q
    · exact n k q
    · exact .inr (Nat.le_trans t.size q)
theorem WentV.after {α : Type} {w w2 w' : World} {F : Nat → Prop} {p : Nat} {kn : Int → Option Int} {val : α → Value} {R : Res α} {e : Ending} (t : More w w2) (h : WentV w2 F p kn val R e w') : WentV w F p kn val R e w' :=
  h.from (Turned.mono t (fun _ _ q => q.elim)) (fun k q => .inl q)
theorem WentV.need {α : Type} {w w' : World} {F : Nat → Prop} {p : Nat} {kn : Int → Option Int} {val : α → Value} {R : Res α} {e : Ending} {a : Int} (hR : R = .need a) (h : Ended w F p a e w') : WentV w F p kn val R e w' := by subst hR; exact h
theorem WentV.did {α : Type} {w w' : World} {F : Nat → Prop} {p : Nat} {kn : Int → Option Int} {val : α → Value} {R : Res α} {e : Ending} {x : α} {D : List KV} (hR : R = .ok x D) (h : DidView w F p kn D (val x) e w') : WentV w F p kn val R e w' := by subst hR; exact h
/-- The view stands as it stood. -/
theorem WentV.same {α : Type} {w w' : World} {F : Nat → Prop} {p : Nat} {kn : Int → Option Int} {D : List KV} {val : α → Value} {R : Res α} {x : α} (hR : R = .ok x D) (hv : ViewAt w F p kn D) (t : More w w') : WentV w F p kn val R (.returned (val x)) w' := by
  subst hR; exact DidView.same hv t

theorem tbl64 {c : Cfg} (R : c.Ok) {k : Int} (h : isChunk c.pg k = true) : W64 (tblV c.pg c.st k) := by
  rw [tbl_in h]
  have := isChunk_iff.1 h
  have h1 := tableB R; have h2 := chunksB R
  unfold W64; omega

end Go.Proofs.YtogfikemodaepaaDoor
