/-
  An argument that is a call and a reply, opened.
-/
import Derived.Test.YtahejbahnhohcaaDoorMdS
import Derived.Test.YtahejbahnhohcaaDoorStruct
import Derived.OpenShut
namespace Go.Proofs.YtahejbahnhohcaaDoor
open Go.ChangeShapes Go.WideShapes Go.ChangeAt Go.RowKit Go.Deep
set_option linter.unusedVariables false
set_option linter.unusedSimpArgs false

/-- A call and a reply. -/
def actArr (x : CL) (r : RP) : Array Value := #[.int .i64 x.kd, .int .i64 x.ad, .int .i64 x.sz, .int .i64 x.al, .int .i64 x.vl, .int .i64 r.er, .int .i64 r.ad, .int .i64 r.sz, .int .i64 r.vl, .int .i64 r.st.bl, .int .i64 r.st.ak, .int .i64 r.st.wo, .int .i64 r.st.ke, .int .i64 r.st.op, .int .i64 r.st.ma, .int .i64 r.st.us]
theorem act_call (x : CL) (r : RP) : ∀ j, j < x.arr.size → (actArr x r)[0 + j]? = x.arr[j]? := by
  intro j hj
  have : j < 5 := hj
  match j, this with
  | 0, _ => rfl
  | 1, _ => rfl
  | 2, _ => rfl
  | 3, _ => rfl
  | 4, _ => rfl
theorem act_reply (x : CL) (r : RP) : ∀ j, j < r.arr.size → (actArr x r)[5 + j]? = r.arr[j]? := by
  intro j hj
  have : j < 11 := hj
  match j, this with
  | 0, _ => rfl
  | 1, _ => rfl
  | 2, _ => rfl
  | 3, _ => rfl
  | 4, _ => rfl
  | 5, _ => rfl
  | 6, _ => rfl
  | 7, _ => rfl
  | 8, _ => rfl
  | 9, _ => rfl
  | 10, _ => rfl
theorem act_one (x : CL) (r : RP) : (actArr x r).all (·.oneCell') = true := by simp [actArr, Value.oneCell']
/-- What is known of the numbers of an argument. -/
def Wf64 (x : Int) : Prop := -9223372036854775808 ≤ x ∧ x ≤ 9223372036854775807
structure ActWf (x : CL) (r : RP) : Prop where
  ad : Wf64 x.ad
  sz : Wf64 x.sz
  al : Wf64 x.al
  rad : Wf64 r.ad
  rsz : Wf64 r.sz

section
variable {H : Type} {enc : TypeId × Value → H} {w : World} {base : Nat} {spare : Nat → Bool} {held : Bool}
theorem wf64 {x : Int} (h : (Lit.int .i64 x).wf = true) : Wf64 x := by
  simp only [Lit.wf, Bool.and_eq_true, decide_eq_true_eq] at h
  have e1 : IntKind.i64.min = -9223372036854775808 := by decide
  have e2 : IntKind.i64.max = 9223372036854775807 := by decide
  unfold Wf64; omega
theorem fld_int {P : Program} {t : TypeId} {n k : Nat} {cs : List Value} {y : DataW H × List MemPlace} (u : P.underlying t = some (.int .i64)) (h : DataW.trod enc P w base spare held n t ((cs.drop k).take 1) = some y) : ∃ x : Int, cs[k]? = some (.int .i64 x) ∧ Wf64 x := by
  obtain ⟨x, e, _, wx⟩ := DataW.trod_int u h
  refine ⟨x, ?_, wf64 wx⟩
  have e' : (cs.drop k).take 1 = [.int .i64 x] := by simpa [Value.cells] using e
  have : ((cs.drop k).take 1)[0]? = some (.int .i64 x) := by rw [e']; rfl
  rw [List.getElem?_take, if_pos (by omega), List.getElem?_drop] at this
  simpa using this
theorem drop_at {cs : List Value} {o l k : Nat} {v : Value} (h : ((cs.drop o).take l)[k]? = some v) : cs[o + k]? = some v := by
  rw [List.getElem?_take] at h
  split at h
  · rwa [List.getElem?_drop] at h
  · cases h
theorem fld {P : Program} {t : TypeId} {n k j : Nat} {cs : List Value} {ys : List (DataW H × List MemPlace)} (u : P.underlying t = some (.int .i64)) (hc : P.cellsOf t = 1) (hj : j < ys.length) (h : DataW.trod enc P w base spare held n t ((cs.drop k).take (P.cellsOf t)) = ys[j]?) : ∃ x : Int, cs[k]? = some (.int .i64 x) ∧ Wf64 x := by
  rw [hc, List.getElem?_eq_getElem hj] at h
  exact fld_int u h
set_option maxRecDepth 100000 in
theorem open_act {r : Reach} {b0 : Nat} {v : Value} {d : DataW H} {p : List MemPlace} (hv : Value.okWide Tryd.prog w r b0 32 v) (h : DataW.Trod enc Tryd.prog w base spare held 32 v d p) :
    ∃ x r, v = .agg (actArr x r) ∧ ActWf x r := by
  obtain ⟨cs, rfl, hsz⟩ := okWide_struct Tryd.underlying32 hv
  obtain ⟨fuel, hf⟩ := h
  have k0 : Tryd.prog.cellsOf 25 = 5 := by kernel_rfl
  have k1 : Tryd.prog.cellsOf 30 = 11 := by kernel_rfl
  have ks : Tryd.prog.cellsOf 28 = 7 := by kernel_rfl
  have ki : Tryd.prog.cellsOf 3 = 1 := by kernel_rfl
  have ke : Tryd.prog.cellsOf 26 = 1 := by kernel_rfl
  have hl : cs.toList.length = 16 := by
    have : Tryd.prog.cellsOf 32 = 16 := by kernel_rfl
    rw [this] at hsz; simpa using hsz
  obtain ⟨ys, n, _, _, _, hlen, hg⟩ := DataW.trod_struct Tryd.underlying32 hf
  have hy : ys.length = 2 := hlen
  have g0 : DataW.trod enc Tryd.prog w base spare held n 25 ((cs.toList.drop 0).take (Tryd.prog.cellsOf 25)) = ys[0]? := hg 0 _ rfl
  have g1 : DataW.trod enc Tryd.prog w base spare held n 30 ((cs.toList.drop 5).take (Tryd.prog.cellsOf 30)) = ys[1]? := hg 1 _ rfl
  rw [k0, List.getElem?_eq_getElem (by omega)] at g0
  rw [k1, List.getElem?_eq_getElem (by omega)] at g1
  clear hg hf
  obtain ⟨yc, nc, _, _, _, hlc, hc⟩ := DataW.trod_struct Tryd.underlying25 g0
  obtain ⟨yr, nr, _, _, _, hlr, hr⟩ := DataW.trod_struct Tryd.underlying30 g1
  have hyc : yc.length = 5 := hlc
  have hyr : yr.length = 5 := hlr
  have ui := Tryd.underlying3
  have ue := Tryd.underlying26
  obtain ⟨a0, q0, f0⟩ := fld (t := 3) (k := 0) (j := 0) (ys := yc) (n := nc) ui ki (by omega) (hc 0 _ rfl)
  obtain ⟨a1, q1, f1⟩ := fld (t := 3) (k := 1) (j := 1) (ys := yc) (n := nc) ui ki (by omega) (hc 1 _ rfl)
  obtain ⟨a2, q2, f2⟩ := fld (t := 3) (k := 2) (j := 2) (ys := yc) (n := nc) ui ki (by omega) (hc 2 _ rfl)
  obtain ⟨a3, q3, f3⟩ := fld (t := 3) (k := 3) (j := 3) (ys := yc) (n := nc) ui ki (by omega) (hc 3 _ rfl)
  obtain ⟨a4, q4, f4⟩ := fld (t := 3) (k := 4) (j := 4) (ys := yc) (n := nc) ui ki (by omega) (hc 4 _ rfl)
  obtain ⟨b0, p0, e0⟩ := fld (t := 26) (k := 0) (j := 0) (ys := yr) (n := nr) ue ke (by omega) (hr 0 _ rfl)
  obtain ⟨b1, p1, e1⟩ := fld (t := 3) (k := 1) (j := 1) (ys := yr) (n := nr) ui ki (by omega) (hr 1 _ rfl)
  obtain ⟨b2, p2, e2⟩ := fld (t := 3) (k := 2) (j := 2) (ys := yr) (n := nr) ui ki (by omega) (hr 2 _ rfl)
  obtain ⟨b3, p3, e3⟩ := fld (t := 3) (k := 3) (j := 3) (ys := yr) (n := nr) ui ki (by omega) (hr 3 _ rfl)
  have gs : DataW.trod enc Tryd.prog w base spare held nr 28 ((((cs.toList.drop 5).take 11).drop 4).take (Tryd.prog.cellsOf 28)) = yr[4]? := hr 4 _ rfl
  rw [ks, List.getElem?_eq_getElem (by omega)] at gs
  obtain ⟨yt, nt, _, _, _, hlt, ht⟩ := DataW.trod_struct Tryd.underlying28 gs
  have hyt : yt.length = 7 := hlt
  obtain ⟨s0, u0, _⟩ := fld (t := 3) (k := 0) (j := 0) (ys := yt) (n := nt) ui ki (by omega) (ht 0 _ rfl)
  obtain ⟨s1, u1, _⟩ := fld (t := 3) (k := 1) (j := 1) (ys := yt) (n := nt) ui ki (by omega) (ht 1 _ rfl)
  obtain ⟨s2, u2, _⟩ := fld (t := 3) (k := 2) (j := 2) (ys := yt) (n := nt) ui ki (by omega) (ht 2 _ rfl)
  obtain ⟨s3, u3, _⟩ := fld (t := 3) (k := 3) (j := 3) (ys := yt) (n := nt) ui ki (by omega) (ht 3 _ rfl)
  obtain ⟨s4, u4, _⟩ := fld (t := 3) (k := 4) (j := 4) (ys := yt) (n := nt) ui ki (by omega) (ht 4 _ rfl)
  obtain ⟨s5, u5, _⟩ := fld (t := 3) (k := 5) (j := 5) (ys := yt) (n := nt) ui ki (by omega) (ht 5 _ rfl)
  obtain ⟨s6, u6, _⟩ := fld (t := 3) (k := 6) (j := 6) (ys := yt) (n := nt) ui ki (by omega) (ht 6 _ rfl)
  refine ⟨⟨a0, a1, a2, a3, a4⟩, ⟨b0, b1, b2, b3, ⟨s0, s1, s2, s3, s4, s5, s6⟩⟩, ?_, ⟨f1, f2, f3, e1, e2⟩⟩
  have r0 := drop_at q0; have r1 := drop_at q1; have r2 := drop_at q2; have r3 := drop_at q3; have r4 := drop_at q4
  have r5 := drop_at p0; have r6 := drop_at p1; have r7 := drop_at p2; have r8 := drop_at p3
  have r9 := drop_at (drop_at u0); have r10 := drop_at (drop_at u1); have r11 := drop_at (drop_at u2); have r12 := drop_at (drop_at u3); have r13 := drop_at (drop_at u4); have r14 := drop_at (drop_at u5); have r15 := drop_at (drop_at u6)
  clear q0 q1 q2 q3 q4 p0 p1 p2 p3 u0 u1 u2 u3 u4 u5 u6 hc hr ht g0 g1 gs hsz hv
  congr 1
  obtain ⟨l⟩ := cs
  simp only at hl r0 r1 r2 r3 r4 r5 r6 r7 r8 r9 r10 r11 r12 r13 r14 r15
  match l, hl with
  | [c0, c1, c2, c3, c4, c5, c6, c7, c8, c9, c10, c11, c12, c13, c14, c15], _ =>
    simp at r0 r1 r2 r3 r4 r5 r6 r7 r8 r9 r10 r11 r12 r13 r14 r15
    subst r0 r1 r2 r3 r4 r5 r6 r7 r8 r9 r10 r11 r12 r13 r14 r15
    rfl
end
end Go.Proofs.YtahejbahnhohcaaDoor
