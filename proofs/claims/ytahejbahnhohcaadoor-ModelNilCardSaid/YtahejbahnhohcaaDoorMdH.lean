/-
  The landed model: whether a reply fits.
-/
import Derived.Test.YtahejbahnhohcaaDoorMdG
namespace Go.Proofs.YtahejbahnhohcaaDoor
open Go.RowKit Go.Sort
set_option linter.unusedVariables false
set_option linter.unusedSimpArgs false

/-- A reply that tells a block. -/
def blkR (a n : Int) : RP := ⟨0, a, n, 0, noT⟩
def fitsM (c : Cfg) (D : List BKV) (n al : Int) (r : RP) : Bool := eqR r (blkR r.ad (roundV n al)) && ((r.ad.tmod al == 0) && openM c.us c.words D r.ad (roundV n al))
set_option maxRecDepth 100000 in
theorem build_blk (a n : Int) (W : World) : (Instr.build 30 [(1, .int .i64 a), (2, .int .i64 n)].toArray).run Tryd.prog W = .ok (.agg (blkR a n).arr) W := run_build W _ _ _ (by kernel_rfl)
theorem wpList_blk {ops : Array Oper} {rest : List Oper} {o : Oper} {a : Act} {w : World} {Q : Exit → Act → World → Prop} (x y : Operand) (ho : o.op = .build 30 #[(1, x), (2, y)]) (hw : Region.wanted o (yielded ops a.tmps) = true) (u v : Int) (hx : a.eval x = .int .i64 u) (hy : a.eval y = .int .i64 v)
    (h : wpList Tryd.prog ops Q rest (a.put o.dst (.agg (blkR u v).arr)) w) : wpList Tryd.prog ops Q (o :: rest) a w :=
  wpList_wanted hw fun K hK => by
    unfold Oper.wp execOp
    generalize hρ : a.eval = ρ at hx hy ⊢
    simp only [ho, List.map_toArray, List.map_cons, List.map_nil, hx, hy, Sem.run_bind, build_blk, Result.andThen_ok]
    exact hK _ _ h

set_option maxRecDepth 100000 in
set_option maxHeartbeats 4000000 in
theorem md_fits {F : Nat → Prop} {p : Nat} {c : Cfg} {D : List BKV} {ws : List Int} (n al : Int) (r : RP) (hn : n ≤ 9223372036854775807) (hal : al ≠ 0) (hra : r.ad ≤ 9223372036854775807) (w : World) (hs : Sizes w) (h : MdAt w F p c D ws) :
    Calls Tryd.prog 65 #[.pointer (some ⟨p, 0, none⟩), .int .i64 n, .int .i64 al, .agg r.arr] w (Gives w (.bool (fitsM c D n al r))) := by
  obtain ⟨w1, e1, h1, m1, s1⟩ := entry1 w (.cells r.arr 30)
  have HR := Lib.hid h1
  have MM := Lib.hid m1
  have CR := Lib.hid (cl_rounded n al hn w1 (hs.more m1))
  have OP := Lib.hid (md_open r.ad (roundV n al) hra w1 (h.more m1))
  have hf : fitsM c D n al r = (eqR r (blkR r.ad (roundV n al)) && ((r.ad.tmod al == 0) && openM c.us c.words D r.ad (roundV n al))) := rfl
  rw [hf]
  clear hf h hs m1 s1 h1 hn hra
  obtain ⟨R0, hR0⟩ : ∃ R0, roundV n al = R0 := ⟨_, rfl⟩
  rw [hR0] at CR OP ⊢
  generalize fitE n al = fe at CR
  generalize openM c.us c.words D r.ad R0 = ob at OP ⊢
  clear hR0
  obtain ⟨a0, a1, a2, a3⟩ := rp_cells r HR.out
  cases hE : eqR r (blkR r.ad R0) with
  | false =>
    go_enter Tryd.func65, Tryd.ntmps65
    go_wp2_with fail
    refine CR.out.mono ?_
    rintro e w2 ⟨rfl, h2⟩
    obtain rfl : w1 = w2 := h2.symm
    go_wp2_with (first
      | (refine wpList_load_row rfl 30 _ rfl _ rfl 30 _ _ _ HR.out Tryd.underlying30 rfl (by kernel_rfl) ?_)
      | (refine wpList_blk _ _ rfl rfl _ _ rfl rfl ?_)
      | (refine wpList_eqR _ _ rfl rfl r (blkR r.ad R0) rfl rfl ?_; rw [hE]))
    go_ret
    exact ⟨rfl, MM.out⟩
  | true =>
    cases hT : (r.ad.tmod al == 0) with
    | false =>
      go_enter Tryd.func65, Tryd.ntmps65
      go_wp2_with fail
      refine CR.out.mono ?_
      rintro e w2 ⟨rfl, h2⟩
      obtain rfl : w1 = w2 := h2.symm
      go_wp2_with (first
        | (refine wpList_load_row rfl 30 _ rfl _ rfl 30 _ _ _ HR.out Tryd.underlying30 rfl (by kernel_rfl) ?_)
        | (refine wpList_blk _ _ rfl rfl _ _ rfl rfl ?_)
        | (refine wpList_eqR _ _ rfl rfl r (blkR r.ad R0) rfl rfl ?_; rw [hE]))
      go_ret
      exact ⟨rfl, MM.out⟩
    | true =>
      go_enter Tryd.func65, Tryd.ntmps65
      go_wp2_with fail
      refine CR.out.mono ?_
      rintro e w2 ⟨rfl, h2⟩
      obtain rfl : w1 = w2 := h2.symm
      go_wp2_with (first
        | (refine wpList_load_row rfl 30 _ rfl _ rfl 30 _ _ _ HR.out Tryd.underlying30 rfl (by kernel_rfl) ?_)
        | (refine wpList_blk _ _ rfl rfl _ _ rfl rfl ?_)
        | (refine wpList_eqR _ _ rfl rfl r (blkR r.ad R0) rfl rfl ?_; rw [hE]))
      refine OP.out.mono ?_
      rintro e w2 ⟨rfl, h2⟩
      have M2 := Lib.hid (MM.out.trans h2)
      clear h2
      go_wp2_with fail
      go_ret
      exact ⟨rfl, M2.out⟩
end Go.Proofs.YtahejbahnhohcaaDoor
