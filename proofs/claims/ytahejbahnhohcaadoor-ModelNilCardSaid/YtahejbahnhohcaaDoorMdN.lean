/-
  The document's example.
-/
import Derived.Test.YtahejbahnhohcaaDoorMdM
namespace Go.Proofs.YtahejbahnhohcaaDoor
open Go.RowKit Go.Sort
set_option linter.unusedVariables false
set_option linter.unusedSimpArgs false

theorem md_own {w w1 w2 : World} {F : Nat → Prop} (h : More w w1) (t : Turned F w1 w2) (hF : ∀ k, F k → w.heap.size ≤ k) : More w w2 :=
  ⟨t.os.trans h.os, t.tape.trans h.tape, t.output.trans h.output, Nat.le_trans h.size t.size, fun k hk _ => by
    rw [Turned.block t k (Nat.lt_of_lt_of_le hk h.size) (fun q => by have := hF k q; omega)]
    exact Turned.block h k hk (fun q => q)⟩
/-- The example's calls and replies. -/
def exC : CL := ⟨1, 0, 3, 0, 0⟩
theorem ex_ask : askE exC = 0 := by decide
theorem ex_one (c : Cfg) (R : c.Ok) (ws : List Int) : stepM exC (blkR (c.us + 4) 4) [] ws (mallocM c [] ws 1 3 1 (blkR (c.us + 4) 4)) = (true, [(c.us + 4, (3, 4))], ws) := by
  have us := us_b R
  have h8 : eqR (blkR (c.us + 4) 4) (errR 8) = false := by simp [eqR, blkR, errR]
  have h6 : eqR (blkR (c.us + 4) 4) (errR 6) = false := by simp [eqR, blkR, errR]
  have hr : roundV 3 1 = 4 := by decide
  have he : eqR (blkR (c.us + 4) 4) (blkR (c.us + 4) 4) = true := (eqR_iff _ _).2 rfl
  have ho : openM c.us c.words [] (c.us + 4) 4 = true := by
    unfold openM
    rw [if_neg (by omega)]
    rfl
  have hf : fitsM c [] 3 1 (blkR (c.us + 4) 4) = true := by
    unfold fitsM
    rw [hr, show (blkR (c.us + 4) 4).ad = c.us + 4 from rfl, he, ho]
    simp
  simp only [stepM, h8, ex_ask, if_true, mallocM, h6, bornM, hf]
  rfl
theorem ex_two (c : Cfg) (R : c.Ok) (ws : List Int) : stepM exC (blkR (c.us + 6) 4) [(c.us + 4, (3, 4))] ws (mallocM c [(c.us + 4, (3, 4))] ws 1 3 1 (blkR (c.us + 6) 4)) = (false, [(c.us + 4, (3, 4))], ws) := by
  have us := us_b R
  have h8 : eqR (blkR (c.us + 6) 4) (errR 8) = false := by simp [eqR, blkR, errR]
  have h6 : eqR (blkR (c.us + 6) 4) (errR 6) = false := by simp [eqR, blkR, errR]
  have hr : roundV 3 1 = 4 := by decide
  have hfst : firstM [(c.us + 4, (3, 4))] (c.us + 6) = 0 := by
    unfold firstM
    rw [List.countP_cons, List.countP_nil, if_neg (by simp only [decide_eq_true_eq]; omega)]
  have ho : openM c.us c.words [(c.us + 4, (3, 4))] (c.us + 6) 4 = false := by
    unfold openM
    split
    · rfl
    · rw [hfst]
      simp
      omega
  have hf : fitsM c [(c.us + 4, (3, 4))] 3 1 (blkR (c.us + 6) 4) = false := by
    unfold fitsM
    rw [hr, show (blkR (c.us + 6) 4).ad = c.us + 6 from rfl, ho]
    simp
  simp only [stepM, h8, ex_ask, if_true, mallocM, h6, bornM, hf]
  rfl
theorem ex_block (c : Cfg) : blockM [(c.us + 4, (3, 4))] (c.us + 7) = some (c.us + 4, (3, 4)) := by
  have hfst : firstM [(c.us + 4, (3, 4))] (c.us + 7) = 0 := by
    unfold firstM
    rw [List.countP_cons, List.countP_nil, if_neg (by simp only [decide_eq_true_eq]; omega)]
  unfold blockM
  rw [hfst]
  simp [Option.filter]
set_option maxRecDepth 100000 in
theorem built_ex : Tryd.prog.built 25 [(0, .int .i64 1), (2, .int .i64 3)] = some exC.arr := by kernel_rfl
theorem wpList_ex {ops : Array Oper} {rest : List Oper} {o : Oper} {a : Act} {w : World} {Q : Exit → Act → World → Prop} (x y : Operand) (ho : o.op = .build 25 #[(0, x), (2, y)]) (hw : Region.wanted o (yielded ops a.tmps) = true) (hx : a.eval x = .int .i64 1) (hy : a.eval y = .int .i64 3)
    (h : wpList Tryd.prog ops Q rest (a.put o.dst (.agg exC.arr)) w) : wpList Tryd.prog ops Q (o :: rest) a w :=
  wpList_wanted hw fun K hK => by
    unfold Oper.wp execOp
    generalize hρ : a.eval = ρ at hx hy ⊢
    simp only [ho, List.map_toArray, List.map_cons, List.map_nil, hx, hy, Sem.run_bind, run_build w _ _ _ built_ex, Result.andThen_ok]
    exact hK _ _ h
set_option maxRecDepth 100000 in
theorem build_cfg0 (W : World) : (Instr.build 23 [].toArray).run Tryd.prog W = .ok (.agg #[.int .i64 0, .int .i64 0, .int .i64 0, .int .i64 0, .int .i64 0, .int .i64 0, .int .i64 0, .int .i64 0, .int .i64 0, .int .i64 0, .int .i64 0]) W := run_build W _ _ _ (by kernel_rfl)

/-- What the example's Step comes to. -/
theorem md_step1 {F : Nat → Prop} {p : Nat} {c : Cfg} {D : List BKV} {ws : List Int} (r : RP) (hra : r.ad ≤ 9223372036854775807) (w : World) (hs : Sizes w) (h : MdAt w F p c D ws) (b : Bool) (D' : List BKV) (ws' : List Int) (hb : stepM exC r D ws (mallocM c D ws 1 3 1 r) = (b, D', ws')) :
    Calls Tryd.prog 9 #[.pointer (some ⟨p, 0, none⟩), .agg exC.arr, .agg r.arr] w (MdDid w F p c b D' ws') := by
  have := md_step exC r (by decide) w hs h (mallocM c D ws 1 3 1 r) (fun _ W hW => md_answered1 exC r rfl (by decide) (by decide) hra W (hs.more hW) (h.more hW))
  rw [hb] at this
  exact this

set_option maxRecDepth 100000 in
set_option maxHeartbeats 4000000 in
theorem lives20_ok (w : World) (hs : Sizes w) : Calls Tryd.prog 13 #[] w (Gives w (.bool true)) := by
  obtain ⟨wk, cp, pg, st, tr, wt, ck, pr, ca, bi, ba, R0, hS⟩ := some_gives 0 0 0 0 0 0 0 0 0 0 0 (by decide) (by decide) (by decide) (by decide) (by decide) (by decide) (by decide) (by decide) (by decide) (by decide) (by decide)
  have SM := Lib.hid (fun W => small_any (c := ⟨wk, cp, pg, st, tr, wt, ck, pr, ca, bi, ba⟩) R0 0 0 0 0 0 0 0 0 0 0 0 _ W hS.out rfl)
  obtain ⟨c, hc⟩ : ∃ c, c = smallC ⟨wk, cp, pg, st, tr, wt, ck, pr, ca, bi, ba⟩ := ⟨_, rfl⟩
  have R : c.Ok := by rw [hc]; exact (small_small (c := ⟨wk, cp, pg, st, tr, wt, ck, pr, ca, bi, ba⟩) R0).ok
  rw [← hc] at SM
  clear hS R0 hc
  have HS := Lib.hid hs
  have us := us_b R
  have RR := Lib.hid R
  have HO := Lib.hid (fun W => of_right c.wk c.cp c.pg c.st c.tr c.wt c.ck c.pr c.ca c.bi c.ba W R)
  have HU := Lib.hid (fun W => y_user R W)
  obtain ⟨n, hn⟩ : ∃ n : Nat, (n : Int) = 32 * c.pg := ⟨(32 * c.pg).toNat, by omega⟩
  have HN := Lib.hid (fun W => md_new R n hn W)
  have hb0 := build_cfg0
  have a4 : IntKind.i64.wrap (c.us + 4) = c.us + 4 := wrap_in (by omega) (by omega)
  have a6 : IntKind.i64.wrap (c.us + 6) = c.us + 6 := wrap_in (by omega) (by omega)
  have a7 : IntKind.i64.wrap (c.us + 7) = c.us + 7 := wrap_in (by omega) (by omega)
  have l4 : c.us + 4 ≤ 9223372036854775807 := by omega
  have l6 : c.us + 6 ≤ 9223372036854775807 := by omega
  clear hs us hn R
  go_enter Tryd.func13, Tryd.ntmps13
  go_wp2_with fail
  refine (SM.out _).mono ?_
  rintro e w1 ⟨rfl, h1⟩
  obtain ⟨w2, e2, hz2, m2, s2⟩ := entry1 w1 (.cells #[.int .i64 0, .int .i64 0, .int .i64 0, .int .i64 0, .int .i64 0, .int .i64 0, .int .i64 0, .int .i64 0, .int .i64 0, .int .i64 0, .int .i64 0] 23)
  have HZ2 := Lib.hid hz2
  have M2 := Lib.hid (h1.trans m2)
  have g2 : w.heap.size ≤ w1.heap.size := h1.size
  clear h1 hz2 m2 s2
  go_wp2_with (first
    | (refine wpList_store_row rfl 23 _ _ rfl _ _ rfl rfl 23 _ HZ2.out (by kernel_rfl) rfl (by simp [Cfg.cells, Value.oneCell']) ?_; have H3 := Lib.hid (setRow_heap w2 w1.heap.size _ c.cells _ _ HZ2.out); have M3 : Hid (More w (w2.setRow w1.heap.size c.cells)) := Lib.hid (M2.out.setRow _ _ g2); clear HZ2 M2 e2 g2; generalize w2.setRow w1.heap.size c.cells = w3 at H3 M3 ⊢; generalize w1.heap.size = gc at H3 ⊢)
    | (refine wpList_load_row rfl 23 _ rfl _ rfl 23 _ _ _ H3.out Tryd.underlying23 rfl (by kernel_rfl) ?_))
  refine (HO.out _).mono ?_
  rintro e w4 ⟨rfl, h4⟩
  have hl : layArr c.wk c.cp c.pg c.st c.tr c.wt c.ck c.pr c.ca c.bi c.ba (startsV c.cp c.pg c.st c.ca c.bi) = c.arr := rfl
  rw [hl]
  clear hl
  obtain ⟨w5, e5, hz5, m5, s5⟩ := entry1 w4 (.cells #[.int .i64 0, .int .i64 0, .int .i64 0, .int .i64 0, .int .i64 0, .int .i64 0, .int .i64 0, .int .i64 0, .int .i64 0, .int .i64 0, .int .i64 0, .int .i64 0, .int .i64 0, .int .i64 0, .int .i64 0, .int .i64 0, .int .i64 0, .int .i64 0, .int .i64 0, .int .i64 0, .int .i64 0, .int .i64 0, .int .i64 0, .int .i64 0] 49)
  have HZ5 := Lib.hid hz5
  have M5 := Lib.hid ((M3.out.trans h4).trans m5)
  have C5 := Lib.hid (m5.block (h4.block H3.out))
  have g5 : w.heap.size ≤ w4.heap.size := (M3.out.trans h4).size
  have n5 : gc ≠ w4.heap.size := by have := lt_of_heap (h4.block H3.out); omega
  clear h4 hz5 m5 s5 H3 M3
  go_wp2_with (first
    | (refine wpList_store_row rfl 49 _ _ rfl _ _ rfl rfl 49 _ HZ5.out (by kernel_rfl) rfl (layArr_one ..) ?_; have H6 := Lib.hid (setRow_heap w5 w4.heap.size _ c.arr _ _ HZ5.out); have M6 : Hid (More w (w5.setRow w4.heap.size c.arr)) := Lib.hid (M5.out.setRow _ _ g5); have C6 : Hid ((w5.setRow w4.heap.size c.arr).heap[gc]? = some (.cells c.cells 23 (0, 0))) := Lib.hid ((setRow_other _ _ _ _ n5).trans C5.out); clear HZ5 M5 C5 e5 g5 n5; generalize w5.setRow w4.heap.size c.arr = w6 at H6 M6 C6 ⊢; generalize w4.heap.size = gl at H6 ⊢)
    | (refine wpList_load_row rfl 23 _ rfl _ rfl 23 _ _ _ C6.out Tryd.underlying23 rfl (by kernel_rfl) ?_))
  refine (HN.out _).mono ?_
  rintro e w7 ⟨F7, p, rfl, h7, m7, n7⟩
  have A7 := Lib.hid h7
  have M7 := Lib.hid (M6.out.trans m7)
  have L7 := Lib.hid (m7.block H6.out)
  have N7 := Lib.hid (fun k (hk : F7 k) => Nat.le_trans M6.out.size (n7 k hk))
  clear h7 m7 n7 H6 M6 C6
  go_wp2_with (refine wpList_load_row rfl 49 _ rfl _ rfl 49 _ _ _ L7.out Tryd.underlying49 rfl (by kernel_rfl) ?_)
  refine (HU.out _).mono ?_
  rintro e w8 ⟨rfl, h8⟩
  have A8 := Lib.hid (A7.out.more h8)
  have M8 := Lib.hid (M7.out.trans h8)
  clear h8 A7 M7 L7
  go_wp2_with (first | (refine wpList_ex _ _ rfl rfl rfl rfl ?_) | (refine wpList_blk _ _ rfl rfl _ _ rfl rfl ?_))
  refine (md_step1 (blkR (c.us + 4) 4) l4 w8 (HS.out.more M8.out) A8.out true _ _ (ex_one c RR.out _)).mono ?_
  rintro e w9 ⟨rfl, F9, h9, t9, n9⟩
  have A9 := Lib.hid h9
  have M9 := Lib.hid (md_own M8.out t9 N7.out)
  have N9 := Lib.hid (fun k (hk : F9 k) => (n9 k hk).elim (N7.out k) (fun q => Nat.le_trans M8.out.size q))
  clear h9 t9 n9 A8 M8 N7
  go_wp2_with (first | (refine wpList_ex _ _ rfl rfl rfl rfl ?_) | (refine wpList_blk _ _ rfl rfl _ _ rfl rfl ?_))
  refine (md_step1 (blkR (c.us + 6) 4) l6 w9 (HS.out.more M9.out) A9.out false _ _ (ex_two c RR.out _)).mono ?_
  rintro e wa ⟨rfl, Fa, ha, ta, na⟩
  have Aa := Lib.hid ha
  have Ma := Lib.hid (md_own M9.out ta N9.out)
  clear ha ta na A9 M9 N9
  go_wp2_with fail
  refine (md_block (c.us + 7) wa Aa.out).mono ?_
  rintro e wb ⟨he, hb⟩
  rw [ex_block] at he
  obtain rfl := he
  have Mb := Lib.hid (Ma.out.trans hb)
  clear hb
  go_wp2_with fail
  go_ret
  exact ⟨rfl, Mb.out⟩
end Go.Proofs.YtahejbahnhohcaaDoor
