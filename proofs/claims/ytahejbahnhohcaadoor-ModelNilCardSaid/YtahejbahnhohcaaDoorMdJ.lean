/-
  The landed model: CMalloc, and the way to it.
-/
import Derived.Test.YtahejbahnhohcaaDoorMdI
namespace Go.Proofs.YtahejbahnhohcaaDoor
open Go.RowKit Go.Sort
set_option linter.unusedVariables false
set_option linter.unusedSimpArgs false

def mallocM (c : Cfg) (D : List BKV) (ws : List Int) (kd n al : Int) (r : RP) : Bool × List BKV × List Int :=
  if eqR r (errR 6) then (true, D, ws) else bornM c D ws kd n al r
set_option maxRecDepth 100000 in
set_option maxHeartbeats 4000000 in
theorem md_malloc {F : Nat → Prop} {p : Nat} {c : Cfg} {D : List BKV} {ws : List Int} (x : CL) (r : RP) (al : Int) (hn : x.sz ≤ 9223372036854775807) (hal : al ≠ 0) (hbad : badB x.sz al = false) (hra : r.ad ≤ 9223372036854775807) (w : World) (hs : Sizes w) (h : MdAt w F p c D ws) :
    Calls Tryd.prog 39 #[.pointer (some ⟨p, 0, none⟩), .agg x.arr, .agg r.arr, .int .i64 al] w (MdDid w F p c (mallocM c D ws x.kd x.sz al r).1 (mallocM c D ws x.kd x.sz al r).2.1 (mallocM c D ws x.kd x.sz al r).2.2) := by
  obtain ⟨w2, e2, h0, h1, m2, s2⟩ := entry2 w (.cells x.arr 25) (.cells r.arr 30)
  have HX := Lib.hid h0
  have HR := Lib.hid h1
  have MM := Lib.hid m2
  have BN := Lib.hid (fun W (hW : More w2 W) => md_born x r al hn hal hbad hra W ((hs.more m2).more hW) ((h.more m2).more hW))
  have HH := Lib.hid h
  clear hs h m2 h0 h1 hn hal hbad hra
  cases hE : eqR r (errR 6) with
  | true =>
    have FIN : Hid (∀ W, More w W → MdDid w F p c (mallocM c D ws x.kd x.sz al r).1 (mallocM c D ws x.kd x.sz al r).2.1 (mallocM c D ws x.kd x.sz al r).2.2 (.returned (.bool true)) W) := Lib.hid fun W hW => by
      simp only [mallocM, hE, if_true]
      exact MdDid.same HH.out hW
    generalize (mallocM c D ws x.kd x.sz al r).1 = o1 at FIN ⊢
    generalize (mallocM c D ws x.kd x.sz al r).2.1 = o2 at FIN ⊢
    generalize (mallocM c D ws x.kd x.sz al r).2.2 = o3 at FIN ⊢
    go_enter Tryd.func39, Tryd.ntmps39
    go_wp2_with fail
    refine wp_region_more (by kernel_rfl) (by kernel_rfl) ?_
    iterate 11
      first
      | (refine wpQuiet_load_row rfl 30 _ rfl _ rfl 30 _ _ _ (fun W hW => hW.block HR.out) Tryd.underlying30 rfl (by kernel_rfl) ?_)
      | (refine wpQuiet_eqR _ _ (by with_reducible rfl) rfl (r) (errR 6) rfl rfl ?_; rw [hE])
      | (with_reducible refine wpQuiet_step (fun K hK => ?_)
         go_simp
         first
         | (refine hK _ ?_; clear hK K)
         | (apply Exists.intro
            refine ⟨fun W hW => ?_, hK _ ?_⟩
            first
            | (refine (md_refused 6 W).mono ?_; rintro e w' ⟨rfl, h'⟩; exact ⟨rfl, hW.trans h'⟩)
            | ((try go_simp); try rfl)
            clear hK K))
    refine wpQuiet_nil ?_
    intro w4 m4
    have M4 := Lib.hid (MM.out.trans m4)
    clear m4
    go_wp2_with fail
    go_ret
    exact FIN.out _ M4.out
  | false =>
    have hm : mallocM c D ws x.kd x.sz al r = bornM c D ws x.kd x.sz al r := by simp [mallocM, hE]
    rw [hm]
    clear hm
    generalize (bornM c D ws x.kd x.sz al r).1 = o1 at BN ⊢
    generalize (bornM c D ws x.kd x.sz al r).2.1 = o2 at BN ⊢
    generalize (bornM c D ws x.kd x.sz al r).2.2 = o3 at BN ⊢
    go_enter Tryd.func39, Tryd.ntmps39
    go_wp2_with fail
    refine wp_region_more_tail 8 (by kernel_rfl) (by kernel_rfl) ?_
    simp only [List.take_succ_cons, List.take_zero, List.drop_succ_cons, List.drop_zero]
    iterate 8
      first
      | (refine wpQuiet_load_row rfl 30 _ rfl _ rfl 30 _ _ _ (fun W hW => hW.block HR.out) Tryd.underlying30 rfl (by kernel_rfl) ?_)
      | (refine wpQuiet_load_row rfl 25 _ rfl _ rfl 25 _ _ _ (fun W hW => hW.block HX.out) Tryd.underlying25 rfl (by kernel_rfl) ?_)
      | (refine wpQuiet_eqR _ _ (by with_reducible rfl) rfl (r) (errR 6) rfl rfl ?_; rw [hE])
      | (with_reducible refine wpQuiet_step (fun K hK => ?_)
         go_simp
         first
         | (refine hK _ ?_; clear hK K)
         | (apply Exists.intro
            refine ⟨fun W hW => ?_, hK _ ?_⟩
            first
            | (refine (md_refused 6 W).mono ?_; rintro e w' ⟨rfl, h'⟩; exact ⟨rfl, hW.trans h'⟩)
            | ((try go_simp); try rfl)
            clear hK K))
    refine wpQuiet_nil ?_
    intro w4 m4
    have M4 := Lib.hid (MM.out.trans m4)
    go_wp2_with (go_at_call 52; refine (BN.out w4 m4).mono ?_; intro e w5 hd; have HD := Lib.hid (MdDid.low M4.out hd); obtain ⟨rfl, _⟩ := hd; clear m4)
    go_ret
    exact HD.out

set_option maxRecDepth 100000 in
set_option maxHeartbeats 4000000 in
theorem md_answered1 {F : Nat → Prop} {p : Nat} {c : Cfg} {D : List BKV} {ws : List Int} (x : CL) (r : RP) (hk : x.kd = 1) (hn : x.sz ≤ 9223372036854775807) (hbad : badB x.sz 1 = false) (hra : r.ad ≤ 9223372036854775807) (w : World) (hs : Sizes w) (h : MdAt w F p c D ws) :
    Calls Tryd.prog 26 #[.pointer (some ⟨p, 0, none⟩), .agg x.arr, .agg r.arr] w (MdDid w F p c (mallocM c D ws x.kd x.sz 1 r).1 (mallocM c D ws x.kd x.sz 1 r).2.1 (mallocM c D ws x.kd x.sz 1 r).2.2) := by
  obtain ⟨w2, e2, h0, h1, m2, s2⟩ := entry2 w (.cells x.arr 25) (.cells r.arr 30)
  have HX := Lib.hid h0
  have HR := Lib.hid h1
  have MM := Lib.hid m2
  have ML := Lib.hid (md_malloc x r 1 hn (by decide) hbad hra w2 (hs.more m2) (h.more m2))
  obtain ⟨c0, c1, c2, c3, c4⟩ := cl_cells x HX.out
  clear hs h m2 h0 h1 hn hbad hra
  generalize (mallocM c D ws x.kd x.sz 1 r).1 = o1 at ML ⊢
  generalize (mallocM c D ws x.kd x.sz 1 r).2.1 = o2 at ML ⊢
  generalize (mallocM c D ws x.kd x.sz 1 r).2.2 = o3 at ML ⊢
  go_enter Tryd.func26, Tryd.ntmps26
  go_wp2_with (first | (refine wpList_load_row rfl 25 _ rfl _ rfl 25 _ _ _ HX.out Tryd.underlying25 rfl (by kernel_rfl) ?_) | (refine wpList_load_row rfl 30 _ rfl _ rfl 30 _ _ _ HR.out Tryd.underlying30 rfl (by kernel_rfl) ?_))
  refine ML.out.mono ?_
  intro e w3 hd
  have HD := Lib.hid (MdDid.low MM.out hd)
  obtain ⟨rfl, _⟩ := hd
  go_wp2_with fail
  go_ret
  exact HD.out
end Go.Proofs.YtahejbahnhohcaaDoor
