/-
  The landed model: Step, over what answers a call that may be.
-/
import Derived.Test.YtahejbahnhohcaaDoorMdJ
namespace Go.Proofs.YtahejbahnhohcaaDoor
open Go.RowKit Go.Sort
set_option linter.unusedVariables false
set_option linter.unusedSimpArgs false

/-- What Step makes of it. -/
def stepM (x : CL) (r : RP) (D : List BKV) (ws : List Int) (ans : Bool × List BKV × List Int) : Bool × List BKV × List Int :=
  if eqR r (errR 8) then (true, D, ws) else if askE x = 0 then ans else (eqR r (errR (askE x)), D, ws)
set_option maxRecDepth 100000 in
set_option maxHeartbeats 4000000 in
theorem md_step {F : Nat → Prop} {p : Nat} {c : Cfg} {D : List BKV} {ws : List Int} (x : CL) (r : RP) (hn : x.sz ≤ 9223372036854775807) (w : World) (hs : Sizes w) (h : MdAt w F p c D ws) (ans : Bool × List BKV × List Int)
    (ha : askE x = 0 → ∀ W, More w W → Calls Tryd.prog 26 #[.pointer (some ⟨p, 0, none⟩), .agg x.arr, .agg r.arr] W (MdDid W F p c ans.1 ans.2.1 ans.2.2)) :
    Calls Tryd.prog 9 #[.pointer (some ⟨p, 0, none⟩), .agg x.arr, .agg r.arr] w (MdDid w F p c (stepM x r D ws ans).1 (stepM x r D ws ans).2.1 (stepM x r D ws ans).2.2) := by
  obtain ⟨w2, e2, h0, h1, m2, s2⟩ := entry2 w (.cells x.arr 25) (.cells r.arr 30)
  have HX := Lib.hid h0
  have HR := Lib.hid h1
  have MM := Lib.hid m2
  have HA := Lib.hid ha
  have AS := Lib.hid (fun W (hW : More w W) => md_asks x hn W (hs.more hW))
  have HH := Lib.hid h
  clear hs h m2 h0 h1 hn ha
  cases hE : eqR r (errR 8) with
  | true =>
    have FIN : Hid (∀ W, More w W → MdDid w F p c (stepM x r D ws ans).1 (stepM x r D ws ans).2.1 (stepM x r D ws ans).2.2 (.returned (.bool true)) W) := Lib.hid fun W hW => by
      simp only [stepM, hE, if_true]
      exact MdDid.same HH.out hW
    generalize (stepM x r D ws ans).1 = o1 at FIN ⊢
    generalize (stepM x r D ws ans).2.1 = o2 at FIN ⊢
    generalize (stepM x r D ws ans).2.2 = o3 at FIN ⊢
    go_enter Tryd.func9, Tryd.ntmps9
    go_wp2_with fail
    refine wp_region_more (by kernel_rfl) (by kernel_rfl) ?_
    iterate 3
      first
      | (refine wpQuiet_load_row rfl 30 _ rfl _ rfl 30 _ _ _ (fun W hW => hW.block HR.out) Tryd.underlying30 rfl (by kernel_rfl) ?_)
      | (refine wpQuiet_eqR _ _ (by with_reducible rfl) rfl (r) (errR 8) rfl rfl ?_; rw [hE])
      | (with_reducible refine wpQuiet_step (fun K hK => ?_)
         go_simp
         first
         | (refine hK _ ?_; clear hK K)
         | (apply Exists.intro
            refine ⟨fun W hW => ?_, hK _ ?_⟩
            first
            | (refine (md_refused 8 W).mono ?_; rintro e w' ⟨rfl, h'⟩; exact ⟨rfl, hW.trans h'⟩)
            | ((try go_simp); try rfl)
            clear hK K))
    refine wpQuiet_nil ?_
    intro w4 m4
    have M4 := Lib.hid (MM.out.trans m4)
    clear m4
    go_wp2_with fail
    go_ret
    exact FIN.out _ M4.out
  | false =>
    by_cases hz0 : askE x = 0
    · have hm : stepM x r D ws ans = ans := by simp [stepM, hE, hz0]
      rw [hm]
      clear hm
      have HA := Lib.hid (HA.out hz0)
      rw [hz0] at AS
      clear hz0
      generalize ans.1 = o1 at HA ⊢
      generalize ans.2.1 = o2 at HA ⊢
      generalize ans.2.2 = o3 at HA ⊢
      go_enter Tryd.func9, Tryd.ntmps9
      go_wp2_with fail
      refine wp_region_more (by kernel_rfl) (by kernel_rfl) ?_
      iterate 3
        first
        | (refine wpQuiet_load_row rfl 30 _ rfl _ rfl 30 _ _ _ (fun W hW => hW.block HR.out) Tryd.underlying30 rfl (by kernel_rfl) ?_)
        | (refine wpQuiet_eqR _ _ (by with_reducible rfl) rfl (r) (errR 8) rfl rfl ?_; rw [hE])
        | (with_reducible refine wpQuiet_step (fun K hK => ?_)
           go_simp
           first
           | (refine hK _ ?_; clear hK K)
           | (apply Exists.intro
              refine ⟨fun W hW => ?_, hK _ ?_⟩
              first
              | (refine (md_refused 8 W).mono ?_; rintro e w' ⟨rfl, h'⟩; exact ⟨rfl, hW.trans h'⟩)
              | ((try go_simp); try rfl)
              clear hK K))
      refine wpQuiet_nil ?_
      intro w4 m4
      have M4 := Lib.hid (MM.out.trans m4)
      have X4 := Lib.hid (m4.block HX.out)
      have R4 := Lib.hid (m4.block HR.out)
      clear m4
      go_wp2_with (first | (refine wpList_load_row rfl 25 _ rfl _ rfl 25 _ _ _ X4.out Tryd.underlying25 rfl (by kernel_rfl) ?_) | (refine wpList_load_row rfl 30 _ rfl _ rfl 30 _ _ _ R4.out Tryd.underlying30 rfl (by kernel_rfl) ?_))
      refine (AS.out _ M4.out).mono ?_
      rintro e w5 ⟨rfl, h5⟩
      have M5 := Lib.hid (M4.out.trans h5)
      have X5 := Lib.hid (h5.block X4.out)
      have R5 := Lib.hid (h5.block R4.out)
      clear h5 X4 R4 M4
      go_wp2_with (first | (refine wpList_load_row rfl 25 _ rfl _ rfl 25 _ _ _ X5.out Tryd.underlying25 rfl (by kernel_rfl) ?_) | (refine wpList_load_row rfl 30 _ rfl _ rfl 30 _ _ _ R5.out Tryd.underlying30 rfl (by kernel_rfl) ?_))
      refine (HA.out _ M5.out).mono ?_
      intro e w6 hd
      have HD := Lib.hid (MdDid.low M5.out hd)
      obtain ⟨rfl, _⟩ := hd
      go_wp2_with fail
      go_ret
      exact HD.out
    · have FIN : Hid (∀ W, More w W → MdDid w F p c (stepM x r D ws ans).1 (stepM x r D ws ans).2.1 (stepM x r D ws ans).2.2 (.returned (.bool (eqR r (errR (askE x))))) W) := Lib.hid fun W hW => by
        simp only [stepM, hE, if_neg hz0]
        exact MdDid.same HH.out hW
      generalize (stepM x r D ws ans).1 = o1 at FIN ⊢
      generalize (stepM x r D ws ans).2.1 = o2 at FIN ⊢
      generalize (stepM x r D ws ans).2.2 = o3 at FIN ⊢
      generalize askE x = z at AS FIN hz0
      have dz : (z == 0) = false := by simpa using hz0
      go_enter Tryd.func9, Tryd.ntmps9
      go_wp2_with fail
      refine wp_region_more (by kernel_rfl) (by kernel_rfl) ?_
      iterate 3
        first
        | (refine wpQuiet_load_row rfl 30 _ rfl _ rfl 30 _ _ _ (fun W hW => hW.block HR.out) Tryd.underlying30 rfl (by kernel_rfl) ?_)
        | (refine wpQuiet_eqR _ _ (by with_reducible rfl) rfl (r) (errR 8) rfl rfl ?_; rw [hE])
        | (with_reducible refine wpQuiet_step (fun K hK => ?_)
           go_simp
           first
           | (refine hK _ ?_; clear hK K)
           | (apply Exists.intro
              refine ⟨fun W hW => ?_, hK _ ?_⟩
              first
              | (refine (md_refused 8 W).mono ?_; rintro e w' ⟨rfl, h'⟩; exact ⟨rfl, hW.trans h'⟩)
              | ((try go_simp); try rfl)
              clear hK K))
      refine wpQuiet_nil ?_
      intro w4 m4
      have M4 := Lib.hid (MM.out.trans m4)
      have X4 := Lib.hid (m4.block HX.out)
      have R4 := Lib.hid (m4.block HR.out)
      clear m4
      go_wp2_with (first | (refine wpList_load_row rfl 25 _ rfl _ rfl 25 _ _ _ X4.out Tryd.underlying25 rfl (by kernel_rfl) ?_) | (refine wpList_load_row rfl 30 _ rfl _ rfl 30 _ _ _ R4.out Tryd.underlying30 rfl (by kernel_rfl) ?_))
      refine (AS.out _ M4.out).mono ?_
      rintro e w5 ⟨rfl, h5⟩
      have M5 := Lib.hid (M4.out.trans h5)
      have R4 := Lib.hid (h5.block R4.out)
      clear h5 X4 M4
      go_wp2_with fail
      refine wp_region_more (by kernel_rfl) (by kernel_rfl) ?_
      iterate 5
        first
        | (refine wpQuiet_load_row rfl 30 _ rfl _ rfl 30 _ _ _ (fun W hW => hW.block R4.out) Tryd.underlying30 rfl (by kernel_rfl) ?_)
        | (refine wpQuiet_eqR _ _ (by with_reducible rfl) rfl (r) (errR z) rfl rfl ?_)
        | (with_reducible refine wpQuiet_step (fun K hK => ?_)
           go_simp
           first
           | (refine hK _ ?_; clear hK K)
           | (apply Exists.intro
              refine ⟨fun W hW => ?_, hK _ ?_⟩
              first
              | (refine (md_refused z W).mono ?_; rintro e w' ⟨rfl, h'⟩; exact ⟨rfl, hW.trans h'⟩)
              | ((try go_simp); try rfl)
              clear hK K))
      refine wpQuiet_nil ?_
      intro w6 m6
      have M6 := Lib.hid (M5.out.trans m6)
      clear m6
      go_wp2_with fail
      go_ret
      exact FIN.out _ M6.out
end Go.Proofs.YtahejbahnhohcaaDoor
