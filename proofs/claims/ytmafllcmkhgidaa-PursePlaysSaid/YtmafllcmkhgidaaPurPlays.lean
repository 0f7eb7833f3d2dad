/-
  Layer 13's statement of any steps: the walk.
-/
import Derived.Test.YtmafllcmkhgidaaPurSame
namespace Go.Proofs.Ytmafllcmkhgidaa
open Go.RowKit Go.Shelf
set_option linter.unusedVariables false
set_option linter.unusedSimpArgs false

theorem pushR_len (its : List It) (c a l : Int) : (pushR its c a l).length ≤ its.length + 1 := by
  unfold pushR
  split
  · simp
  · omega
set_option maxRecDepth 100000 in
set_option maxHeartbeats 4000000 in
theorem plays13_walk (ad : Option Addr) (n cap : Nat) (l : Nat → Nat → Int) (x : Int) (w : World) (h : IsFours w ad n l) (hm : n ≤ 9223372036854775807) :
    Calls Try.prog 3 #[.slice ad n cap, .int .i64 x] w (Gives w (.bool true)) := by
  have LV : Hid (∀ w', Calls Try.prog 5 #[] w' (Gives w' (.bool true))) := Lib.hid lives13_ok
  by_cases h100 : 100 < n
  · have d0 : decide ((100 : Int) < (n : Int)) = true := by simp; omega
    clear h h100
    go_enter Try.func3, Try.ntmps3
    go_wp2_with fail
    refine (LV.out w).mono ?_
    rintro e w2 ⟨rfl, h2⟩
    have M2 := Lib.hid h2
    clear h2
    go_wp2_with fail
    go_ret
    exact ⟨rfl, M2.out⟩
  have d0 : decide ((100 : Int) < (n : Int)) = false := by simp; omega
  obtain ⟨w2, e2, hl1, hl2, m2, s2⟩ := en2 w (.cells #[.slice none 0 0, .slice none 0 0, .slice none 0 0, .slice none 0 0, .slice none 0 0] 27) (.cells #[.slice none 0 0] 30)
  have M2 := Lib.hid m2
  have B0 : Hid (BothAt w2 w.heap.size (w.heap.size + 1) (aftP l 0) 0) := Lib.hid ⟨fun _ => .slice none 0 0, _, [], hl1, hl2, pu_zero w2, IR.nil _ _, eqv_zero, Nat.le_refl _⟩
  have S2 := Lib.hid s2
  have HH := Lib.hid h
  have H100 := Lib.hid h100
  clear hl1 hl2 m2 s2 h h100
  go_enter Try.func3, Try.ntmps3
  go_wp2_with fail
  clear e2
  go_loopw [7] (fun i wr => ∃ k : Nat, k ≤ n ∧ i = .int .i64 k ∧ BothAt wr w.heap.size (w.heap.size + 1) (aftP l k) k ∧ Turned (fun b => b = w.heap.size ∨ b = w.heap.size + 1) w2 wr) (fun i _ => n - (intOf i).toNat)
  case atStart => exact ⟨0, by omega, rfl, B0.out, Turned.refl _ _⟩
  case round =>
    obtain ⟨k, hk, rfl, hb, ht⟩ := hrel
    by_cases hlt : k < n
    · obtain ⟨f, v, its, b5, b6, pu, ir, ev, il⟩ := hb
      have B5 := Lib.hid b5
      have B6 := Lib.hid b6
      have PU := Lib.hid pu
      have IX := Lib.hid ir
      have EV := Lib.hid ev
      have HT := Lib.hid ht
      have h2 := H100.out
      have HLN : Hid (∀ j, j < 5 → (aftP l k j).length ≤ 1000000) := Lib.hid (fun j _ => by have := aft_len l j k; omega)
      have ILN : Hid (its.length ≤ 100000) := Lib.hid (by omega)
      obtain ⟨s, o, rfl, hs, c0, c1, c2, c3⟩ := HH.out.at hlt
      have ns : s ≠ w.heap.size ∧ s ≠ w.heap.size + 1 := by omega
      have KC : Hid (∀ W, More wr W → ∀ j v, w.cell? ⟨s, j, none⟩ = some v → W.cell? ⟨s, j, none⟩ = some v) := Lib.hid fun W hW j v hv => by
        have b1 : W.heap[s]? = w.heap[s]? := by
          rw [Turned.block hW s (by have := HT.out.size; have := S2.out; omega) (fun q => q), Turned.block HT.out s (by have := S2.out; omega) (by omega), Turned.block M2.out s hs (fun q => q)]
        rw [World.cell?_of_block (w := w) b1]; exact hv
      have C0 := Lib.hid c0; have C1 := Lib.hid c1; have C2 := Lib.hid c2; have C3 := Lib.hid c3
      have x0 := KC.out wr (More.refl _) _ _ c0
      clear c0 c1 c2 c3 hs ns b5 b6 pu ir ev ht
      by_cases e : l k 0 = 2
      · have d1 : (l k 0 == 2) = true := by simp [e]
        obtain ⟨its', pop, ev'⟩ := EV.out.pop (l k 1)
        have NEXT := Lib.hid (show aftP l (k + 1) = popP (aftP l k) (l k 1) by rw [aftP]; unfold stepP; rw [if_pos e])
        have CL : Hid (∀ W, More wr W → Calls Try.prog 6 #[.agg (puA f), .int .i64 (l k 1)] W (GavePu W (popP (aftP l k) (l k 1)) (fun v => .tuple #[v, .int .i64 (popX (aftP l k) (l k 1)), .bool (popB (aftP l k) (l k 1))]))) := Lib.hid fun W hW => p_Pop f (aftP l k) (l k 1) W (PU.out.more hW) HLN.out
        have CD : Hid (∀ W, More wr W → Calls Try.prog 7 #[.agg #[v], .int .i64 (l k 1)] W (GaveIt W its' (fun v => .tuple #[v, .int .i64 (popX (aftP l k) (l k 1)), .bool (popB (aftP l k) (l k 1))]))) := Lib.hid fun W hW => pop.calls v W (IX.out.more hW) ILN.out
        have EV' := Lib.hid ev'
        have IL' := Lib.hid (show its'.length ≤ k + 1 by have := pop.len; omega)
        clear e pop ev'
        generalize hz : l k 0 = y0 at *
        clear hz
        generalize hX : popX (aftP l k) (l k 1) = X at CL CD
        generalize hB : popB (aftP l k) (l k 1) = B at CL CD
        generalize hP : popP (aftP l k) (l k 1) = PN at CL NEXT EV'
        obtain ⟨IN, hI⟩ : ∃ IN, its' = IN := ⟨_, rfl⟩
        rw [hI] at CD EV' IL'
        clear hX hB hP hI EV
        go_wp2_with fail
        refine wp_region_anyC (More wr) (by kernel_rfl) ?_
        change anyC _ _ _ _ _ _ _ _ (wr.drewN 1)
        have MR : Hid (More wr (wr.drewN 1)) := Lib.hid ((More.refl wr).drewN 1)
        generalize wr.drewN 1 = wq at MR ⊢
        generalize hA : Act.mk _ _ = A
        have HF : AG 126 A [(0, .slice (some ⟨s, o, none⟩) n cap), (5, .pointer (some ⟨w.heap.size, 0, none⟩)), (6, .pointer (some ⟨w.heap.size + 1, 0, none⟩)), (7, .int .i64 (k : Int))] := by
          rw [← hA]
          refine ⟨⟨Nat.le_of_ble_eq_true rfl, rfl⟩, ?_⟩
          intro z hz; simp only [List.mem_cons, List.not_mem_nil, or_false] at hz; rcases hz with rfl | rfl | rfl | rfl <;> rfl
        refine anyC_start (fun a W => ∃ (u35 u36 u37 u38 u39 u40 u41 u34 u42 u43 u44 : Value) (g : Nat) (f9 : Nat → Value), (a = (Act.put (Act.put (Act.put (Act.put (Act.put (Act.put (Act.put (Act.put (Act.put (Act.put (Act.put (Act.put (Act.put (Act.put (Act.put A (some 35) u35) (some 36) u36) (some 37) u37) (some 38) u38) (some 39) u39) (some 40) u40) (some 41) u41) (some 34) u34) (some 42) u42) (some 43) u43) (some 44) u44) (some 8) (.pointer (some ⟨g, 0, none⟩))) none undef) (some 9) (.int .i64 X)) (some 10) (.bool B)) ∨ a = (Act.put (Act.put (Act.put (Act.put (Act.put (Act.put (Act.put (Act.put (Act.put (Act.put (Act.put (Act.put (Act.put (Act.put (Act.put A (some 35) u35) (some 36) u36) (some 37) u37) (some 38) u38) (some 39) u39) (some 40) u40) (some 8) (.pointer (some ⟨g, 0, none⟩))) (some 41) u41) (some 34) u34) (some 42) u42) (some 43) u43) (some 44) u44) none undef) (some 9) (.int .i64 X)) (some 10) (.bool B))) ∧ W.heap[g]? = some (.cells (puA f9) 27 (0, 0)) ∧ Pu W f9 PN ∧ More wr W ∧ wr.heap.size ≤ g) (fun _ => False) [] (fun a W hd h => h.elim) (fun _ _ _ _ _ h => h) ?_ ?_
        · skip
          rintro a9 wa ⟨u35, u36, u37, u38, u39, u40, u41, u34, u42, u43, u44, g, f8, hn, h8, p8, m8, hg8⟩
          have E : (Act.put (Act.put (Act.put (Act.put (Act.put (Act.put (Act.put (Act.put (Act.put (Act.put (Act.put (Act.put (Act.put (Act.put (Act.put A (some 35) u35) (some 36) u36) (some 37) u37) (some 38) u38) (some 39) u39) (some 40) u40) (some 8) (.pointer (some ⟨g, 0, none⟩))) (some 41) u41) (some 34) u34) (some 42) u42) (some 43) u43) (some 44) u44) none undef) (some 9) (.int .i64 X)) (some 10) (.bool B)) = (Act.put (Act.put (Act.put (Act.put (Act.put (Act.put (Act.put (Act.put (Act.put (Act.put (Act.put (Act.put (Act.put (Act.put (Act.put A (some 35) u35) (some 36) u36) (some 37) u37) (some 38) u38) (some 39) u39) (some 40) u40) (some 41) u41) (some 34) u34) (some 42) u42) (some 43) u43) (some 44) u44) (some 8) (.pointer (some ⟨g, 0, none⟩))) none undef) (some 9) (.int .i64 X)) (some 10) (.bool B)) := by rw [← hA]; kernel_rfl
          have hn : a9 = (Act.put (Act.put (Act.put (Act.put (Act.put (Act.put (Act.put (Act.put (Act.put (Act.put (Act.put (Act.put (Act.put (Act.put (Act.put A (some 35) u35) (some 36) u36) (some 37) u37) (some 38) u38) (some 39) u39) (some 40) u40) (some 41) u41) (some 34) u34) (some 42) u42) (some 43) u43) (some 44) u44) (some 8) (.pointer (some ⟨g, 0, none⟩))) none undef) (some 9) (.int .i64 X)) (some 10) (.bool B)) := by
            rcases hn with q | q
            · exact q
            · exact q.trans E
          subst hn
          rw [← hA]
          obtain ⟨g8, rfl⟩ : ∃ g8, g8 = g := ⟨_, rfl⟩
          have H8 := Lib.hid h8
          have P8 := Lib.hid p8
          have G8 := Lib.hid hg8
          have MA := Lib.hid m8
          have B5 := Lib.hid (m8.block B5.out)
          have B6 := Lib.hid (m8.block B6.out)
          have IX := Lib.hid (IX.out.more m8)
          have KC := Lib.hid (fun W (hW : More wa W) => KC.out W (m8.trans hW))
          have CL := Lib.hid (fun W (hW : More wa W) => CD.out W (m8.trans hW))
          clear HF hA MR E h8 p8 hg8 m8 CD
          go_simp
          go_wp2_with fail
          refine wp_region_anyC (More wa) (by kernel_rfl) ?_
          change anyC _ _ _ _ _ _ _ _ (wa.drewN 1)
          have MR : Hid (More wa (wa.drewN 1)) := Lib.hid ((More.refl wa).drewN 1)
          generalize wa.drewN 1 = wq at MR ⊢
          generalize hA : Act.mk _ _ = A
          have HF : AG 126 A [(0, .slice (some ⟨s, o, none⟩) n cap), (5, .pointer (some ⟨w.heap.size, 0, none⟩)), (6, .pointer (some ⟨w.heap.size + 1, 0, none⟩)), (7, .int .i64 (k : Int))] := by
            rw [← hA]
            refine ⟨⟨Nat.le_of_ble_eq_true rfl, rfl⟩, ?_⟩
            intro z hz; simp only [List.mem_cons, List.not_mem_nil, or_false] at hz; rcases hz with rfl | rfl | rfl | rfl <;> rfl
          refine anyC_start (fun a W => ∃ (u46 u47 u48 u49 u50 u51 u52 u45 u53 u54 u55 : Value) (g : Nat) (v9 : Value), (a = (Act.put (Act.put (Act.put (Act.put (Act.put (Act.put (Act.put (Act.put (Act.put (Act.put (Act.put (Act.put (Act.put (Act.put (Act.put A (some 46) u46) (some 47) u47) (some 48) u48) (some 49) u49) (some 50) u50) (some 51) u51) (some 52) u52) (some 45) u45) (some 53) u53) (some 54) u54) (some 55) u55) (some 11) (.pointer (some ⟨g, 0, none⟩))) none undef) (some 12) (.int .i64 X)) (some 13) (.bool B)) ∨ a = (Act.put (Act.put (Act.put (Act.put (Act.put (Act.put (Act.put (Act.put (Act.put (Act.put (Act.put (Act.put (Act.put (Act.put (Act.put A (some 46) u46) (some 47) u47) (some 48) u48) (some 49) u49) (some 50) u50) (some 51) u51) (some 11) (.pointer (some ⟨g, 0, none⟩))) (some 52) u52) (some 45) u45) (some 53) u53) (some 54) u54) (some 55) u55) none undef) (some 12) (.int .i64 X)) (some 13) (.bool B))) ∧ W.heap[g]? = some (.cells #[v9] 30 (0, 0)) ∧ IR 0 W v9 IN ∧ More wa W ∧ wa.heap.size ≤ g) (fun _ => False) [] (fun a W hd h => h.elim) (fun _ _ _ _ _ h => h) ?_ ?_
          · skip
            rintro a9 wb ⟨u46, u47, u48, u49, u50, u51, u52, u45, u53, u54, u55, g, v11, hn, h11, p11, m11, hg11⟩
            have E : (Act.put (Act.put (Act.put (Act.put (Act.put (Act.put (Act.put (Act.put (Act.put (Act.put (Act.put (Act.put (Act.put (Act.put (Act.put A (some 46) u46) (some 47) u47) (some 48) u48) (some 49) u49) (some 50) u50) (some 51) u51) (some 11) (.pointer (some ⟨g, 0, none⟩))) (some 52) u52) (some 45) u45) (some 53) u53) (some 54) u54) (some 55) u55) none undef) (some 12) (.int .i64 X)) (some 13) (.bool B)) = (Act.put (Act.put (Act.put (Act.put (Act.put (Act.put (Act.put (Act.put (Act.put (Act.put (Act.put (Act.put (Act.put (Act.put (Act.put A (some 46) u46) (some 47) u47) (some 48) u48) (some 49) u49) (some 50) u50) (some 51) u51) (some 52) u52) (some 45) u45) (some 53) u53) (some 54) u54) (some 55) u55) (some 11) (.pointer (some ⟨g, 0, none⟩))) none undef) (some 12) (.int .i64 X)) (some 13) (.bool B)) := by rw [← hA]; kernel_rfl
            have hn : a9 = (Act.put (Act.put (Act.put (Act.put (Act.put (Act.put (Act.put (Act.put (Act.put (Act.put (Act.put (Act.put (Act.put (Act.put (Act.put A (some 46) u46) (some 47) u47) (some 48) u48) (some 49) u49) (some 50) u50) (some 51) u51) (some 52) u52) (some 45) u45) (some 53) u53) (some 54) u54) (some 55) u55) (some 11) (.pointer (some ⟨g, 0, none⟩))) none undef) (some 12) (.int .i64 X)) (some 13) (.bool B)) := by
              rcases hn with q | q
              · exact q
              · exact q.trans E
            subst hn
            rw [← hA]
            obtain ⟨g11, rfl⟩ : ∃ g11, g11 = g := ⟨_, rfl⟩
            have H8 := Lib.hid (m11.block H8.out)
            have P8 := Lib.hid (P8.out.more m11)
            have H11 := Lib.hid h11
            have P11 := Lib.hid p11
            have G11 := Lib.hid hg11
            have B5 := Lib.hid (m11.block B5.out)
            have B6 := Lib.hid (m11.block B6.out)
            have MB := Lib.hid (MA.out.trans m11)
            have HT2 := Lib.hid (HT.out.trans (Turned.mono MB.out (fun _ _ q => q.elim)))
            have O8 := Lib.hid P8.out.all1
            have O11 : Hid ((#[v11] : Array Value).all (·.oneCell') = true) := Lib.hid (by simp [p11.one])
            have s8 : w.heap.size + 1 < g8 := by have := G8.out; have := HT.out.size; have := S2.out; omega
            have s11 : w.heap.size + 1 < g11 := by have := hg11; have := MA.out.size; have := HT.out.size; have := S2.out; omega
            obtain ⟨wc, ec⟩ : ∃ wc, wb.setRow w.heap.size (puA f8) = wc := ⟨_, rfl⟩
            have tc : Turned (fun b => b = w.heap.size) wb wc := by rw [← ec]; exact Turned.setRow (Turned.refl _ wb) _ _ (fun _ => rfl)
            have bc : wc.heap[w.heap.size]? = some (.cells (puA f8) 27 (0, 0)) := by rw [← ec]; exact setRow_heap _ _ _ _ _ _ B5.out
            have bc6 := (tc.block _ (lt_of_heap B6.out) (by omega)).trans B6.out
            have bc11 := (tc.block _ (lt_of_heap h11) (by omega)).trans h11
            have pc8 := P8.out.keep tc (fun k q => by subst q; exact ⟨_, _, _, B5.out, by decide⟩)
            have pc11 := p11.keep tc (fun k q => by subst q; exact ⟨_, _, _, B5.out, by decide⟩)
            obtain ⟨wd, ed⟩ : ∃ wd, wc.setRow (w.heap.size + 1) #[v11] = wd := ⟨_, rfl⟩
            have td : Turned (fun b => b = w.heap.size + 1) wc wd := by rw [← ed]; exact Turned.setRow (Turned.refl _ wc) _ _ (fun _ => rfl)
            have D6 : Hid (wd.heap[w.heap.size + 1]? = some (.cells #[v11] 30 (0, 0))) := Lib.hid (by rw [← ed]; exact setRow_heap _ _ _ _ _ _ bc6)
            have D5 := Lib.hid ((td.block _ (lt_of_heap bc) (by omega)).trans bc)
            have PD := Lib.hid (pc8.keep td (fun k q => by subst q; exact ⟨_, _, _, bc6, by decide⟩))
            have ID := Lib.hid (pc11.keep td (fun k q => by subst q; exact ⟨_, _, _, bc6, by decide⟩))
            have HT3 : Hid (Turned (fun b => b = w.heap.size ∨ b = w.heap.size + 1) w2 wd) := Lib.hid ((HT2.out.trans (tc.mono fun _ _ q => .inl q)).trans (td.mono fun _ _ q => .inr q))
            have C6 := Lib.hid bc6
            have C11 := Lib.hid bc11
            clear HF hA MR E h11 p11 hg11 m11 tc td bc bc6 bc11 pc8 pc11 MA MB HT HT2 KC CL P11 IX x0 s8 s11
            go_simp
            go_wp2_with (first
              | (refine wpList_load_row rfl 27 _ rfl g8 rfl 27 _ _ _ H8.out Try.underlying27 rfl (by kernel_rfl) ?_)
              | (refine wpList_store_row rfl 27 _ _ rfl w.heap.size (puA f8) rfl rfl 27 _ B5.out (by kernel_rfl) rfl O8.out ?_; rw [ec]; clear ec)
              | (refine wpList_load_row rfl 30 _ rfl g11 rfl 30 _ _ _ C11.out Try.underlying30 rfl (by kernel_rfl) ?_)
              | (refine wpList_store_row rfl 30 _ _ rfl (w.heap.size + 1) #[v11] rfl rfl 30 _ C6.out (by kernel_rfl) rfl O11.out ?_; rw [ed]; clear ed))
            have SM := Lib.hid (fun W (hW : More wd W) => pl_Same f8 PN v11 IN W (PD.out.more hW) (ID.out.more hW) EV'.out (by have := IL'.out; omega) (fun j => by rw [← NEXT.out]; have := aft_len l j (k + 1); omega))
            have OF := Lib.hid (fun W => pl_Of f8 W O8.out)
            have HS := Lib.hid (fun W (hW : More wd W) => p_Has f8 PN x W (PD.out.more hW) (fun j _ => by rw [← NEXT.out]; have := aft_len l j (k + 1); omega))
            have RS := Lib.hid (fun W (hW : More wd W) => r_Has v11 IN x W (ID.out.more hW) (by have := IL'.out; omega))
            obtain ⟨hh, hhh⟩ : ∃ b, hasD (allTo PN 5) x = b := ⟨_, rfl⟩
            rw [hhh] at HS
            rw [← EV'.out.has x, hhh] at RS
            have dh : (hh != hh) = false := by simp
            clear hhh
            refine wp_region_more (by kernel_rfl) (by kernel_rfl) ?_
            refine wpQuiet_load_row rfl 27 _ rfl w.heap.size rfl 27 _ _ _ (fun W hW => hW.block D5.out) Try.underlying27 rfl (by kernel_rfl) ?_
            iterate 1
              with_reducible refine wpQuiet_step (fun K hK => ?_)
              go_simp
              first
              | (refine hK _ ?_; clear hK K)
              | (apply Exists.intro
                 refine ⟨fun W hW => ?_, hK _ ?_⟩
                 first
                 | (go_at_call 10; exact Calls.more hW (OF.out W))
                 | (go_simp; try rfl)
                 clear hK K)
            refine wpQuiet_load_row rfl 30 _ rfl (w.heap.size + 1) rfl 30 _ _ _ (fun W hW => hW.block D6.out) Try.underlying30 rfl (by kernel_rfl) ?_
            iterate 1
              with_reducible refine wpQuiet_step (fun K hK => ?_)
              go_simp
              first
              | (refine hK _ ?_; clear hK K)
              | (apply Exists.intro
                 refine ⟨fun W hW => ?_, hK _ ?_⟩
                 first
                 | (go_at_call 11; exact Calls.more hW (SM.out W hW))
                 | (go_simp; try rfl)
                 clear hK K)
            iterate 2
              with_reducible refine wpQuiet_step (fun K hK => ?_)
              go_simp
              first
              | (refine hK _ ?_; clear hK K)
              | (apply Exists.intro
                 refine ⟨fun W hW => ?_, hK _ ?_⟩
                 first
                 | (go_simp; try rfl)
                 clear hK K)
            refine wpQuiet_load_row rfl 27 _ rfl w.heap.size rfl 27 _ _ _ (fun W hW => hW.block D5.out) Try.underlying27 rfl (by kernel_rfl) ?_
            iterate 1
              with_reducible refine wpQuiet_step (fun K hK => ?_)
              go_simp
              first
              | (refine hK _ ?_; clear hK K)
              | (apply Exists.intro
                 refine ⟨fun W hW => ?_, hK _ ?_⟩
                 first
                 | (go_simp; try rfl)
                 clear hK K)
            iterate 1
              with_reducible refine wpQuiet_step (fun K hK => ?_)
              go_simp
              first
              | (refine hK _ ?_; clear hK K)
              | (apply Exists.intro
                 refine ⟨fun W hW => ?_, hK _ ?_⟩
                 first
                 | (go_at_call 12; exact Calls.more hW (HS.out W hW))
                 | (go_simp; try rfl)
                 clear hK K)
            refine wpQuiet_load_row rfl 30 _ rfl (w.heap.size + 1) rfl 30 _ _ _ (fun W hW => hW.block D6.out) Try.underlying30 rfl (by kernel_rfl) ?_
            iterate 1
              with_reducible refine wpQuiet_step (fun K hK => ?_)
              go_simp
              first
              | (refine hK _ ?_; clear hK K)
              | (apply Exists.intro
                 refine ⟨fun W hW => ?_, hK _ ?_⟩
                 first
                 | (go_simp; try rfl)
                 clear hK K)
            iterate 1
              with_reducible refine wpQuiet_step (fun K hK => ?_)
              go_simp
              first
              | (refine hK _ ?_; clear hK K)
              | (apply Exists.intro
                 refine ⟨fun W hW => ?_, hK _ ?_⟩
                 first
                 | (go_at_call 13; exact Calls.more hW (RS.out W hW))
                 | (go_simp; try rfl)
                 clear hK K)
            iterate 2
              with_reducible refine wpQuiet_step (fun K hK => ?_)
              go_simp
              first
              | (refine hK _ ?_; clear hK K)
              | (apply Exists.intro
                 refine ⟨fun W hW => ?_, hK _ ?_⟩
                 first
                 | (go_simp; try rfl)
                 clear hK K)
            refine wpQuiet_nil ?_
            intro we me
            have FB : Hid (BothAt we w.heap.size (w.heap.size + 1) (aftP l (k + 1)) (k + 1)) := Lib.hid (by rw [NEXT.out]; exact ⟨f8, v11, IN, me.block D5.out, me.block D6.out, PD.out.more me, ID.out.more me, EV'.out, IL'.out⟩)
            have FT := Lib.hid (HT3.out.trans (Turned.mono me (fun _ _ q => q.elim)))
            clear me SM OF HS RS PD ID D5 D6
            go_wp2_with fail
            go_roundw
            case rel => exact ⟨k + 1, by omega, by go_num, FB.out, FT.out⟩
            case measure => simp [intOf]; omega
          intro QQ FINE FIND FINQ
          clear hA
          refine anyC_takeD (i := 0) (v := .agg #[v]) (some 46) rfl rfl (by kernel_rfl) (by kernel_rfl) (by kernel_rfl) (fun c a w => FINQ c a _ _ w) MR.out (by exact yieldsC_row (C := More wa) (wanted_none rfl) 30 _ rfl (w.heap.size + 1) (HF.get 2 rfl) 30 _ _ _ (fun W hW => hW.block B6.out) Try.underlying30 rfl (by kernel_rfl)) ?_
          replace HF := HF.put 46 (.agg #[v]) (by decide) rfl
          generalize hB1_46 : Act.put _ _ _ = A at HF ⊢
          refine anyC_takeD (i := 1) (v := .slice (some ⟨s, o, none⟩) n cap) (some 47) rfl rfl (by kernel_rfl) (by kernel_rfl) (by kernel_rfl) (fun c a w => FINQ c a _ _ w) MR.out (by exact yieldsC_moveG (wanted_none rfl) _ rfl (HF.get 1 rfl)) ?_
          replace HF := HF.put 47 (.slice (some ⟨s, o, none⟩) n cap) (by decide) rfl
          generalize hB2_47 : Act.put _ _ _ = A at HF ⊢
          refine anyC_takeD (i := 2) (v := .int .i64 (k : Int)) (some 48) rfl rfl (by kernel_rfl) (by kernel_rfl) (by kernel_rfl) (fun c a w => FINQ c a _ _ w) MR.out (by exact yieldsC_moveG (wanted_none rfl) _ rfl (HF.get 5 rfl)) ?_
          replace HF := HF.put 48 (.int .i64 (k : Int)) (by decide) rfl
          generalize hB3_48 : Act.put _ _ _ = A at HF ⊢
          refine anyC_takeD (i := 3) (v := .pointer (some ⟨s, o + k * 4, none⟩)) (some 49) rfl rfl (by kernel_rfl) (by kernel_rfl) (by kernel_rfl) (fun c a w => FINQ c a _ _ w) MR.out (by exact yieldsC_act13 (wanted_none rfl) rfl (HF.get 1 rfl) (HF.get 0 rfl) hlt) ?_
          replace HF := HF.put 49 (.pointer (some ⟨s, o + k * 4, none⟩)) (by decide) rfl
          generalize hB4_49 : Act.put _ _ _ = A at HF ⊢
          refine anyC_takeD (i := 4) (v := .pointer (some ⟨s, o + k * 4 + 1, none⟩)) (some 50) rfl rfl (by kernel_rfl) (by kernel_rfl) (by kernel_rfl) (fun c a w => FINQ c a _ _ w) MR.out (by exact (Or.inl ⟨(wanted_none rfl), fun W hW => by have h5 := (HF.getD 0 rfl); go_simp⟩)) ?_
          replace HF := HF.put 50 (.pointer (some ⟨s, o + k * 4 + 1, none⟩)) (by decide) rfl
          generalize hB5_50 : Act.put _ _ _ = A at HF ⊢
          refine anyC_takeD (i := 5) (v := .int .i64 (l k 1)) (some 51) rfl rfl (by kernel_rfl) (by kernel_rfl) (by kernel_rfl) (fun c a w => FINQ c a _ _ w) MR.out (by exact yieldsC_cell (C := (More wa)) (wanted_none rfl) 3 _ rfl s (o + k * 4 + 1) (HF.get 0 rfl) (.int .i64 (l k 1)) _ Try.underlying3 rfl (fun W hW => KC.out W hW _ _ C1.out)) ?_
          replace HF := HF.put 51 (.int .i64 (l k 1)) (by decide) rfl
          generalize hB6_51 : Act.put _ _ _ = A at HF ⊢
          refine anyC_two (i := 6) (j := 11) (some 52) (some 11) (by kernel_rfl) rfl rfl (wanted_none rfl) (wanted_none rfl) rfl rfl (fun K hK => ?_) (fun K hK => ?_)
          · refine wp_call2 rfl (HF.get 5 rfl) (HF.get 0 rfl) (enters_of Try.func7 (by kernel_rfl) rfl) ?_
            refine (CL.out wq MR.out).mono ?_
            rintro e w7 ⟨v7, rfl, h7, m7⟩
            have P7 := Lib.hid h7
            have M7 := Lib.hid (MR.out.trans m7)
            refine hK _ _ M7.out ?_
            clear hK K m7
            replace HF := HF.put 52 (.tuple #[.agg #[v7], .int .i64 X, .bool B]) (by decide) rfl
            generalize hB7_52 : Act.put _ _ _ = A at HF ⊢
            refine anyC_takeD (i := 7) (v := .tuple #[.agg #[v7], .int .i64 X, .bool B]) (some 45) rfl rfl (by kernel_rfl) (by kernel_rfl) (by kernel_rfl) (fun c a w => FINQ c a _ _ w) M7.out (by exact yieldsC_moveG (wanted_none rfl) _ rfl (HF.get 0 rfl)) ?_
            replace HF := HF.put 45 (.tuple #[.agg #[v7], .int .i64 X, .bool B]) (by decide) rfl
            generalize hB8_45 : Act.put _ _ _ = A at HF ⊢
            refine anyC_takeD (i := 8) (v := .agg #[v7]) (some 53) rfl rfl (by kernel_rfl) (by kernel_rfl) (by kernel_rfl) (fun c a w => FINQ c a _ _ w) M7.out (by exact (Or.inl ⟨(wanted_none rfl), fun W hW => by have h5 := (HF.getD 0 rfl); go_simp⟩)) ?_
            replace HF := HF.put 53 (.agg #[v7]) (by decide) rfl
            generalize hB9_53 : Act.put _ _ _ = A at HF ⊢
            refine anyC_takeD (i := 9) (v := .int .i64 X) (some 54) rfl rfl (by kernel_rfl) (by kernel_rfl) (by kernel_rfl) (fun c a w => FINQ c a _ _ w) M7.out (by exact (Or.inl ⟨(wanted_none rfl), fun W hW => by have h5 := (HF.getD 1 rfl); go_simp⟩)) ?_
            replace HF := HF.put 54 (.int .i64 X) (by decide) rfl
            generalize hB10_54 : Act.put _ _ _ = A at HF ⊢
            refine anyC_takeD (i := 10) (v := .bool B) (some 55) rfl rfl (by kernel_rfl) (by kernel_rfl) (by kernel_rfl) (fun c a w => FINQ c a _ _ w) M7.out (by exact (Or.inl ⟨(wanted_none rfl), fun W hW => by have h5 := (HF.getD 2 rfl); go_simp⟩)) ?_
            replace HF := HF.put 55 (.bool B) (by decide) rfl
            generalize hB11_55 : Act.put _ _ _ = A at HF ⊢
            refine anyC_oneK (i := 11) (some 11) (by kernel_rfl) rfl (wanted_none rfl) rfl (fun K hK => ?_)
            refine wp_alloc_it rfl ?_
            obtain ⟨w8, e8, z8, m8, s8⟩ := en1 w7 (.cells #[.slice none 0 0] 30)
            rw [e8]
            have M8 := Lib.hid (M7.out.trans m8)
            refine hK _ _ M8.out ?_
            clear hK K e8
            replace HF := HF.put 11 (.pointer (some ⟨w7.heap.size, 0, none⟩)) (by decide) rfl
            generalize hB12_11 : Act.put _ _ _ = A at HF ⊢
            have GE : wa.heap.size ≤ w7.heap.size := M7.out.size
            have MF : Hid (More wa (w8.setRow w7.heap.size #[v7])) := Lib.hid (M8.out.setRow _ _ GE)
            refine anyC_oneK (i := 12) none (by kernel_rfl) rfl (wanted_none rfl) rfl (fun K hK => ?_)
            refine wp_store_row 30 _ _ rfl (w7.heap.size) _ (HF.get 0 rfl) (HF.get 3 rfl) 30 _ z8 (by kernel_rfl) rfl (by simp [(IR.one (P7.out.more m8))]) ?_
            refine hK _ _ MF.out ?_
            clear hK K
            replace HF := HF.skipP undef
            generalize hBN : Act.put _ none undef = A at HF ⊢
            refine anyC_takeD (i := 13) (v := .int .i64 X) (some 12) rfl rfl (by kernel_rfl) (by kernel_rfl) (by kernel_rfl) (fun c a w => FINQ c a _ _ w) MF.out (by exact yieldsC_assign (wanted_none rfl) _ rfl (HF.get 2 rfl)) ?_
            replace HF := HF.put 12 (.int .i64 X) (by decide) rfl
            generalize hB14_12 : Act.put _ _ _ = A at HF ⊢
            refine anyC_takeD (i := 14) (v := .bool B) (some 13) rfl rfl (by kernel_rfl) (by kernel_rfl) (by kernel_rfl) (fun c a w => FINQ c a _ _ w) MF.out (by exact yieldsC_assign (wanted_none rfl) _ rfl (HF.get 2 rfl)) ?_
            replace HF := HF.put 13 (.bool B) (by decide) rfl
            generalize hB15_13 : Act.put _ _ _ = A at HF ⊢
            exact anyC_done (by kernel_rfl) (FINE _ _ ⟨(.agg #[v]), (.slice (some ⟨s, o, none⟩) n cap), (.int .i64 (k : Int)), (.pointer (some ⟨s, o + k * 4, none⟩)), (.pointer (some ⟨s, o + k * 4 + 1, none⟩)), (.int .i64 (l k 1)), (.tuple #[.agg #[v7], .int .i64 X, .bool B]), (.tuple #[.agg #[v7], .int .i64 X, .bool B]), (.agg #[v7]), (.int .i64 X), (.bool B), w7.heap.size, v7, Or.inl (by rw [← hB15_13, ← hB14_12, ← hBN, ← hB12_11, ← hB11_55, ← hB10_54, ← hB9_53, ← hB8_45, ← hB7_52, ← hB6_51, ← hB5_50, ← hB4_49, ← hB3_48, ← hB2_47, ← hB1_46]), setRow_heap _ _ _ _ _ _ z8, (IR.keep (P7.out.more m8) (S := fun k => k = w7.heap.size) (Turned.setRow (Turned.refl _ _) _ _ (fun _ => rfl)) (fun k q => by subst q; exact ⟨_, _, _, z8, by decide⟩)), MF.out, GE⟩)
          · refine wp_alloc_it rfl ?_
            obtain ⟨w7, e7, z7, m7, s7⟩ := en1 wq (.cells #[.slice none 0 0] 30)
            rw [e7]
            have M7 := Lib.hid (MR.out.trans m7)
            refine hK _ _ M7.out ?_
            clear hK K e7
            replace HF := HF.put 11 (.pointer (some ⟨wq.heap.size, 0, none⟩)) (by decide) rfl
            generalize hB7_11 : Act.put _ _ _ = A at HF ⊢
            refine anyC_oneK (i := 6) (some 52) (by kernel_rfl) rfl (wanted_none rfl) rfl (fun K hK => ?_)
            refine wp_call2 rfl (HF.get 6 rfl) (HF.get 1 rfl) (enters_of Try.func7 (by kernel_rfl) rfl) ?_
            refine (CL.out w7 M7.out).mono ?_
            rintro e w8 ⟨v8, rfl, h8, m8⟩
            have P8 := Lib.hid h8
            have M8 := Lib.hid (M7.out.trans m8)
            refine hK _ _ M8.out ?_
            clear hK K
            replace HF := HF.put 52 (.tuple #[.agg #[v8], .int .i64 X, .bool B]) (by decide) rfl
            generalize hB8_52 : Act.put _ _ _ = A at HF ⊢
            refine anyC_takeD (i := 7) (v := .tuple #[.agg #[v8], .int .i64 X, .bool B]) (some 45) rfl rfl (by kernel_rfl) (by kernel_rfl) (by kernel_rfl) (fun c a w => FINQ c a _ _ w) M8.out (by exact yieldsC_moveG (wanted_none rfl) _ rfl (HF.get 0 rfl)) ?_
            replace HF := HF.put 45 (.tuple #[.agg #[v8], .int .i64 X, .bool B]) (by decide) rfl
            generalize hB9_45 : Act.put _ _ _ = A at HF ⊢
            refine anyC_takeD (i := 8) (v := .agg #[v8]) (some 53) rfl rfl (by kernel_rfl) (by kernel_rfl) (by kernel_rfl) (fun c a w => FINQ c a _ _ w) M8.out (by exact (Or.inl ⟨(wanted_none rfl), fun W hW => by have h5 := (HF.getD 0 rfl); go_simp⟩)) ?_
            replace HF := HF.put 53 (.agg #[v8]) (by decide) rfl
            generalize hB10_53 : Act.put _ _ _ = A at HF ⊢
            refine anyC_takeD (i := 9) (v := .int .i64 X) (some 54) rfl rfl (by kernel_rfl) (by kernel_rfl) (by kernel_rfl) (fun c a w => FINQ c a _ _ w) M8.out (by exact (Or.inl ⟨(wanted_none rfl), fun W hW => by have h5 := (HF.getD 1 rfl); go_simp⟩)) ?_
            replace HF := HF.put 54 (.int .i64 X) (by decide) rfl
            generalize hB11_54 : Act.put _ _ _ = A at HF ⊢
            refine anyC_takeD (i := 10) (v := .bool B) (some 55) rfl rfl (by kernel_rfl) (by kernel_rfl) (by kernel_rfl) (fun c a w => FINQ c a _ _ w) M8.out (by exact (Or.inl ⟨(wanted_none rfl), fun W hW => by have h5 := (HF.getD 2 rfl); go_simp⟩)) ?_
            replace HF := HF.put 55 (.bool B) (by decide) rfl
            generalize hB12_55 : Act.put _ _ _ = A at HF ⊢
            have GE : wa.heap.size ≤ wq.heap.size := MR.out.size
            have MF : Hid (More wa (w8.setRow wq.heap.size #[v8])) := Lib.hid (M8.out.setRow _ _ GE)
            refine anyC_oneK (i := 12) none (by kernel_rfl) rfl (wanted_none rfl) rfl (fun K hK => ?_)
            refine wp_store_row 30 _ _ rfl (wq.heap.size) _ (HF.get 5 rfl) (HF.get 2 rfl) 30 _ (m8.block z7) (by kernel_rfl) rfl (by simp [(IR.one P8.out)]) ?_
            refine hK _ _ MF.out ?_
            clear hK K
            replace HF := HF.skipP undef
            generalize hBN : Act.put _ none undef = A at HF ⊢
            refine anyC_takeD (i := 13) (v := .int .i64 X) (some 12) rfl rfl (by kernel_rfl) (by kernel_rfl) (by kernel_rfl) (fun c a w => FINQ c a _ _ w) MF.out (by exact yieldsC_assign (wanted_none rfl) _ rfl (HF.get 1 rfl)) ?_
            replace HF := HF.put 12 (.int .i64 X) (by decide) rfl
            generalize hB14_12 : Act.put _ _ _ = A at HF ⊢
            refine anyC_takeD (i := 14) (v := .bool B) (some 13) rfl rfl (by kernel_rfl) (by kernel_rfl) (by kernel_rfl) (fun c a w => FINQ c a _ _ w) MF.out (by exact yieldsC_assign (wanted_none rfl) _ rfl (HF.get 1 rfl)) ?_
            replace HF := HF.put 13 (.bool B) (by decide) rfl
            generalize hB15_13 : Act.put _ _ _ = A at HF ⊢
            exact anyC_done (by kernel_rfl) (FINE _ _ ⟨(.agg #[v]), (.slice (some ⟨s, o, none⟩) n cap), (.int .i64 (k : Int)), (.pointer (some ⟨s, o + k * 4, none⟩)), (.pointer (some ⟨s, o + k * 4 + 1, none⟩)), (.int .i64 (l k 1)), (.tuple #[.agg #[v8], .int .i64 X, .bool B]), (.tuple #[.agg #[v8], .int .i64 X, .bool B]), (.agg #[v8]), (.int .i64 X), (.bool B), wq.heap.size, v8, Or.inr (by rw [← hB15_13, ← hB14_12, ← hBN, ← hB12_55, ← hB11_54, ← hB10_53, ← hB9_45, ← hB8_52, ← hB7_11, ← hB6_51, ← hB5_50, ← hB4_49, ← hB3_48, ← hB2_47, ← hB1_46]), setRow_heap _ _ _ _ _ _ (m8.block z7), (IR.keep P8.out (S := fun k => k = wq.heap.size) (Turned.setRow (Turned.refl _ _) _ _ (fun _ => rfl)) (fun k q => by subst q; exact ⟨_, _, _, (m8.block z7), by decide⟩)), MF.out, GE⟩)
        intro QQ FINE FIND FINQ
        clear hA
        refine anyC_takeD (i := 0) (v := .agg (puA f)) (some 35) rfl rfl (by kernel_rfl) (by kernel_rfl) (by kernel_rfl) (fun c a w => FINQ c a _ _ w) MR.out (by exact yieldsC_row (C := More wr) (wanted_none rfl) 27 _ rfl (w.heap.size) (HF.get 1 rfl) 27 _ _ _ (fun W hW => hW.block B5.out) Try.underlying27 rfl (by kernel_rfl)) ?_
        replace HF := HF.put 35 (.agg (puA f)) (by decide) rfl
        generalize hB1_35 : Act.put _ _ _ = A at HF ⊢
        refine anyC_takeD (i := 1) (v := .slice (some ⟨s, o, none⟩) n cap) (some 36) rfl rfl (by kernel_rfl) (by kernel_rfl) (by kernel_rfl) (fun c a w => FINQ c a _ _ w) MR.out (by exact yieldsC_moveG (wanted_none rfl) _ rfl (HF.get 1 rfl)) ?_
        replace HF := HF.put 36 (.slice (some ⟨s, o, none⟩) n cap) (by decide) rfl
        generalize hB2_36 : Act.put _ _ _ = A at HF ⊢
        refine anyC_takeD (i := 2) (v := .int .i64 (k : Int)) (some 37) rfl rfl (by kernel_rfl) (by kernel_rfl) (by kernel_rfl) (fun c a w => FINQ c a _ _ w) MR.out (by exact yieldsC_moveG (wanted_none rfl) _ rfl (HF.get 5 rfl)) ?_
        replace HF := HF.put 37 (.int .i64 (k : Int)) (by decide) rfl
        generalize hB3_37 : Act.put _ _ _ = A at HF ⊢
        refine anyC_takeD (i := 3) (v := .pointer (some ⟨s, o + k * 4, none⟩)) (some 38) rfl rfl (by kernel_rfl) (by kernel_rfl) (by kernel_rfl) (fun c a w => FINQ c a _ _ w) MR.out (by exact yieldsC_act13 (wanted_none rfl) rfl (HF.get 1 rfl) (HF.get 0 rfl) hlt) ?_
        replace HF := HF.put 38 (.pointer (some ⟨s, o + k * 4, none⟩)) (by decide) rfl
        generalize hB4_38 : Act.put _ _ _ = A at HF ⊢
        refine anyC_takeD (i := 4) (v := .pointer (some ⟨s, o + k * 4 + 1, none⟩)) (some 39) rfl rfl (by kernel_rfl) (by kernel_rfl) (by kernel_rfl) (fun c a w => FINQ c a _ _ w) MR.out (by exact (Or.inl ⟨(wanted_none rfl), fun W hW => by have h5 := (HF.getD 0 rfl); go_simp⟩)) ?_
        replace HF := HF.put 39 (.pointer (some ⟨s, o + k * 4 + 1, none⟩)) (by decide) rfl
        generalize hB5_39 : Act.put _ _ _ = A at HF ⊢
        refine anyC_takeD (i := 5) (v := .int .i64 (l k 1)) (some 40) rfl rfl (by kernel_rfl) (by kernel_rfl) (by kernel_rfl) (fun c a w => FINQ c a _ _ w) MR.out (by exact yieldsC_cell (C := (More wr)) (wanted_none rfl) 3 _ rfl s (o + k * 4 + 1) (HF.get 0 rfl) (.int .i64 (l k 1)) _ Try.underlying3 rfl (fun W hW => KC.out W hW _ _ C1.out)) ?_
        replace HF := HF.put 40 (.int .i64 (l k 1)) (by decide) rfl
        generalize hB6_40 : Act.put _ _ _ = A at HF ⊢
        refine anyC_two (i := 6) (j := 11) (some 41) (some 8) (by kernel_rfl) rfl rfl (wanted_none rfl) (wanted_none rfl) rfl rfl (fun K hK => ?_) (fun K hK => ?_)
        · refine wp_call2 rfl (HF.get 5 rfl) (HF.get 0 rfl) (enters_of Try.func6 (by kernel_rfl) rfl) ?_
          refine (CL.out wq MR.out).mono ?_
          rintro e w7 ⟨f7, rfl, h7, m7⟩
          have P7 := Lib.hid h7
          have M7 := Lib.hid (MR.out.trans m7)
          refine hK _ _ M7.out ?_
          clear hK K m7
          replace HF := HF.put 41 (.tuple #[.agg (puA f7), .int .i64 X, .bool B]) (by decide) rfl
          generalize hB7_41 : Act.put _ _ _ = A at HF ⊢
          refine anyC_takeD (i := 7) (v := .tuple #[.agg (puA f7), .int .i64 X, .bool B]) (some 34) rfl rfl (by kernel_rfl) (by kernel_rfl) (by kernel_rfl) (fun c a w => FINQ c a _ _ w) M7.out (by exact yieldsC_moveG (wanted_none rfl) _ rfl (HF.get 0 rfl)) ?_
          replace HF := HF.put 34 (.tuple #[.agg (puA f7), .int .i64 X, .bool B]) (by decide) rfl
          generalize hB8_34 : Act.put _ _ _ = A at HF ⊢
          refine anyC_takeD (i := 8) (v := .agg (puA f7)) (some 42) rfl rfl (by kernel_rfl) (by kernel_rfl) (by kernel_rfl) (fun c a w => FINQ c a _ _ w) M7.out (by exact (Or.inl ⟨(wanted_none rfl), fun W hW => by have h5 := (HF.getD 0 rfl); go_simp⟩)) ?_
          replace HF := HF.put 42 (.agg (puA f7)) (by decide) rfl
          generalize hB9_42 : Act.put _ _ _ = A at HF ⊢
          refine anyC_takeD (i := 9) (v := .int .i64 X) (some 43) rfl rfl (by kernel_rfl) (by kernel_rfl) (by kernel_rfl) (fun c a w => FINQ c a _ _ w) M7.out (by exact (Or.inl ⟨(wanted_none rfl), fun W hW => by have h5 := (HF.getD 1 rfl); go_simp⟩)) ?_
          replace HF := HF.put 43 (.int .i64 X) (by decide) rfl
          generalize hB10_43 : Act.put _ _ _ = A at HF ⊢
          refine anyC_takeD (i := 10) (v := .bool B) (some 44) rfl rfl (by kernel_rfl) (by kernel_rfl) (by kernel_rfl) (fun c a w => FINQ c a _ _ w) M7.out (by exact (Or.inl ⟨(wanted_none rfl), fun W hW => by have h5 := (HF.getD 2 rfl); go_simp⟩)) ?_
          replace HF := HF.put 44 (.bool B) (by decide) rfl
          generalize hB11_44 : Act.put _ _ _ = A at HF ⊢
          refine anyC_oneK (i := 11) (some 8) (by kernel_rfl) rfl (wanted_none rfl) rfl (fun K hK => ?_)
          refine wp_alloc_pu rfl ?_
          obtain ⟨w8, e8, z8, m8, s8⟩ := en1 w7 (.cells #[.slice none 0 0, .slice none 0 0, .slice none 0 0, .slice none 0 0, .slice none 0 0] 27)
          rw [e8]
          have M8 := Lib.hid (M7.out.trans m8)
          refine hK _ _ M8.out ?_
          clear hK K e8
          replace HF := HF.put 8 (.pointer (some ⟨w7.heap.size, 0, none⟩)) (by decide) rfl
          generalize hB12_8 : Act.put _ _ _ = A at HF ⊢
          have GE : wr.heap.size ≤ w7.heap.size := M7.out.size
          have MF : Hid (More wr (w8.setRow w7.heap.size (puA f7))) := Lib.hid (M8.out.setRow _ _ GE)
          refine anyC_oneK (i := 12) none (by kernel_rfl) rfl (wanted_none rfl) rfl (fun K hK => ?_)
          refine wp_store_row 27 _ _ rfl (w7.heap.size) _ (HF.get 0 rfl) (HF.get 3 rfl) 27 _ z8 (by kernel_rfl) rfl (Pu.all1 (P7.out.more m8)) ?_
          refine hK _ _ MF.out ?_
          clear hK K
          replace HF := HF.skipP undef
          generalize hBN : Act.put _ none undef = A at HF ⊢
          refine anyC_takeD (i := 13) (v := .int .i64 X) (some 9) rfl rfl (by kernel_rfl) (by kernel_rfl) (by kernel_rfl) (fun c a w => FINQ c a _ _ w) MF.out (by exact yieldsC_assign (wanted_none rfl) _ rfl (HF.get 2 rfl)) ?_
          replace HF := HF.put 9 (.int .i64 X) (by decide) rfl
          generalize hB14_9 : Act.put _ _ _ = A at HF ⊢
          refine anyC_takeD (i := 14) (v := .bool B) (some 10) rfl rfl (by kernel_rfl) (by kernel_rfl) (by kernel_rfl) (fun c a w => FINQ c a _ _ w) MF.out (by exact yieldsC_assign (wanted_none rfl) _ rfl (HF.get 2 rfl)) ?_
          replace HF := HF.put 10 (.bool B) (by decide) rfl
          generalize hB15_10 : Act.put _ _ _ = A at HF ⊢
          exact anyC_done (by kernel_rfl) (FINE _ _ ⟨(.agg (puA f)), (.slice (some ⟨s, o, none⟩) n cap), (.int .i64 (k : Int)), (.pointer (some ⟨s, o + k * 4, none⟩)), (.pointer (some ⟨s, o + k * 4 + 1, none⟩)), (.int .i64 (l k 1)), (.tuple #[.agg (puA f7), .int .i64 X, .bool B]), (.tuple #[.agg (puA f7), .int .i64 X, .bool B]), (.agg (puA f7)), (.int .i64 X), (.bool B), w7.heap.size, f7, Or.inl (by rw [← hB15_10, ← hB14_9, ← hBN, ← hB12_8, ← hB11_44, ← hB10_43, ← hB9_42, ← hB8_34, ← hB7_41, ← hB6_40, ← hB5_39, ← hB4_38, ← hB3_37, ← hB2_36, ← hB1_35]), setRow_heap _ _ _ _ _ _ z8, (Pu.keep (P7.out.more m8) (S := fun k => k = w7.heap.size) (Turned.setRow (Turned.refl _ _) _ _ (fun _ => rfl)) (fun k q => by subst q; exact ⟨_, _, _, z8, by decide⟩)), MF.out, GE⟩)
        · refine wp_alloc_pu rfl ?_
          obtain ⟨w7, e7, z7, m7, s7⟩ := en1 wq (.cells #[.slice none 0 0, .slice none 0 0, .slice none 0 0, .slice none 0 0, .slice none 0 0] 27)
          rw [e7]
          have M7 := Lib.hid (MR.out.trans m7)
          refine hK _ _ M7.out ?_
          clear hK K e7
          replace HF := HF.put 8 (.pointer (some ⟨wq.heap.size, 0, none⟩)) (by decide) rfl
          generalize hB7_8 : Act.put _ _ _ = A at HF ⊢
          refine anyC_oneK (i := 6) (some 41) (by kernel_rfl) rfl (wanted_none rfl) rfl (fun K hK => ?_)
          refine wp_call2 rfl (HF.get 6 rfl) (HF.get 1 rfl) (enters_of Try.func6 (by kernel_rfl) rfl) ?_
          refine (CL.out w7 M7.out).mono ?_
          rintro e w8 ⟨f8, rfl, h8, m8⟩
          have P8 := Lib.hid h8
          have M8 := Lib.hid (M7.out.trans m8)
          refine hK _ _ M8.out ?_
          clear hK K
          replace HF := HF.put 41 (.tuple #[.agg (puA f8), .int .i64 X, .bool B]) (by decide) rfl
          generalize hB8_41 : Act.put _ _ _ = A at HF ⊢
          refine anyC_takeD (i := 7) (v := .tuple #[.agg (puA f8), .int .i64 X, .bool B]) (some 34) rfl rfl (by kernel_rfl) (by kernel_rfl) (by kernel_rfl) (fun c a w => FINQ c a _ _ w) M8.out (by exact yieldsC_moveG (wanted_none rfl) _ rfl (HF.get 0 rfl)) ?_
          replace HF := HF.put 34 (.tuple #[.agg (puA f8), .int .i64 X, .bool B]) (by decide) rfl
          generalize hB9_34 : Act.put _ _ _ = A at HF ⊢
          refine anyC_takeD (i := 8) (v := .agg (puA f8)) (some 42) rfl rfl (by kernel_rfl) (by kernel_rfl) (by kernel_rfl) (fun c a w => FINQ c a _ _ w) M8.out (by exact (Or.inl ⟨(wanted_none rfl), fun W hW => by have h5 := (HF.getD 0 rfl); go_simp⟩)) ?_
          replace HF := HF.put 42 (.agg (puA f8)) (by decide) rfl
          generalize hB10_42 : Act.put _ _ _ = A at HF ⊢
          refine anyC_takeD (i := 9) (v := .int .i64 X) (some 43) rfl rfl (by kernel_rfl) (by kernel_rfl) (by kernel_rfl) (fun c a w => FINQ c a _ _ w) M8.out (by exact (Or.inl ⟨(wanted_none rfl), fun W hW => by have h5 := (HF.getD 1 rfl); go_simp⟩)) ?_
          replace HF := HF.put 43 (.int .i64 X) (by decide) rfl
          generalize hB11_43 : Act.put _ _ _ = A at HF ⊢
          refine anyC_takeD (i := 10) (v := .bool B) (some 44) rfl rfl (by kernel_rfl) (by kernel_rfl) (by kernel_rfl) (fun c a w => FINQ c a _ _ w) M8.out (by exact (Or.inl ⟨(wanted_none rfl), fun W hW => by have h5 := (HF.getD 2 rfl); go_simp⟩)) ?_
          replace HF := HF.put 44 (.bool B) (by decide) rfl
          generalize hB12_44 : Act.put _ _ _ = A at HF ⊢
          have GE : wr.heap.size ≤ wq.heap.size := MR.out.size
          have MF : Hid (More wr (w8.setRow wq.heap.size (puA f8))) := Lib.hid (M8.out.setRow _ _ GE)
          refine anyC_oneK (i := 12) none (by kernel_rfl) rfl (wanted_none rfl) rfl (fun K hK => ?_)
          refine wp_store_row 27 _ _ rfl (wq.heap.size) _ (HF.get 5 rfl) (HF.get 2 rfl) 27 _ (m8.block z7) (by kernel_rfl) rfl (Pu.all1 P8.out) ?_
          refine hK _ _ MF.out ?_
          clear hK K
          replace HF := HF.skipP undef
          generalize hBN : Act.put _ none undef = A at HF ⊢
          refine anyC_takeD (i := 13) (v := .int .i64 X) (some 9) rfl rfl (by kernel_rfl) (by kernel_rfl) (by kernel_rfl) (fun c a w => FINQ c a _ _ w) MF.out (by exact yieldsC_assign (wanted_none rfl) _ rfl (HF.get 1 rfl)) ?_
          replace HF := HF.put 9 (.int .i64 X) (by decide) rfl
          generalize hB14_9 : Act.put _ _ _ = A at HF ⊢
          refine anyC_takeD (i := 14) (v := .bool B) (some 10) rfl rfl (by kernel_rfl) (by kernel_rfl) (by kernel_rfl) (fun c a w => FINQ c a _ _ w) MF.out (by exact yieldsC_assign (wanted_none rfl) _ rfl (HF.get 1 rfl)) ?_
          replace HF := HF.put 10 (.bool B) (by decide) rfl
          generalize hB15_10 : Act.put _ _ _ = A at HF ⊢
          exact anyC_done (by kernel_rfl) (FINE _ _ ⟨(.agg (puA f)), (.slice (some ⟨s, o, none⟩) n cap), (.int .i64 (k : Int)), (.pointer (some ⟨s, o + k * 4, none⟩)), (.pointer (some ⟨s, o + k * 4 + 1, none⟩)), (.int .i64 (l k 1)), (.tuple #[.agg (puA f8), .int .i64 X, .bool B]), (.tuple #[.agg (puA f8), .int .i64 X, .bool B]), (.agg (puA f8)), (.int .i64 X), (.bool B), wq.heap.size, f8, Or.inr (by rw [← hB15_10, ← hB14_9, ← hBN, ← hB12_44, ← hB11_43, ← hB10_42, ← hB9_34, ← hB8_41, ← hB7_8, ← hB6_40, ← hB5_39, ← hB4_38, ← hB3_37, ← hB2_36, ← hB1_35]), setRow_heap _ _ _ _ _ _ (m8.block z7), (Pu.keep P8.out (S := fun k => k = wq.heap.size) (Turned.setRow (Turned.refl _ _) _ _ (fun _ => rfl)) (fun k q => by subst q; exact ⟨_, _, _, (m8.block z7), by decide⟩)), MF.out, GE⟩)
      · have d1 : (l k 0 == 2) = false := by simp [e]
        have d2 : decide (l k 0 = 2) = false := by simp [e]
        obtain ⟨pe, ev'⟩ := EV.out.push (l k 1) (l k 2) (l k 3)
        have NEXT := Lib.hid (show aftP l (k + 1) = pushP (aftP l k) (l k 1) (l k 2) (l k 3) by rw [aftP]; unfold stepP; rw [if_neg e])
        have CL : Hid (∀ W, More wr W → Calls Try.prog 8 #[.agg (puA f), .int .i64 (l k 1), .int .i64 (l k 2), .int .i64 (l k 3)] W (GavePu W (pushP (aftP l k) (l k 1) (l k 2) (l k 3)) (fun v => .tuple #[v, .bool (pushB (aftP l k) (l k 1) (l k 3))]))) := Lib.hid fun W hW => p_Push f (aftP l k) (l k 1) (l k 2) (l k 3) W (PU.out.more hW) HLN.out
        have CD : Hid (∀ W, More wr W → Calls Try.prog 9 #[.agg #[v], .int .i64 (l k 1), .int .i64 (l k 2), .int .i64 (l k 3)] W (GaveIt W (pushR its (l k 1) (l k 2) (l k 3)) (fun v => .tuple #[v, .bool (pushB (aftP l k) (l k 1) (l k 3))]))) := Lib.hid fun W hW => by
          rw [pe]
          exact r_Push v its (l k 1) (l k 2) (l k 3) W (IX.out.more hW) ILN.out
        have EV' := Lib.hid ev'
        have IL' := Lib.hid (show (pushR its (l k 1) (l k 2) (l k 3)).length ≤ k + 1 by have := pushR_len its (l k 1) (l k 2) (l k 3); omega)
        clear e pe ev'
        generalize hz : l k 0 = y0 at *
        clear hz
        generalize hB : pushB (aftP l k) (l k 1) (l k 3) = B at CL CD
        generalize hP : pushP (aftP l k) (l k 1) (l k 2) (l k 3) = PN at CL NEXT EV'
        obtain ⟨IN, hI⟩ : ∃ IN, pushR its (l k 1) (l k 2) (l k 3) = IN := ⟨_, rfl⟩
        rw [hI] at CD EV' IL'
        clear hB hP hI EV
        go_wp2_with fail
        refine wp_region_anyC (More wr) (by kernel_rfl) ?_
        change anyC _ _ _ _ _ _ _ _ (wr.drewN 1)
        have MR : Hid (More wr (wr.drewN 1)) := Lib.hid ((More.refl wr).drewN 1)
        generalize wr.drewN 1 = wq at MR ⊢
        generalize hA : Act.mk _ _ = A
        have HF : AG 126 A [(0, .slice (some ⟨s, o, none⟩) n cap), (5, .pointer (some ⟨w.heap.size, 0, none⟩)), (6, .pointer (some ⟨w.heap.size + 1, 0, none⟩)), (7, .int .i64 (k : Int))] := by
          rw [← hA]
          refine ⟨⟨Nat.le_of_ble_eq_true rfl, rfl⟩, ?_⟩
          intro z hz; simp only [List.mem_cons, List.not_mem_nil, or_false] at hz; rcases hz with rfl | rfl | rfl | rfl <;> rfl
        refine anyC_start (fun a W => ∃ (u67 u68 u69 u70 u71 u72 u73 u74 u75 u76 u77 u78 u79 u80 u81 u82 u83 u66 u84 u85 : Value) (g : Nat) (f9 : Nat → Value), (a = (Act.put (Act.put (Act.put (Act.put (Act.put (Act.put (Act.put (Act.put (Act.put (Act.put (Act.put (Act.put (Act.put (Act.put (Act.put (Act.put (Act.put (Act.put (Act.put (Act.put (Act.put (Act.put (Act.put A (some 67) u67) (some 68) u68) (some 69) u69) (some 70) u70) (some 71) u71) (some 72) u72) (some 73) u73) (some 74) u74) (some 75) u75) (some 76) u76) (some 77) u77) (some 78) u78) (some 79) u79) (some 80) u80) (some 81) u81) (some 82) u82) (some 83) u83) (some 66) u66) (some 84) u84) (some 85) u85) (some 14) (.pointer (some ⟨g, 0, none⟩))) none undef) (some 15) (.bool B)) ∨ a = (Act.put (Act.put (Act.put (Act.put (Act.put (Act.put (Act.put (Act.put (Act.put (Act.put (Act.put (Act.put (Act.put (Act.put (Act.put (Act.put (Act.put (Act.put (Act.put (Act.put (Act.put (Act.put (Act.put A (some 67) u67) (some 68) u68) (some 69) u69) (some 70) u70) (some 71) u71) (some 72) u72) (some 73) u73) (some 74) u74) (some 75) u75) (some 76) u76) (some 77) u77) (some 78) u78) (some 79) u79) (some 80) u80) (some 81) u81) (some 82) u82) (some 14) (.pointer (some ⟨g, 0, none⟩))) (some 83) u83) (some 66) u66) (some 84) u84) (some 85) u85) none undef) (some 15) (.bool B))) ∧ W.heap[g]? = some (.cells (puA f9) 27 (0, 0)) ∧ Pu W f9 PN ∧ More wr W ∧ wr.heap.size ≤ g) (fun _ => False) [] (fun a W hd h => h.elim) (fun _ _ _ _ _ h => h) ?_ ?_
        · skip
          rintro a9 wa ⟨u67, u68, u69, u70, u71, u72, u73, u74, u75, u76, u77, u78, u79, u80, u81, u82, u83, u66, u84, u85, g, f8, hn, h8, p8, m8, hg8⟩
          have E : (Act.put (Act.put (Act.put (Act.put (Act.put (Act.put (Act.put (Act.put (Act.put (Act.put (Act.put (Act.put (Act.put (Act.put (Act.put (Act.put (Act.put (Act.put (Act.put (Act.put (Act.put (Act.put (Act.put A (some 67) u67) (some 68) u68) (some 69) u69) (some 70) u70) (some 71) u71) (some 72) u72) (some 73) u73) (some 74) u74) (some 75) u75) (some 76) u76) (some 77) u77) (some 78) u78) (some 79) u79) (some 80) u80) (some 81) u81) (some 82) u82) (some 14) (.pointer (some ⟨g, 0, none⟩))) (some 83) u83) (some 66) u66) (some 84) u84) (some 85) u85) none undef) (some 15) (.bool B)) = (Act.put (Act.put (Act.put (Act.put (Act.put (Act.put (Act.put (Act.put (Act.put (Act.put (Act.put (Act.put (Act.put (Act.put (Act.put (Act.put (Act.put (Act.put (Act.put (Act.put (Act.put (Act.put (Act.put A (some 67) u67) (some 68) u68) (some 69) u69) (some 70) u70) (some 71) u71) (some 72) u72) (some 73) u73) (some 74) u74) (some 75) u75) (some 76) u76) (some 77) u77) (some 78) u78) (some 79) u79) (some 80) u80) (some 81) u81) (some 82) u82) (some 83) u83) (some 66) u66) (some 84) u84) (some 85) u85) (some 14) (.pointer (some ⟨g, 0, none⟩))) none undef) (some 15) (.bool B)) := by rw [← hA]; kernel_rfl
          have hn : a9 = (Act.put (Act.put (Act.put (Act.put (Act.put (Act.put (Act.put (Act.put (Act.put (Act.put (Act.put (Act.put (Act.put (Act.put (Act.put (Act.put (Act.put (Act.put (Act.put (Act.put (Act.put (Act.put (Act.put A (some 67) u67) (some 68) u68) (some 69) u69) (some 70) u70) (some 71) u71) (some 72) u72) (some 73) u73) (some 74) u74) (some 75) u75) (some 76) u76) (some 77) u77) (some 78) u78) (some 79) u79) (some 80) u80) (some 81) u81) (some 82) u82) (some 83) u83) (some 66) u66) (some 84) u84) (some 85) u85) (some 14) (.pointer (some ⟨g, 0, none⟩))) none undef) (some 15) (.bool B)) := by
            rcases hn with q | q
            · exact q
            · exact q.trans E
          subst hn
          rw [← hA]
          obtain ⟨g8, rfl⟩ : ∃ g8, g8 = g := ⟨_, rfl⟩
          have H8 := Lib.hid h8
          have P8 := Lib.hid p8
          have G8 := Lib.hid hg8
          have MA := Lib.hid m8
          have B5 := Lib.hid (m8.block B5.out)
          have B6 := Lib.hid (m8.block B6.out)
          have IX := Lib.hid (IX.out.more m8)
          have KC := Lib.hid (fun W (hW : More wa W) => KC.out W (m8.trans hW))
          have CL := Lib.hid (fun W (hW : More wa W) => CD.out W (m8.trans hW))
          clear HF hA MR E h8 p8 hg8 m8 CD
          go_simp
          go_wp2_with fail
          refine wp_region_anyC (More wa) (by kernel_rfl) ?_
          change anyC _ _ _ _ _ _ _ _ (wa.drewN 1)
          have MR : Hid (More wa (wa.drewN 1)) := Lib.hid ((More.refl wa).drewN 1)
          generalize wa.drewN 1 = wq at MR ⊢
          generalize hA : Act.mk _ _ = A
          have HF : AG 126 A [(0, .slice (some ⟨s, o, none⟩) n cap), (5, .pointer (some ⟨w.heap.size, 0, none⟩)), (6, .pointer (some ⟨w.heap.size + 1, 0, none⟩)), (7, .int .i64 (k : Int))] := by
            rw [← hA]
            refine ⟨⟨Nat.le_of_ble_eq_true rfl, rfl⟩, ?_⟩
            intro z hz; simp only [List.mem_cons, List.not_mem_nil, or_false] at hz; rcases hz with rfl | rfl | rfl | rfl <;> rfl
          refine anyC_start (fun a W => ∃ (u87 u88 u89 u90 u91 u92 u93 u94 u95 u96 u97 u98 u99 u100 u101 u102 u103 u86 u104 u105 : Value) (g : Nat) (v9 : Value), (a = (Act.put (Act.put (Act.put (Act.put (Act.put (Act.put (Act.put (Act.put (Act.put (Act.put (Act.put (Act.put (Act.put (Act.put (Act.put (Act.put (Act.put (Act.put (Act.put (Act.put (Act.put (Act.put (Act.put A (some 87) u87) (some 88) u88) (some 89) u89) (some 90) u90) (some 91) u91) (some 92) u92) (some 93) u93) (some 94) u94) (some 95) u95) (some 96) u96) (some 97) u97) (some 98) u98) (some 99) u99) (some 100) u100) (some 101) u101) (some 102) u102) (some 103) u103) (some 86) u86) (some 104) u104) (some 105) u105) (some 16) (.pointer (some ⟨g, 0, none⟩))) none undef) (some 17) (.bool B)) ∨ a = (Act.put (Act.put (Act.put (Act.put (Act.put (Act.put (Act.put (Act.put (Act.put (Act.put (Act.put (Act.put (Act.put (Act.put (Act.put (Act.put (Act.put (Act.put (Act.put (Act.put (Act.put (Act.put (Act.put A (some 87) u87) (some 88) u88) (some 89) u89) (some 90) u90) (some 91) u91) (some 92) u92) (some 93) u93) (some 94) u94) (some 95) u95) (some 96) u96) (some 97) u97) (some 98) u98) (some 99) u99) (some 100) u100) (some 101) u101) (some 102) u102) (some 16) (.pointer (some ⟨g, 0, none⟩))) (some 103) u103) (some 86) u86) (some 104) u104) (some 105) u105) none undef) (some 17) (.bool B))) ∧ W.heap[g]? = some (.cells #[v9] 30 (0, 0)) ∧ IR 0 W v9 IN ∧ More wa W ∧ wa.heap.size ≤ g) (fun _ => False) [] (fun a W hd h => h.elim) (fun _ _ _ _ _ h => h) ?_ ?_
          · skip
            rintro a9 wb ⟨u87, u88, u89, u90, u91, u92, u93, u94, u95, u96, u97, u98, u99, u100, u101, u102, u103, u86, u104, u105, g, v11, hn, h11, p11, m11, hg11⟩
            have E : (Act.put (Act.put (Act.put (Act.put (Act.put (Act.put (Act.put (Act.put (Act.put (Act.put (Act.put (Act.put (Act.put (Act.put (Act.put (Act.put (Act.put (Act.put (Act.put (Act.put (Act.put (Act.put (Act.put A (some 87) u87) (some 88) u88) (some 89) u89) (some 90) u90) (some 91) u91) (some 92) u92) (some 93) u93) (some 94) u94) (some 95) u95) (some 96) u96) (some 97) u97) (some 98) u98) (some 99) u99) (some 100) u100) (some 101) u101) (some 102) u102) (some 16) (.pointer (some ⟨g, 0, none⟩))) (some 103) u103) (some 86) u86) (some 104) u104) (some 105) u105) none undef) (some 17) (.bool B)) = (Act.put (Act.put (Act.put (Act.put (Act.put (Act.put (Act.put (Act.put (Act.put (Act.put (Act.put (Act.put (Act.put (Act.put (Act.put (Act.put (Act.put (Act.put (Act.put (Act.put (Act.put (Act.put (Act.put A (some 87) u87) (some 88) u88) (some 89) u89) (some 90) u90) (some 91) u91) (some 92) u92) (some 93) u93) (some 94) u94) (some 95) u95) (some 96) u96) (some 97) u97) (some 98) u98) (some 99) u99) (some 100) u100) (some 101) u101) (some 102) u102) (some 103) u103) (some 86) u86) (some 104) u104) (some 105) u105) (some 16) (.pointer (some ⟨g, 0, none⟩))) none undef) (some 17) (.bool B)) := by rw [← hA]; kernel_rfl
            have hn : a9 = (Act.put (Act.put (Act.put (Act.put (Act.put (Act.put (Act.put (Act.put (Act.put (Act.put (Act.put (Act.put (Act.put (Act.put (Act.put (Act.put (Act.put (Act.put (Act.put (Act.put (Act.put (Act.put (Act.put A (some 87) u87) (some 88) u88) (some 89) u89) (some 90) u90) (some 91) u91) (some 92) u92) (some 93) u93) (some 94) u94) (some 95) u95) (some 96) u96) (some 97) u97) (some 98) u98) (some 99) u99) (some 100) u100) (some 101) u101) (some 102) u102) (some 103) u103) (some 86) u86) (some 104) u104) (some 105) u105) (some 16) (.pointer (some ⟨g, 0, none⟩))) none undef) (some 17) (.bool B)) := by
              rcases hn with q | q
              · exact q
              · exact q.trans E
            subst hn
            rw [← hA]
            obtain ⟨g11, rfl⟩ : ∃ g11, g11 = g := ⟨_, rfl⟩
            have H8 := Lib.hid (m11.block H8.out)
            have P8 := Lib.hid (P8.out.more m11)
            have H11 := Lib.hid h11
            have P11 := Lib.hid p11
            have G11 := Lib.hid hg11
            have B5 := Lib.hid (m11.block B5.out)
            have B6 := Lib.hid (m11.block B6.out)
            have MB := Lib.hid (MA.out.trans m11)
            have HT2 := Lib.hid (HT.out.trans (Turned.mono MB.out (fun _ _ q => q.elim)))
            have O8 := Lib.hid P8.out.all1
            have O11 : Hid ((#[v11] : Array Value).all (·.oneCell') = true) := Lib.hid (by simp [p11.one])
            have s8 : w.heap.size + 1 < g8 := by have := G8.out; have := HT.out.size; have := S2.out; omega
            have s11 : w.heap.size + 1 < g11 := by have := hg11; have := MA.out.size; have := HT.out.size; have := S2.out; omega
            obtain ⟨wc, ec⟩ : ∃ wc, wb.setRow w.heap.size (puA f8) = wc := ⟨_, rfl⟩
            have tc : Turned (fun b => b = w.heap.size) wb wc := by rw [← ec]; exact Turned.setRow (Turned.refl _ wb) _ _ (fun _ => rfl)
            have bc : wc.heap[w.heap.size]? = some (.cells (puA f8) 27 (0, 0)) := by rw [← ec]; exact setRow_heap _ _ _ _ _ _ B5.out
            have bc6 := (tc.block _ (lt_of_heap B6.out) (by omega)).trans B6.out
            have bc11 := (tc.block _ (lt_of_heap h11) (by omega)).trans h11
            have pc8 := P8.out.keep tc (fun k q => by subst q; exact ⟨_, _, _, B5.out, by decide⟩)
            have pc11 := p11.keep tc (fun k q => by subst q; exact ⟨_, _, _, B5.out, by decide⟩)
            obtain ⟨wd, ed⟩ : ∃ wd, wc.setRow (w.heap.size + 1) #[v11] = wd := ⟨_, rfl⟩
            have td : Turned (fun b => b = w.heap.size + 1) wc wd := by rw [← ed]; exact Turned.setRow (Turned.refl _ wc) _ _ (fun _ => rfl)
            have D6 : Hid (wd.heap[w.heap.size + 1]? = some (.cells #[v11] 30 (0, 0))) := Lib.hid (by rw [← ed]; exact setRow_heap _ _ _ _ _ _ bc6)
            have D5 := Lib.hid ((td.block _ (lt_of_heap bc) (by omega)).trans bc)
            have PD := Lib.hid (pc8.keep td (fun k q => by subst q; exact ⟨_, _, _, bc6, by decide⟩))
            have ID := Lib.hid (pc11.keep td (fun k q => by subst q; exact ⟨_, _, _, bc6, by decide⟩))
            have HT3 : Hid (Turned (fun b => b = w.heap.size ∨ b = w.heap.size + 1) w2 wd) := Lib.hid ((HT2.out.trans (tc.mono fun _ _ q => .inl q)).trans (td.mono fun _ _ q => .inr q))
            have C6 := Lib.hid bc6
            have C11 := Lib.hid bc11
            clear HF hA MR E h11 p11 hg11 m11 tc td bc bc6 bc11 pc8 pc11 MA MB HT HT2 KC CL P11 IX x0 s8 s11
            go_simp
            go_wp2_with (first
              | (refine wpList_load_row rfl 27 _ rfl g8 rfl 27 _ _ _ H8.out Try.underlying27 rfl (by kernel_rfl) ?_)
              | (refine wpList_store_row rfl 27 _ _ rfl w.heap.size (puA f8) rfl rfl 27 _ B5.out (by kernel_rfl) rfl O8.out ?_; rw [ec]; clear ec)
              | (refine wpList_load_row rfl 30 _ rfl g11 rfl 30 _ _ _ C11.out Try.underlying30 rfl (by kernel_rfl) ?_)
              | (refine wpList_store_row rfl 30 _ _ rfl (w.heap.size + 1) #[v11] rfl rfl 30 _ C6.out (by kernel_rfl) rfl O11.out ?_; rw [ed]; clear ed))
            have SM := Lib.hid (fun W (hW : More wd W) => pl_Same f8 PN v11 IN W (PD.out.more hW) (ID.out.more hW) EV'.out (by have := IL'.out; omega) (fun j => by rw [← NEXT.out]; have := aft_len l j (k + 1); omega))
            have OF := Lib.hid (fun W => pl_Of f8 W O8.out)
            have HS := Lib.hid (fun W (hW : More wd W) => p_Has f8 PN x W (PD.out.more hW) (fun j _ => by rw [← NEXT.out]; have := aft_len l j (k + 1); omega))
            have RS := Lib.hid (fun W (hW : More wd W) => r_Has v11 IN x W (ID.out.more hW) (by have := IL'.out; omega))
            obtain ⟨hh, hhh⟩ : ∃ b, hasD (allTo PN 5) x = b := ⟨_, rfl⟩
            rw [hhh] at HS
            rw [← EV'.out.has x, hhh] at RS
            have dh : (hh != hh) = false := by simp
            clear hhh
            refine wp_region_more (by kernel_rfl) (by kernel_rfl) ?_
            refine wpQuiet_load_row rfl 27 _ rfl w.heap.size rfl 27 _ _ _ (fun W hW => hW.block D5.out) Try.underlying27 rfl (by kernel_rfl) ?_
            iterate 1
              with_reducible refine wpQuiet_step (fun K hK => ?_)
              go_simp
              first
              | (refine hK _ ?_; clear hK K)
              | (apply Exists.intro
                 refine ⟨fun W hW => ?_, hK _ ?_⟩
                 first
                 | (go_at_call 10; exact Calls.more hW (OF.out W))
                 | (go_simp; try rfl)
                 clear hK K)
            refine wpQuiet_load_row rfl 30 _ rfl (w.heap.size + 1) rfl 30 _ _ _ (fun W hW => hW.block D6.out) Try.underlying30 rfl (by kernel_rfl) ?_
            iterate 1
              with_reducible refine wpQuiet_step (fun K hK => ?_)
              go_simp
              first
              | (refine hK _ ?_; clear hK K)
              | (apply Exists.intro
                 refine ⟨fun W hW => ?_, hK _ ?_⟩
                 first
                 | (go_at_call 11; exact Calls.more hW (SM.out W hW))
                 | (go_simp; try rfl)
                 clear hK K)
            iterate 2
              with_reducible refine wpQuiet_step (fun K hK => ?_)
              go_simp
              first
              | (refine hK _ ?_; clear hK K)
              | (apply Exists.intro
                 refine ⟨fun W hW => ?_, hK _ ?_⟩
                 first
                 | (go_simp; try rfl)
                 clear hK K)
            refine wpQuiet_load_row rfl 27 _ rfl w.heap.size rfl 27 _ _ _ (fun W hW => hW.block D5.out) Try.underlying27 rfl (by kernel_rfl) ?_
            iterate 1
              with_reducible refine wpQuiet_step (fun K hK => ?_)
              go_simp
              first
              | (refine hK _ ?_; clear hK K)
              | (apply Exists.intro
                 refine ⟨fun W hW => ?_, hK _ ?_⟩
                 first
                 | (go_simp; try rfl)
                 clear hK K)
            iterate 1
              with_reducible refine wpQuiet_step (fun K hK => ?_)
              go_simp
              first
              | (refine hK _ ?_; clear hK K)
              | (apply Exists.intro
                 refine ⟨fun W hW => ?_, hK _ ?_⟩
                 first
                 | (go_at_call 12; exact Calls.more hW (HS.out W hW))
                 | (go_simp; try rfl)
                 clear hK K)
            refine wpQuiet_load_row rfl 30 _ rfl (w.heap.size + 1) rfl 30 _ _ _ (fun W hW => hW.block D6.out) Try.underlying30 rfl (by kernel_rfl) ?_
            iterate 1
              with_reducible refine wpQuiet_step (fun K hK => ?_)
              go_simp
              first
              | (refine hK _ ?_; clear hK K)
              | (apply Exists.intro
                 refine ⟨fun W hW => ?_, hK _ ?_⟩
                 first
                 | (go_simp; try rfl)
                 clear hK K)
            iterate 1
              with_reducible refine wpQuiet_step (fun K hK => ?_)
              go_simp
              first
              | (refine hK _ ?_; clear hK K)
              | (apply Exists.intro
                 refine ⟨fun W hW => ?_, hK _ ?_⟩
                 first
                 | (go_at_call 13; exact Calls.more hW (RS.out W hW))
                 | (go_simp; try rfl)
                 clear hK K)
            iterate 2
              with_reducible refine wpQuiet_step (fun K hK => ?_)
              go_simp
              first
              | (refine hK _ ?_; clear hK K)
              | (apply Exists.intro
                 refine ⟨fun W hW => ?_, hK _ ?_⟩
                 first
                 | (go_simp; try rfl)
                 clear hK K)
            refine wpQuiet_nil ?_
            intro we me
            have FB : Hid (BothAt we w.heap.size (w.heap.size + 1) (aftP l (k + 1)) (k + 1)) := Lib.hid (by rw [NEXT.out]; exact ⟨f8, v11, IN, me.block D5.out, me.block D6.out, PD.out.more me, ID.out.more me, EV'.out, IL'.out⟩)
            have FT := Lib.hid (HT3.out.trans (Turned.mono me (fun _ _ q => q.elim)))
            clear me SM OF HS RS PD ID D5 D6
            go_wp2_with fail
            go_roundw
            case rel => exact ⟨k + 1, by omega, by go_num, FB.out, FT.out⟩
            case measure => simp [intOf]; omega
          intro QQ FINE FIND FINQ
          clear hA
          refine anyC_takeD (i := 0) (v := .agg #[v]) (some 87) rfl rfl (by kernel_rfl) (by kernel_rfl) (by kernel_rfl) (fun c a w => FINQ c a _ _ w) MR.out (by exact yieldsC_row (C := More wa) (wanted_none rfl) 30 _ rfl (w.heap.size + 1) (HF.get 2 rfl) 30 _ _ _ (fun W hW => hW.block B6.out) Try.underlying30 rfl (by kernel_rfl)) ?_
          replace HF := HF.put 87 (.agg #[v]) (by decide) rfl
          generalize hB1_87 : Act.put _ _ _ = A at HF ⊢
          refine anyC_takeD (i := 1) (v := .slice (some ⟨s, o, none⟩) n cap) (some 88) rfl rfl (by kernel_rfl) (by kernel_rfl) (by kernel_rfl) (fun c a w => FINQ c a _ _ w) MR.out (by exact yieldsC_moveG (wanted_none rfl) _ rfl (HF.get 1 rfl)) ?_
          replace HF := HF.put 88 (.slice (some ⟨s, o, none⟩) n cap) (by decide) rfl
          generalize hB2_88 : Act.put _ _ _ = A at HF ⊢
          refine anyC_takeD (i := 2) (v := .int .i64 (k : Int)) (some 89) rfl rfl (by kernel_rfl) (by kernel_rfl) (by kernel_rfl) (fun c a w => FINQ c a _ _ w) MR.out (by exact yieldsC_moveG (wanted_none rfl) _ rfl (HF.get 5 rfl)) ?_
          replace HF := HF.put 89 (.int .i64 (k : Int)) (by decide) rfl
          generalize hB3_89 : Act.put _ _ _ = A at HF ⊢
          refine anyC_takeD (i := 3) (v := .pointer (some ⟨s, o + k * 4, none⟩)) (some 90) rfl rfl (by kernel_rfl) (by kernel_rfl) (by kernel_rfl) (fun c a w => FINQ c a _ _ w) MR.out (by exact yieldsC_act13 (wanted_none rfl) rfl (HF.get 1 rfl) (HF.get 0 rfl) hlt) ?_
          replace HF := HF.put 90 (.pointer (some ⟨s, o + k * 4, none⟩)) (by decide) rfl
          generalize hB4_90 : Act.put _ _ _ = A at HF ⊢
          refine anyC_takeD (i := 4) (v := .pointer (some ⟨s, o + k * 4 + 1, none⟩)) (some 91) rfl rfl (by kernel_rfl) (by kernel_rfl) (by kernel_rfl) (fun c a w => FINQ c a _ _ w) MR.out (by exact (Or.inl ⟨(wanted_none rfl), fun W hW => by have h5 := (HF.getD 0 rfl); go_simp⟩)) ?_
          replace HF := HF.put 91 (.pointer (some ⟨s, o + k * 4 + 1, none⟩)) (by decide) rfl
          generalize hB5_91 : Act.put _ _ _ = A at HF ⊢
          refine anyC_takeD (i := 5) (v := .int .i64 (l k 1)) (some 92) rfl rfl (by kernel_rfl) (by kernel_rfl) (by kernel_rfl) (fun c a w => FINQ c a _ _ w) MR.out (by exact yieldsC_cell (C := (More wa)) (wanted_none rfl) 3 _ rfl s (o + k * 4 + 1) (HF.get 0 rfl) (.int .i64 (l k 1)) _ Try.underlying3 rfl (fun W hW => KC.out W hW _ _ C1.out)) ?_
          replace HF := HF.put 92 (.int .i64 (l k 1)) (by decide) rfl
          generalize hB6_92 : Act.put _ _ _ = A at HF ⊢
          refine anyC_takeD (i := 6) (v := .slice (some ⟨s, o, none⟩) n cap) (some 93) rfl rfl (by kernel_rfl) (by kernel_rfl) (by kernel_rfl) (fun c a w => FINQ c a _ _ w) MR.out (by exact yieldsC_moveG (wanted_none rfl) _ rfl (HF.get 6 rfl)) ?_
          replace HF := HF.put 93 (.slice (some ⟨s, o, none⟩) n cap) (by decide) rfl
          generalize hB7_93 : Act.put _ _ _ = A at HF ⊢
          refine anyC_takeD (i := 7) (v := .int .i64 (k : Int)) (some 94) rfl rfl (by kernel_rfl) (by kernel_rfl) (by kernel_rfl) (fun c a w => FINQ c a _ _ w) MR.out (by exact yieldsC_moveG (wanted_none rfl) _ rfl (HF.get 10 rfl)) ?_
          replace HF := HF.put 94 (.int .i64 (k : Int)) (by decide) rfl
          generalize hB8_94 : Act.put _ _ _ = A at HF ⊢
          refine anyC_takeD (i := 8) (v := .pointer (some ⟨s, o + k * 4, none⟩)) (some 95) rfl rfl (by kernel_rfl) (by kernel_rfl) (by kernel_rfl) (fun c a w => FINQ c a _ _ w) MR.out (by exact yieldsC_act13 (wanted_none rfl) rfl (HF.get 1 rfl) (HF.get 0 rfl) hlt) ?_
          replace HF := HF.put 95 (.pointer (some ⟨s, o + k * 4, none⟩)) (by decide) rfl
          generalize hB9_95 : Act.put _ _ _ = A at HF ⊢
          refine anyC_takeD (i := 9) (v := .pointer (some ⟨s, o + k * 4 + 2, none⟩)) (some 96) rfl rfl (by kernel_rfl) (by kernel_rfl) (by kernel_rfl) (fun c a w => FINQ c a _ _ w) MR.out (by exact (Or.inl ⟨(wanted_none rfl), fun W hW => by have h5 := (HF.getD 0 rfl); go_simp⟩)) ?_
          replace HF := HF.put 96 (.pointer (some ⟨s, o + k * 4 + 2, none⟩)) (by decide) rfl
          generalize hB10_96 : Act.put _ _ _ = A at HF ⊢
          refine anyC_takeD (i := 10) (v := .int .i64 (l k 2)) (some 97) rfl rfl (by kernel_rfl) (by kernel_rfl) (by kernel_rfl) (fun c a w => FINQ c a _ _ w) MR.out (by exact yieldsC_cell (C := (More wa)) (wanted_none rfl) 3 _ rfl s (o + k * 4 + 2) (HF.get 0 rfl) (.int .i64 (l k 2)) _ Try.underlying3 rfl (fun W hW => KC.out W hW _ _ C2.out)) ?_
          replace HF := HF.put 97 (.int .i64 (l k 2)) (by decide) rfl
          generalize hB11_97 : Act.put _ _ _ = A at HF ⊢
          refine anyC_takeD (i := 11) (v := .slice (some ⟨s, o, none⟩) n cap) (some 98) rfl rfl (by kernel_rfl) (by kernel_rfl) (by kernel_rfl) (fun c a w => FINQ c a _ _ w) MR.out (by exact yieldsC_moveG (wanted_none rfl) _ rfl (HF.get 11 rfl)) ?_
          replace HF := HF.put 98 (.slice (some ⟨s, o, none⟩) n cap) (by decide) rfl
          generalize hB12_98 : Act.put _ _ _ = A at HF ⊢
          refine anyC_takeD (i := 12) (v := .int .i64 (k : Int)) (some 99) rfl rfl (by kernel_rfl) (by kernel_rfl) (by kernel_rfl) (fun c a w => FINQ c a _ _ w) MR.out (by exact yieldsC_moveG (wanted_none rfl) _ rfl (HF.get 15 rfl)) ?_
          replace HF := HF.put 99 (.int .i64 (k : Int)) (by decide) rfl
          generalize hB13_99 : Act.put _ _ _ = A at HF ⊢
          refine anyC_takeD (i := 13) (v := .pointer (some ⟨s, o + k * 4, none⟩)) (some 100) rfl rfl (by kernel_rfl) (by kernel_rfl) (by kernel_rfl) (fun c a w => FINQ c a _ _ w) MR.out (by exact yieldsC_act13 (wanted_none rfl) rfl (HF.get 1 rfl) (HF.get 0 rfl) hlt) ?_
          replace HF := HF.put 100 (.pointer (some ⟨s, o + k * 4, none⟩)) (by decide) rfl
          generalize hB14_100 : Act.put _ _ _ = A at HF ⊢
          refine anyC_takeD (i := 14) (v := .pointer (some ⟨s, o + k * 4 + 3, none⟩)) (some 101) rfl rfl (by kernel_rfl) (by kernel_rfl) (by kernel_rfl) (fun c a w => FINQ c a _ _ w) MR.out (by exact (Or.inl ⟨(wanted_none rfl), fun W hW => by have h5 := (HF.getD 0 rfl); go_simp⟩)) ?_
          replace HF := HF.put 101 (.pointer (some ⟨s, o + k * 4 + 3, none⟩)) (by decide) rfl
          generalize hB15_101 : Act.put _ _ _ = A at HF ⊢
          refine anyC_takeD (i := 15) (v := .int .i64 (l k 3)) (some 102) rfl rfl (by kernel_rfl) (by kernel_rfl) (by kernel_rfl) (fun c a w => FINQ c a _ _ w) MR.out (by exact yieldsC_cell (C := (More wa)) (wanted_none rfl) 3 _ rfl s (o + k * 4 + 3) (HF.get 0 rfl) (.int .i64 (l k 3)) _ Try.underlying3 rfl (fun W hW => KC.out W hW _ _ C3.out)) ?_
          replace HF := HF.put 102 (.int .i64 (l k 3)) (by decide) rfl
          generalize hB16_102 : Act.put _ _ _ = A at HF ⊢
          refine anyC_two (i := 16) (j := 20) (some 103) (some 16) (by kernel_rfl) rfl rfl (wanted_none rfl) (wanted_none rfl) rfl rfl (fun K hK => ?_) (fun K hK => ?_)
          · refine wp_call4 rfl (HF.get 15 rfl) (HF.get 10 rfl) (HF.get 5 rfl) (HF.get 0 rfl) (enters_of Try.func9 (by kernel_rfl) rfl) ?_
            refine (CL.out wq MR.out).mono ?_
            rintro e w7 ⟨v7, rfl, h7, m7⟩
            have P7 := Lib.hid h7
            have M7 := Lib.hid (MR.out.trans m7)
            refine hK _ _ M7.out ?_
            clear hK K m7
            replace HF := HF.put 103 (.tuple #[.agg #[v7], .bool B]) (by decide) rfl
            generalize hB17_103 : Act.put _ _ _ = A at HF ⊢
            refine anyC_takeD (i := 17) (v := .tuple #[.agg #[v7], .bool B]) (some 86) rfl rfl (by kernel_rfl) (by kernel_rfl) (by kernel_rfl) (fun c a w => FINQ c a _ _ w) M7.out (by exact yieldsC_moveG (wanted_none rfl) _ rfl (HF.get 0 rfl)) ?_
            replace HF := HF.put 86 (.tuple #[.agg #[v7], .bool B]) (by decide) rfl
            generalize hB18_86 : Act.put _ _ _ = A at HF ⊢
            refine anyC_takeD (i := 18) (v := .agg #[v7]) (some 104) rfl rfl (by kernel_rfl) (by kernel_rfl) (by kernel_rfl) (fun c a w => FINQ c a _ _ w) M7.out (by exact (Or.inl ⟨(wanted_none rfl), fun W hW => by have h5 := (HF.getD 0 rfl); go_simp⟩)) ?_
            replace HF := HF.put 104 (.agg #[v7]) (by decide) rfl
            generalize hB19_104 : Act.put _ _ _ = A at HF ⊢
            refine anyC_takeD (i := 19) (v := .bool B) (some 105) rfl rfl (by kernel_rfl) (by kernel_rfl) (by kernel_rfl) (fun c a w => FINQ c a _ _ w) M7.out (by exact (Or.inl ⟨(wanted_none rfl), fun W hW => by have h5 := (HF.getD 1 rfl); go_simp⟩)) ?_
            replace HF := HF.put 105 (.bool B) (by decide) rfl
            generalize hB20_105 : Act.put _ _ _ = A at HF ⊢
            refine anyC_oneK (i := 20) (some 16) (by kernel_rfl) rfl (wanted_none rfl) rfl (fun K hK => ?_)
            refine wp_alloc_it rfl ?_
            obtain ⟨w8, e8, z8, m8, s8⟩ := en1 w7 (.cells #[.slice none 0 0] 30)
            rw [e8]
            have M8 := Lib.hid (M7.out.trans m8)
            refine hK _ _ M8.out ?_
            clear hK K e8
            replace HF := HF.put 16 (.pointer (some ⟨w7.heap.size, 0, none⟩)) (by decide) rfl
            generalize hB21_16 : Act.put _ _ _ = A at HF ⊢
            have GE : wa.heap.size ≤ w7.heap.size := M7.out.size
            have MF : Hid (More wa (w8.setRow w7.heap.size #[v7])) := Lib.hid (M8.out.setRow _ _ GE)
            refine anyC_oneK (i := 21) none (by kernel_rfl) rfl (wanted_none rfl) rfl (fun K hK => ?_)
            refine wp_store_row 30 _ _ rfl (w7.heap.size) _ (HF.get 0 rfl) (HF.get 2 rfl) 30 _ z8 (by kernel_rfl) rfl (by simp [(IR.one (P7.out.more m8))]) ?_
            refine hK _ _ MF.out ?_
            clear hK K
            replace HF := HF.skipP undef
            generalize hBN : Act.put _ none undef = A at HF ⊢
            refine anyC_takeD (i := 22) (v := .bool B) (some 17) rfl rfl (by kernel_rfl) (by kernel_rfl) (by kernel_rfl) (fun c a w => FINQ c a _ _ w) MF.out (by exact yieldsC_assign (wanted_none rfl) _ rfl (HF.get 1 rfl)) ?_
            replace HF := HF.put 17 (.bool B) (by decide) rfl
            generalize hB23_17 : Act.put _ _ _ = A at HF ⊢
            exact anyC_done (by kernel_rfl) (FINE _ _ ⟨(.agg #[v]), (.slice (some ⟨s, o, none⟩) n cap), (.int .i64 (k : Int)), (.pointer (some ⟨s, o + k * 4, none⟩)), (.pointer (some ⟨s, o + k * 4 + 1, none⟩)), (.int .i64 (l k 1)), (.slice (some ⟨s, o, none⟩) n cap), (.int .i64 (k : Int)), (.pointer (some ⟨s, o + k * 4, none⟩)), (.pointer (some ⟨s, o + k * 4 + 2, none⟩)), (.int .i64 (l k 2)), (.slice (some ⟨s, o, none⟩) n cap), (.int .i64 (k : Int)), (.pointer (some ⟨s, o + k * 4, none⟩)), (.pointer (some ⟨s, o + k * 4 + 3, none⟩)), (.int .i64 (l k 3)), (.tuple #[.agg #[v7], .bool B]), (.tuple #[.agg #[v7], .bool B]), (.agg #[v7]), (.bool B), w7.heap.size, v7, Or.inl (by rw [← hB23_17, ← hBN, ← hB21_16, ← hB20_105, ← hB19_104, ← hB18_86, ← hB17_103, ← hB16_102, ← hB15_101, ← hB14_100, ← hB13_99, ← hB12_98, ← hB11_97, ← hB10_96, ← hB9_95, ← hB8_94, ← hB7_93, ← hB6_92, ← hB5_91, ← hB4_90, ← hB3_89, ← hB2_88, ← hB1_87]), setRow_heap _ _ _ _ _ _ z8, (IR.keep (P7.out.more m8) (S := fun k => k = w7.heap.size) (Turned.setRow (Turned.refl _ _) _ _ (fun _ => rfl)) (fun k q => by subst q; exact ⟨_, _, _, z8, by decide⟩)), MF.out, GE⟩)
          · refine wp_alloc_it rfl ?_
            obtain ⟨w7, e7, z7, m7, s7⟩ := en1 wq (.cells #[.slice none 0 0] 30)
            rw [e7]
            have M7 := Lib.hid (MR.out.trans m7)
            refine hK _ _ M7.out ?_
            clear hK K e7
            replace HF := HF.put 16 (.pointer (some ⟨wq.heap.size, 0, none⟩)) (by decide) rfl
            generalize hB17_16 : Act.put _ _ _ = A at HF ⊢
            refine anyC_oneK (i := 16) (some 103) (by kernel_rfl) rfl (wanted_none rfl) rfl (fun K hK => ?_)
            refine wp_call4 rfl (HF.get 16 rfl) (HF.get 11 rfl) (HF.get 6 rfl) (HF.get 1 rfl) (enters_of Try.func9 (by kernel_rfl) rfl) ?_
            refine (CL.out w7 M7.out).mono ?_
            rintro e w8 ⟨v8, rfl, h8, m8⟩
            have P8 := Lib.hid h8
            have M8 := Lib.hid (M7.out.trans m8)
            refine hK _ _ M8.out ?_
            clear hK K
            replace HF := HF.put 103 (.tuple #[.agg #[v8], .bool B]) (by decide) rfl
            generalize hB18_103 : Act.put _ _ _ = A at HF ⊢
            refine anyC_takeD (i := 17) (v := .tuple #[.agg #[v8], .bool B]) (some 86) rfl rfl (by kernel_rfl) (by kernel_rfl) (by kernel_rfl) (fun c a w => FINQ c a _ _ w) M8.out (by exact yieldsC_moveG (wanted_none rfl) _ rfl (HF.get 0 rfl)) ?_
            replace HF := HF.put 86 (.tuple #[.agg #[v8], .bool B]) (by decide) rfl
            generalize hB19_86 : Act.put _ _ _ = A at HF ⊢
            refine anyC_takeD (i := 18) (v := .agg #[v8]) (some 104) rfl rfl (by kernel_rfl) (by kernel_rfl) (by kernel_rfl) (fun c a w => FINQ c a _ _ w) M8.out (by exact (Or.inl ⟨(wanted_none rfl), fun W hW => by have h5 := (HF.getD 0 rfl); go_simp⟩)) ?_
            replace HF := HF.put 104 (.agg #[v8]) (by decide) rfl
            generalize hB20_104 : Act.put _ _ _ = A at HF ⊢
            refine anyC_takeD (i := 19) (v := .bool B) (some 105) rfl rfl (by kernel_rfl) (by kernel_rfl) (by kernel_rfl) (fun c a w => FINQ c a _ _ w) M8.out (by exact (Or.inl ⟨(wanted_none rfl), fun W hW => by have h5 := (HF.getD 1 rfl); go_simp⟩)) ?_
            replace HF := HF.put 105 (.bool B) (by decide) rfl
            generalize hB21_105 : Act.put _ _ _ = A at HF ⊢
            have GE : wa.heap.size ≤ wq.heap.size := MR.out.size
            have MF : Hid (More wa (w8.setRow wq.heap.size #[v8])) := Lib.hid (M8.out.setRow _ _ GE)
            refine anyC_oneK (i := 21) none (by kernel_rfl) rfl (wanted_none rfl) rfl (fun K hK => ?_)
            refine wp_store_row 30 _ _ rfl (wq.heap.size) _ (HF.get 4 rfl) (HF.get 1 rfl) 30 _ (m8.block z7) (by kernel_rfl) rfl (by simp [(IR.one P8.out)]) ?_
            refine hK _ _ MF.out ?_
            clear hK K
            replace HF := HF.skipP undef
            generalize hBN : Act.put _ none undef = A at HF ⊢
            refine anyC_takeD (i := 22) (v := .bool B) (some 17) rfl rfl (by kernel_rfl) (by kernel_rfl) (by kernel_rfl) (fun c a w => FINQ c a _ _ w) MF.out (by exact yieldsC_assign (wanted_none rfl) _ rfl (HF.get 0 rfl)) ?_
            replace HF := HF.put 17 (.bool B) (by decide) rfl
            generalize hB23_17 : Act.put _ _ _ = A at HF ⊢
            exact anyC_done (by kernel_rfl) (FINE _ _ ⟨(.agg #[v]), (.slice (some ⟨s, o, none⟩) n cap), (.int .i64 (k : Int)), (.pointer (some ⟨s, o + k * 4, none⟩)), (.pointer (some ⟨s, o + k * 4 + 1, none⟩)), (.int .i64 (l k 1)), (.slice (some ⟨s, o, none⟩) n cap), (.int .i64 (k : Int)), (.pointer (some ⟨s, o + k * 4, none⟩)), (.pointer (some ⟨s, o + k * 4 + 2, none⟩)), (.int .i64 (l k 2)), (.slice (some ⟨s, o, none⟩) n cap), (.int .i64 (k : Int)), (.pointer (some ⟨s, o + k * 4, none⟩)), (.pointer (some ⟨s, o + k * 4 + 3, none⟩)), (.int .i64 (l k 3)), (.tuple #[.agg #[v8], .bool B]), (.tuple #[.agg #[v8], .bool B]), (.agg #[v8]), (.bool B), wq.heap.size, v8, Or.inr (by rw [← hB23_17, ← hBN, ← hB21_105, ← hB20_104, ← hB19_86, ← hB18_103, ← hB17_16, ← hB16_102, ← hB15_101, ← hB14_100, ← hB13_99, ← hB12_98, ← hB11_97, ← hB10_96, ← hB9_95, ← hB8_94, ← hB7_93, ← hB6_92, ← hB5_91, ← hB4_90, ← hB3_89, ← hB2_88, ← hB1_87]), setRow_heap _ _ _ _ _ _ (m8.block z7), (IR.keep P8.out (S := fun k => k = wq.heap.size) (Turned.setRow (Turned.refl _ _) _ _ (fun _ => rfl)) (fun k q => by subst q; exact ⟨_, _, _, (m8.block z7), by decide⟩)), MF.out, GE⟩)
        intro QQ FINE FIND FINQ
        clear hA
        refine anyC_takeD (i := 0) (v := .agg (puA f)) (some 67) rfl rfl (by kernel_rfl) (by kernel_rfl) (by kernel_rfl) (fun c a w => FINQ c a _ _ w) MR.out (by exact yieldsC_row (C := More wr) (wanted_none rfl) 27 _ rfl (w.heap.size) (HF.get 1 rfl) 27 _ _ _ (fun W hW => hW.block B5.out) Try.underlying27 rfl (by kernel_rfl)) ?_
        replace HF := HF.put 67 (.agg (puA f)) (by decide) rfl
        generalize hB1_67 : Act.put _ _ _ = A at HF ⊢
        refine anyC_takeD (i := 1) (v := .slice (some ⟨s, o, none⟩) n cap) (some 68) rfl rfl (by kernel_rfl) (by kernel_rfl) (by kernel_rfl) (fun c a w => FINQ c a _ _ w) MR.out (by exact yieldsC_moveG (wanted_none rfl) _ rfl (HF.get 1 rfl)) ?_
        replace HF := HF.put 68 (.slice (some ⟨s, o, none⟩) n cap) (by decide) rfl
        generalize hB2_68 : Act.put _ _ _ = A at HF ⊢
        refine anyC_takeD (i := 2) (v := .int .i64 (k : Int)) (some 69) rfl rfl (by kernel_rfl) (by kernel_rfl) (by kernel_rfl) (fun c a w => FINQ c a _ _ w) MR.out (by exact yieldsC_moveG (wanted_none rfl) _ rfl (HF.get 5 rfl)) ?_
        replace HF := HF.put 69 (.int .i64 (k : Int)) (by decide) rfl
        generalize hB3_69 : Act.put _ _ _ = A at HF ⊢
        refine anyC_takeD (i := 3) (v := .pointer (some ⟨s, o + k * 4, none⟩)) (some 70) rfl rfl (by kernel_rfl) (by kernel_rfl) (by kernel_rfl) (fun c a w => FINQ c a _ _ w) MR.out (by exact yieldsC_act13 (wanted_none rfl) rfl (HF.get 1 rfl) (HF.get 0 rfl) hlt) ?_
        replace HF := HF.put 70 (.pointer (some ⟨s, o + k * 4, none⟩)) (by decide) rfl
        generalize hB4_70 : Act.put _ _ _ = A at HF ⊢
        refine anyC_takeD (i := 4) (v := .pointer (some ⟨s, o + k * 4 + 1, none⟩)) (some 71) rfl rfl (by kernel_rfl) (by kernel_rfl) (by kernel_rfl) (fun c a w => FINQ c a _ _ w) MR.out (by exact (Or.inl ⟨(wanted_none rfl), fun W hW => by have h5 := (HF.getD 0 rfl); go_simp⟩)) ?_
        replace HF := HF.put 71 (.pointer (some ⟨s, o + k * 4 + 1, none⟩)) (by decide) rfl
        generalize hB5_71 : Act.put _ _ _ = A at HF ⊢
        refine anyC_takeD (i := 5) (v := .int .i64 (l k 1)) (some 72) rfl rfl (by kernel_rfl) (by kernel_rfl) (by kernel_rfl) (fun c a w => FINQ c a _ _ w) MR.out (by exact yieldsC_cell (C := (More wr)) (wanted_none rfl) 3 _ rfl s (o + k * 4 + 1) (HF.get 0 rfl) (.int .i64 (l k 1)) _ Try.underlying3 rfl (fun W hW => KC.out W hW _ _ C1.out)) ?_
        replace HF := HF.put 72 (.int .i64 (l k 1)) (by decide) rfl
        generalize hB6_72 : Act.put _ _ _ = A at HF ⊢
        refine anyC_takeD (i := 6) (v := .slice (some ⟨s, o, none⟩) n cap) (some 73) rfl rfl (by kernel_rfl) (by kernel_rfl) (by kernel_rfl) (fun c a w => FINQ c a _ _ w) MR.out (by exact yieldsC_moveG (wanted_none rfl) _ rfl (HF.get 6 rfl)) ?_
        replace HF := HF.put 73 (.slice (some ⟨s, o, none⟩) n cap) (by decide) rfl
        generalize hB7_73 : Act.put _ _ _ = A at HF ⊢
        refine anyC_takeD (i := 7) (v := .int .i64 (k : Int)) (some 74) rfl rfl (by kernel_rfl) (by kernel_rfl) (by kernel_rfl) (fun c a w => FINQ c a _ _ w) MR.out (by exact yieldsC_moveG (wanted_none rfl) _ rfl (HF.get 10 rfl)) ?_
        replace HF := HF.put 74 (.int .i64 (k : Int)) (by decide) rfl
        generalize hB8_74 : Act.put _ _ _ = A at HF ⊢
        refine anyC_takeD (i := 8) (v := .pointer (some ⟨s, o + k * 4, none⟩)) (some 75) rfl rfl (by kernel_rfl) (by kernel_rfl) (by kernel_rfl) (fun c a w => FINQ c a _ _ w) MR.out (by exact yieldsC_act13 (wanted_none rfl) rfl (HF.get 1 rfl) (HF.get 0 rfl) hlt) ?_
        replace HF := HF.put 75 (.pointer (some ⟨s, o + k * 4, none⟩)) (by decide) rfl
        generalize hB9_75 : Act.put _ _ _ = A at HF ⊢
        refine anyC_takeD (i := 9) (v := .pointer (some ⟨s, o + k * 4 + 2, none⟩)) (some 76) rfl rfl (by kernel_rfl) (by kernel_rfl) (by kernel_rfl) (fun c a w => FINQ c a _ _ w) MR.out (by exact (Or.inl ⟨(wanted_none rfl), fun W hW => by have h5 := (HF.getD 0 rfl); go_simp⟩)) ?_
        replace HF := HF.put 76 (.pointer (some ⟨s, o + k * 4 + 2, none⟩)) (by decide) rfl
        generalize hB10_76 : Act.put _ _ _ = A at HF ⊢
        refine anyC_takeD (i := 10) (v := .int .i64 (l k 2)) (some 77) rfl rfl (by kernel_rfl) (by kernel_rfl) (by kernel_rfl) (fun c a w => FINQ c a _ _ w) MR.out (by exact yieldsC_cell (C := (More wr)) (wanted_none rfl) 3 _ rfl s (o + k * 4 + 2) (HF.get 0 rfl) (.int .i64 (l k 2)) _ Try.underlying3 rfl (fun W hW => KC.out W hW _ _ C2.out)) ?_
        replace HF := HF.put 77 (.int .i64 (l k 2)) (by decide) rfl
        generalize hB11_77 : Act.put _ _ _ = A at HF ⊢
        refine anyC_takeD (i := 11) (v := .slice (some ⟨s, o, none⟩) n cap) (some 78) rfl rfl (by kernel_rfl) (by kernel_rfl) (by kernel_rfl) (fun c a w => FINQ c a _ _ w) MR.out (by exact yieldsC_moveG (wanted_none rfl) _ rfl (HF.get 11 rfl)) ?_
        replace HF := HF.put 78 (.slice (some ⟨s, o, none⟩) n cap) (by decide) rfl
        generalize hB12_78 : Act.put _ _ _ = A at HF ⊢
        refine anyC_takeD (i := 12) (v := .int .i64 (k : Int)) (some 79) rfl rfl (by kernel_rfl) (by kernel_rfl) (by kernel_rfl) (fun c a w => FINQ c a _ _ w) MR.out (by exact yieldsC_moveG (wanted_none rfl) _ rfl (HF.get 15 rfl)) ?_
        replace HF := HF.put 79 (.int .i64 (k : Int)) (by decide) rfl
        generalize hB13_79 : Act.put _ _ _ = A at HF ⊢
        refine anyC_takeD (i := 13) (v := .pointer (some ⟨s, o + k * 4, none⟩)) (some 80) rfl rfl (by kernel_rfl) (by kernel_rfl) (by kernel_rfl) (fun c a w => FINQ c a _ _ w) MR.out (by exact yieldsC_act13 (wanted_none rfl) rfl (HF.get 1 rfl) (HF.get 0 rfl) hlt) ?_
        replace HF := HF.put 80 (.pointer (some ⟨s, o + k * 4, none⟩)) (by decide) rfl
        generalize hB14_80 : Act.put _ _ _ = A at HF ⊢
        refine anyC_takeD (i := 14) (v := .pointer (some ⟨s, o + k * 4 + 3, none⟩)) (some 81) rfl rfl (by kernel_rfl) (by kernel_rfl) (by kernel_rfl) (fun c a w => FINQ c a _ _ w) MR.out (by exact (Or.inl ⟨(wanted_none rfl), fun W hW => by have h5 := (HF.getD 0 rfl); go_simp⟩)) ?_
        replace HF := HF.put 81 (.pointer (some ⟨s, o + k * 4 + 3, none⟩)) (by decide) rfl
        generalize hB15_81 : Act.put _ _ _ = A at HF ⊢
        refine anyC_takeD (i := 15) (v := .int .i64 (l k 3)) (some 82) rfl rfl (by kernel_rfl) (by kernel_rfl) (by kernel_rfl) (fun c a w => FINQ c a _ _ w) MR.out (by exact yieldsC_cell (C := (More wr)) (wanted_none rfl) 3 _ rfl s (o + k * 4 + 3) (HF.get 0 rfl) (.int .i64 (l k 3)) _ Try.underlying3 rfl (fun W hW => KC.out W hW _ _ C3.out)) ?_
        replace HF := HF.put 82 (.int .i64 (l k 3)) (by decide) rfl
        generalize hB16_82 : Act.put _ _ _ = A at HF ⊢
        refine anyC_two (i := 16) (j := 20) (some 83) (some 14) (by kernel_rfl) rfl rfl (wanted_none rfl) (wanted_none rfl) rfl rfl (fun K hK => ?_) (fun K hK => ?_)
        · refine wp_call4 rfl (HF.get 15 rfl) (HF.get 10 rfl) (HF.get 5 rfl) (HF.get 0 rfl) (enters_of Try.func8 (by kernel_rfl) rfl) ?_
          refine (CL.out wq MR.out).mono ?_
          rintro e w7 ⟨f7, rfl, h7, m7⟩
          have P7 := Lib.hid h7
          have M7 := Lib.hid (MR.out.trans m7)
          refine hK _ _ M7.out ?_
          clear hK K m7
          replace HF := HF.put 83 (.tuple #[.agg (puA f7), .bool B]) (by decide) rfl
          generalize hB17_83 : Act.put _ _ _ = A at HF ⊢
          refine anyC_takeD (i := 17) (v := .tuple #[.agg (puA f7), .bool B]) (some 66) rfl rfl (by kernel_rfl) (by kernel_rfl) (by kernel_rfl) (fun c a w => FINQ c a _ _ w) M7.out (by exact yieldsC_moveG (wanted_none rfl) _ rfl (HF.get 0 rfl)) ?_
          replace HF := HF.put 66 (.tuple #[.agg (puA f7), .bool B]) (by decide) rfl
          generalize hB18_66 : Act.put _ _ _ = A at HF ⊢
          refine anyC_takeD (i := 18) (v := .agg (puA f7)) (some 84) rfl rfl (by kernel_rfl) (by kernel_rfl) (by kernel_rfl) (fun c a w => FINQ c a _ _ w) M7.out (by exact (Or.inl ⟨(wanted_none rfl), fun W hW => by have h5 := (HF.getD 0 rfl); go_simp⟩)) ?_
          replace HF := HF.put 84 (.agg (puA f7)) (by decide) rfl
          generalize hB19_84 : Act.put _ _ _ = A at HF ⊢
          refine anyC_takeD (i := 19) (v := .bool B) (some 85) rfl rfl (by kernel_rfl) (by kernel_rfl) (by kernel_rfl) (fun c a w => FINQ c a _ _ w) M7.out (by exact (Or.inl ⟨(wanted_none rfl), fun W hW => by have h5 := (HF.getD 1 rfl); go_simp⟩)) ?_
          replace HF := HF.put 85 (.bool B) (by decide) rfl
          generalize hB20_85 : Act.put _ _ _ = A at HF ⊢
          refine anyC_oneK (i := 20) (some 14) (by kernel_rfl) rfl (wanted_none rfl) rfl (fun K hK => ?_)
          refine wp_alloc_pu rfl ?_
          obtain ⟨w8, e8, z8, m8, s8⟩ := en1 w7 (.cells #[.slice none 0 0, .slice none 0 0, .slice none 0 0, .slice none 0 0, .slice none 0 0] 27)
          rw [e8]
          have M8 := Lib.hid (M7.out.trans m8)
          refine hK _ _ M8.out ?_
          clear hK K e8
          replace HF := HF.put 14 (.pointer (some ⟨w7.heap.size, 0, none⟩)) (by decide) rfl
          generalize hB21_14 : Act.put _ _ _ = A at HF ⊢
          have GE : wr.heap.size ≤ w7.heap.size := M7.out.size
          have MF : Hid (More wr (w8.setRow w7.heap.size (puA f7))) := Lib.hid (M8.out.setRow _ _ GE)
          refine anyC_oneK (i := 21) none (by kernel_rfl) rfl (wanted_none rfl) rfl (fun K hK => ?_)
          refine wp_store_row 27 _ _ rfl (w7.heap.size) _ (HF.get 0 rfl) (HF.get 2 rfl) 27 _ z8 (by kernel_rfl) rfl (Pu.all1 (P7.out.more m8)) ?_
          refine hK _ _ MF.out ?_
          clear hK K
          replace HF := HF.skipP undef
          generalize hBN : Act.put _ none undef = A at HF ⊢
          refine anyC_takeD (i := 22) (v := .bool B) (some 15) rfl rfl (by kernel_rfl) (by kernel_rfl) (by kernel_rfl) (fun c a w => FINQ c a _ _ w) MF.out (by exact yieldsC_assign (wanted_none rfl) _ rfl (HF.get 1 rfl)) ?_
          replace HF := HF.put 15 (.bool B) (by decide) rfl
          generalize hB23_15 : Act.put _ _ _ = A at HF ⊢
          exact anyC_done (by kernel_rfl) (FINE _ _ ⟨(.agg (puA f)), (.slice (some ⟨s, o, none⟩) n cap), (.int .i64 (k : Int)), (.pointer (some ⟨s, o + k * 4, none⟩)), (.pointer (some ⟨s, o + k * 4 + 1, none⟩)), (.int .i64 (l k 1)), (.slice (some ⟨s, o, none⟩) n cap), (.int .i64 (k : Int)), (.pointer (some ⟨s, o + k * 4, none⟩)), (.pointer (some ⟨s, o + k * 4 + 2, none⟩)), (.int .i64 (l k 2)), (.slice (some ⟨s, o, none⟩) n cap), (.int .i64 (k : Int)), (.pointer (some ⟨s, o + k * 4, none⟩)), (.pointer (some ⟨s, o + k * 4 + 3, none⟩)), (.int .i64 (l k 3)), (.tuple #[.agg (puA f7), .bool B]), (.tuple #[.agg (puA f7), .bool B]), (.agg (puA f7)), (.bool B), w7.heap.size, f7, Or.inl (by rw [← hB23_15, ← hBN, ← hB21_14, ← hB20_85, ← hB19_84, ← hB18_66, ← hB17_83, ← hB16_82, ← hB15_81, ← hB14_80, ← hB13_79, ← hB12_78, ← hB11_77, ← hB10_76, ← hB9_75, ← hB8_74, ← hB7_73, ← hB6_72, ← hB5_71, ← hB4_70, ← hB3_69, ← hB2_68, ← hB1_67]), setRow_heap _ _ _ _ _ _ z8, (Pu.keep (P7.out.more m8) (S := fun k => k = w7.heap.size) (Turned.setRow (Turned.refl _ _) _ _ (fun _ => rfl)) (fun k q => by subst q; exact ⟨_, _, _, z8, by decide⟩)), MF.out, GE⟩)
        · refine wp_alloc_pu rfl ?_
          obtain ⟨w7, e7, z7, m7, s7⟩ := en1 wq (.cells #[.slice none 0 0, .slice none 0 0, .slice none 0 0, .slice none 0 0, .slice none 0 0] 27)
          rw [e7]
          have M7 := Lib.hid (MR.out.trans m7)
          refine hK _ _ M7.out ?_
          clear hK K e7
          replace HF := HF.put 14 (.pointer (some ⟨wq.heap.size, 0, none⟩)) (by decide) rfl
          generalize hB17_14 : Act.put _ _ _ = A at HF ⊢
          refine anyC_oneK (i := 16) (some 83) (by kernel_rfl) rfl (wanted_none rfl) rfl (fun K hK => ?_)
          refine wp_call4 rfl (HF.get 16 rfl) (HF.get 11 rfl) (HF.get 6 rfl) (HF.get 1 rfl) (enters_of Try.func8 (by kernel_rfl) rfl) ?_
          refine (CL.out w7 M7.out).mono ?_
          rintro e w8 ⟨f8, rfl, h8, m8⟩
          have P8 := Lib.hid h8
          have M8 := Lib.hid (M7.out.trans m8)
          refine hK _ _ M8.out ?_
          clear hK K
          replace HF := HF.put 83 (.tuple #[.agg (puA f8), .bool B]) (by decide) rfl
          generalize hB18_83 : Act.put _ _ _ = A at HF ⊢
          refine anyC_takeD (i := 17) (v := .tuple #[.agg (puA f8), .bool B]) (some 66) rfl rfl (by kernel_rfl) (by kernel_rfl) (by kernel_rfl) (fun c a w => FINQ c a _ _ w) M8.out (by exact yieldsC_moveG (wanted_none rfl) _ rfl (HF.get 0 rfl)) ?_
          replace HF := HF.put 66 (.tuple #[.agg (puA f8), .bool B]) (by decide) rfl
          generalize hB19_66 : Act.put _ _ _ = A at HF ⊢
          refine anyC_takeD (i := 18) (v := .agg (puA f8)) (some 84) rfl rfl (by kernel_rfl) (by kernel_rfl) (by kernel_rfl) (fun c a w => FINQ c a _ _ w) M8.out (by exact (Or.inl ⟨(wanted_none rfl), fun W hW => by have h5 := (HF.getD 0 rfl); go_simp⟩)) ?_
          replace HF := HF.put 84 (.agg (puA f8)) (by decide) rfl
          generalize hB20_84 : Act.put _ _ _ = A at HF ⊢
          refine anyC_takeD (i := 19) (v := .bool B) (some 85) rfl rfl (by kernel_rfl) (by kernel_rfl) (by kernel_rfl) (fun c a w => FINQ c a _ _ w) M8.out (by exact (Or.inl ⟨(wanted_none rfl), fun W hW => by have h5 := (HF.getD 1 rfl); go_simp⟩)) ?_
          replace HF := HF.put 85 (.bool B) (by decide) rfl
          generalize hB21_85 : Act.put _ _ _ = A at HF ⊢
          have GE : wr.heap.size ≤ wq.heap.size := MR.out.size
          have MF : Hid (More wr (w8.setRow wq.heap.size (puA f8))) := Lib.hid (M8.out.setRow _ _ GE)
          refine anyC_oneK (i := 21) none (by kernel_rfl) rfl (wanted_none rfl) rfl (fun K hK => ?_)
          refine wp_store_row 27 _ _ rfl (wq.heap.size) _ (HF.get 4 rfl) (HF.get 1 rfl) 27 _ (m8.block z7) (by kernel_rfl) rfl (Pu.all1 P8.out) ?_
          refine hK _ _ MF.out ?_
          clear hK K
          replace HF := HF.skipP undef
          generalize hBN : Act.put _ none undef = A at HF ⊢
          refine anyC_takeD (i := 22) (v := .bool B) (some 15) rfl rfl (by kernel_rfl) (by kernel_rfl) (by kernel_rfl) (fun c a w => FINQ c a _ _ w) MF.out (by exact yieldsC_assign (wanted_none rfl) _ rfl (HF.get 0 rfl)) ?_
          replace HF := HF.put 15 (.bool B) (by decide) rfl
          generalize hB23_15 : Act.put _ _ _ = A at HF ⊢
          exact anyC_done (by kernel_rfl) (FINE _ _ ⟨(.agg (puA f)), (.slice (some ⟨s, o, none⟩) n cap), (.int .i64 (k : Int)), (.pointer (some ⟨s, o + k * 4, none⟩)), (.pointer (some ⟨s, o + k * 4 + 1, none⟩)), (.int .i64 (l k 1)), (.slice (some ⟨s, o, none⟩) n cap), (.int .i64 (k : Int)), (.pointer (some ⟨s, o + k * 4, none⟩)), (.pointer (some ⟨s, o + k * 4 + 2, none⟩)), (.int .i64 (l k 2)), (.slice (some ⟨s, o, none⟩) n cap), (.int .i64 (k : Int)), (.pointer (some ⟨s, o + k * 4, none⟩)), (.pointer (some ⟨s, o + k * 4 + 3, none⟩)), (.int .i64 (l k 3)), (.tuple #[.agg (puA f8), .bool B]), (.tuple #[.agg (puA f8), .bool B]), (.agg (puA f8)), (.bool B), wq.heap.size, f8, Or.inr (by rw [← hB23_15, ← hBN, ← hB21_85, ← hB20_84, ← hB19_66, ← hB18_83, ← hB17_14, ← hB16_82, ← hB15_81, ← hB14_80, ← hB13_79, ← hB12_78, ← hB11_77, ← hB10_76, ← hB9_75, ← hB8_74, ← hB7_73, ← hB6_72, ← hB5_71, ← hB4_70, ← hB3_69, ← hB2_68, ← hB1_67]), setRow_heap _ _ _ _ _ _ (m8.block z7), (Pu.keep P8.out (S := fun k => k = wq.heap.size) (Turned.setRow (Turned.refl _ _) _ _ (fun _ => rfl)) (fun k q => by subst q; exact ⟨_, _, _, (m8.block z7), by decide⟩)), MF.out, GE⟩)
    · have FT := Lib.hid (turned_own13 M2.out ht (by omega))
      clear hb ht
      go_wp2_with fail
      refine (LV.out wr).mono ?_
      rintro e w9 ⟨rfl, h9⟩
      have M9 := Lib.hid (FT.out.trans h9)
      clear h9
      go_wp2_with fail
      go_ret
      exact ⟨rfl, M9.out⟩
end Go.Proofs.Ytmafllcmkhgidaa
