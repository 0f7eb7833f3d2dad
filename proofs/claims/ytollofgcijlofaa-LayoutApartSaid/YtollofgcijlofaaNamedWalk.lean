/-
  The list of all names that LayoutApart makes: no two alike, each in its place.
-/
import Derived.Test.YtollofgcijlofaaLayE
import Derived.Test.YtollofgcijlofaaNames
import Derived.Test.YtollofgcijlofaaNamedRs
namespace Go.Proofs.Ytollofgcijlofaa
open Go.RowKit
set_option linter.unusedVariables false
set_option linter.unusedSimpArgs false

variable (wk cp pg st tr wt ck pr ca bi ba : Int) (w : World)

theorem aheadT_top (k : Nat) (h : k ≤ 5) : aheadT k ≤ 62 := by
  have hc : k = 0 ∨ k = 1 ∨ k = 2 ∨ k = 3 ∨ k = 4 ∨ k = 5 := by omega
  rcases hc with rfl | rfl | rfl | rfl | rfl | rfl <;> decide
/-- What is known of the places, as plain numbers. -/
def Facts (cp pg st ca bi : Int) : Prop := tableV st = 3 + st ∧ headsV st pg = tableV st + chunksV pg + 5 * pg ∧ cachesV st pg = headsV st pg + 62 ∧ binsV cp pg st ca = cachesV st pg + 5 * cp * (ca + 1) ∧ liveV cp pg st ca bi = binsV cp pg st ca + 5 * (bi + 1) ∧ wordsV cp pg st ca bi = userV cp pg st ca bi + 32 * pg ∧ liveV cp pg st ca bi + 32 * pg ≤ userV cp pg st ca bi ∧ wordsV cp pg st ca bi ≤ 18432 ∧ 1 ≤ st ∧ st ≤ 64 ∧ 1 ≤ pg ∧ pg ≤ 256 ∧ 1 ≤ chunksV pg ∧ chunksV pg ≤ 64 ∧ 1 ≤ cp ∧ cp ≤ 8 ∧ 0 ≤ ca ∧ ca ≤ 8 ∧ 0 ≤ bi ∧ bi ≤ 16 ∧ 5 ≤ 5 * cp * (ca + 1)
theorem facts_of {wk cp pg st tr wt ck pr ca bi ba} (R : CfgOk wk cp pg st tr wt ck pr ca bi ba) : Facts cp pg st ca bi := by
  have b1 := tableB R; have b2 := chunksB R; have b7 := userB R; have b8 := wordsB R; have b9 := prod5B R
  exact ⟨rfl, rfl, rfl, rfl, rfl, rfl, b7.2.2, b8.2, R.st1, R.st2, R.pg1, R.pg2, b2.1, b2.2, R.cp1, R.cp2, R.ca1, R.ca2, R.bi1, R.bi2, b9.1⟩

set_option maxRecDepth 100000 in
set_option maxHeartbeats 64000000 in
theorem named_gives (R : CfgOk wk cp pg st tr wt ck pr ca bi ba) : Calls Try.prog 46 #[.agg (layArr wk cp pg st tr wt ck pr ca bi ba (startsV cp pg st ca bi))] w (fun e w' => ∃ (v : Value) (wa : World), e = .returned v ∧ w.heap.size ≤ wa.heap.size ∧ More w wa ∧ More wa w' ∧ Nm wa.heap.size (Ru (liveV cp pg st ca bi) (userV cp pg st ca bi) (32 * pg)) w' v) := by
  have HF : Hid (Facts cp pg st ca bi) := facts_of R
  unfold Facts at HF
  have HQ := Lib.hid R
  have HG := Lib.hid (fun W => xconfig R W)
  have HT : Hid (∀ k W, 0 ≤ k → k < chunksV pg → Calls Try.prog 17 #[.agg (layArr wk cp pg st tr wt ck pr ca bi ba (startsV cp pg st ca bi)), .int .i64 k] W (Gives W (.int .i64 (tableV st + k)))) := fun k W h0 h1 => by
    have := xtable R W k
    rwa [show tblV pg st k = tableV st + k from if_pos ⟨h0, h1⟩] at this
  have HP0 : Hid (∀ k W, 0 ≤ k → k < pg → Calls Try.prog 21 #[.agg (layArr wk cp pg st tr wt ck pr ca bi ba (startsV cp pg st ca bi)), .int .i64 k] W (Gives W (.int .i64 (tableV st + chunksV pg + k)))) := fun k W h0 h1 => by
    have := xkind R W k
    rwa [show pageV pg st 0 k = tableV st + chunksV pg + k by unfold pageV; rw [if_pos ⟨h0, h1⟩]; omega] at this
  have HP1 : Hid (∀ k W, 0 ≤ k → k < pg → Calls Try.prog 23 #[.agg (layArr wk cp pg st tr wt ck pr ca bi ba (startsV cp pg st ca bi)), .int .i64 k] W (Gives W (.int .i64 (tableV st + chunksV pg + pg + k)))) := fun k W h0 h1 => by
    have := xcount R W k
    rwa [show pageV pg st 1 k = tableV st + chunksV pg + pg + k by unfold pageV; rw [if_pos ⟨h0, h1⟩]; omega] at this
  have HP2 : Hid (∀ k W, 0 ≤ k → k < pg → Calls Try.prog 25 #[.agg (layArr wk cp pg st tr wt ck pr ca bi ba (startsV cp pg st ca bi)), .int .i64 k] W (Gives W (.int .i64 (tableV st + chunksV pg + 2 * pg + k)))) := fun k W h0 h1 => by
    have := xbits R W k
    rwa [show pageV pg st 2 k = tableV st + chunksV pg + 2 * pg + k by unfold pageV; rw [if_pos ⟨h0, h1⟩]] at this
  have HP3 : Hid (∀ k W, 0 ≤ k → k < pg → Calls Try.prog 27 #[.agg (layArr wk cp pg st tr wt ck pr ca bi ba (startsV cp pg st ca bi)), .int .i64 k] W (Gives W (.int .i64 (tableV st + chunksV pg + 3 * pg + k)))) := fun k W h0 h1 => by
    have := xnext R W k
    rwa [show pageV pg st 3 k = tableV st + chunksV pg + 3 * pg + k by unfold pageV; rw [if_pos ⟨h0, h1⟩]] at this
  have HP4 : Hid (∀ k W, 0 ≤ k → k < pg → Calls Try.prog 29 #[.agg (layArr wk cp pg st tr wt ck pr ca bi ba (startsV cp pg st ca bi)), .int .i64 k] W (Gives W (.int .i64 (tableV st + chunksV pg + 4 * pg + k)))) := fun k W h0 h1 => by
    have := xprev R W k
    rwa [show pageV pg st 4 k = tableV st + chunksV pg + 4 * pg + k by unfold pageV; rw [if_pos ⟨h0, h1⟩]] at this
  have HH : Hid (∀ (q k : Nat) W, q ≤ 4 → (k : Int) < slotsV q → Calls Try.prog 19 #[.agg (layArr wk cp pg st tr wt ck pr ca bi ba (startsV cp pg st ca bi)), .int .i64 q, .int .i64 ((k : Int) + 1)] W (Gives W (.int .i64 (headsV st pg + aheadT q + k)))) := fun q k W h0 h1 => by
    have := xhead R W q ((k : Int) + 1)
    rwa [show headV pg st q ((k : Int) + 1) = headsV st pg + aheadT q + k by rw [aheadT_lo q h0]; unfold headV; rw [if_pos (by omega)]; omega] at this
  have HB : Hid (∀ (q : Nat) W, q ≤ 4 → Calls Try.prog 40 #[.agg (layArr wk cp pg st tr wt ck pr ca bi ba (startsV cp pg st ca bi)), .int .i64 q] W (Gives W (.int .i64 (binsV cp pg st ca + q * (bi + 1))))) := fun q W h0 => by
    have := xbin R W q
    rwa [show binV cp pg st ca bi q = binsV cp pg st ca + q * (bi + 1) from if_pos (by omega)] at this
  have HK : Hid (∀ (u : Int) (q : Nat) W, q ≤ 4 → 0 ≤ u → u < cp → Calls Try.prog 39 #[.agg (layArr wk cp pg st tr wt ck pr ca bi ba (startsV cp pg st ca bi)), .int .i64 u, .int .i64 q] W (Gives W (.int .i64 (cachesV st pg + (5 * u + q) * (ca + 1))))) := fun u q W h0 h1 h2 => by
    have := xcache R W u q
    rwa [show cacheV cp pg st ca u q = cachesV st pg + (5 * u + q) * (ca + 1) from if_pos (by omega)] at this
  have HV : Hid (∀ (k : Int) W, 0 ≤ k → k < 32 * pg → Calls Try.prog 41 #[.agg (layArr wk cp pg st tr wt ck pr ca bi ba (startsV cp pg st ca bi)), .int .i64 (userV cp pg st ca bi + k)] W (Gives W (.int .i64 (liveV cp pg st ca bi + k)))) := fun k W h0 h1 => by
    have := xlive R W (userV cp pg st ca bi + k)
    rwa [show liveAtV cp pg st ca bi (userV cp pg st ca bi + k) = liveV cp pg st ca bi + k by unfold liveAtV; rw [if_pos (by unfold wordsV; omega)]; omega] at this
  have HX := Lib.hid (row_new w (layArr wk cp pg st tr wt ck pr ca bi ba (startsV cp pg st ca bi)) 28)
  have HM : Hid (More w (w.alloc (.cells (layArr wk cp pg st tr wt ck pr ca bi ba (startsV cp pg st ca bi)) 28))) := (More.refl w).alloc _
  clear R
  go_enter Try.func46, Try.ntmps46
  go_wp2_with (first | refine wpList_load_row rfl 28 _ rfl _ rfl 28 _ _ _ (HX.out) Try.underlying28 rfl (by kernel_rfl) ?_ | refine wpList_load_rowG rfl 28 _ rfl _ rfl 28 _ _ _ (HX.out) Try.underlying28 rfl (by kernel_rfl) ?_)
  refine (HG.out _).mono ?_
  rintro e w1 ⟨rfl, h1⟩
  have hs1 := lt_of_heap (h1.block HX.out)
  have HN1 := Lib.hid (row_new w1 #[.int .i64 0, .int .i64 0, .int .i64 0, .int .i64 0, .int .i64 0, .int .i64 0, .int .i64 0, .int .i64 0, .int .i64 0, .int .i64 0, .int .i64 0] 23)
  have HLa : Hid (((w1.alloc (.cells #[.int .i64 0, .int .i64 0, .int .i64 0, .int .i64 0, .int .i64 0, .int .i64 0, .int .i64 0, .int .i64 0, .int .i64 0, .int .i64 0, .int .i64 0] 23)).setRow w1.heap.size #[.int .i64 wk, .int .i64 cp, .int .i64 pg, .int .i64 st, .int .i64 tr, .int .i64 wt, .int .i64 ck, .int .i64 pr, .int .i64 ca, .int .i64 bi, .int .i64 ba]).heap[w.heap.size]? = some (.cells (layArr wk cp pg st tr wt ck pr ca bi ba (startsV cp pg st ca bi)) 28 (0, 0))) := by
    rw [setRow_other _ _ _ _ (by omega)]; exact ((More.refl _).alloc _).block (h1.block HX.out)
  have HCa : Hid (((w1.alloc (.cells #[.int .i64 0, .int .i64 0, .int .i64 0, .int .i64 0, .int .i64 0, .int .i64 0, .int .i64 0, .int .i64 0, .int .i64 0, .int .i64 0, .int .i64 0] 23)).setRow w1.heap.size #[.int .i64 wk, .int .i64 cp, .int .i64 pg, .int .i64 st, .int .i64 tr, .int .i64 wt, .int .i64 ck, .int .i64 pr, .int .i64 ca, .int .i64 bi, .int .i64 ba]).heap[w1.heap.size]? = some (.cells #[.int .i64 wk, .int .i64 cp, .int .i64 pg, .int .i64 st, .int .i64 tr, .int .i64 wt, .int .i64 ck, .int .i64 pr, .int .i64 ca, .int .i64 bi, .int .i64 ba] 23 (0, 0))) := setRow_heap _ _ _ _ _ _ HN1.out
  have HMa : Hid (More w ((w1.alloc (.cells #[.int .i64 0, .int .i64 0, .int .i64 0, .int .i64 0, .int .i64 0, .int .i64 0, .int .i64 0, .int .i64 0, .int .i64 0, .int .i64 0, .int .i64 0] 23)).setRow w1.heap.size #[.int .i64 wk, .int .i64 cp, .int .i64 pg, .int .i64 st, .int .i64 tr, .int .i64 wt, .int .i64 ck, .int .i64 pr, .int .i64 ca, .int .i64 bi, .int .i64 ba])) := ((HM.out.trans h1).alloc _).setRow _ _ (by omega)
  clear h1 hs1 HX HM HG
  go_wp2_with (first | (refine wpList_store_row rfl 23 _ _ rfl _ _ rfl rfl 23 _ HN1.out (by kernel_rfl) rfl (by simp [Value.oneCell']) ?_))
  clear HN1
  generalize (w1.alloc (.cells #[.int .i64 0, .int .i64 0, .int .i64 0, .int .i64 0, .int .i64 0, .int .i64 0, .int .i64 0, .int .i64 0, .int .i64 0, .int .i64 0, .int .i64 0] 23)).setRow w1.heap.size #[.int .i64 wk, .int .i64 cp, .int .i64 pg, .int .i64 st, .int .i64 tr, .int .i64 wt, .int .i64 ck, .int .i64 pr, .int .i64 ca, .int .i64 bi, .int .i64 ba] = wa at *
  go_loopw [4, 5] (fun out i wr => ∃ k : Nat, (k : Int) ≤ st ∧ i = .int .i64 k ∧ Nm wa.heap.size (Ra (3 + k)) wr out ∧ More wa wr) (fun _ i _ => (st - intOf i).toNat)
  case atStart => exact ⟨0, by have := HF.out; omega, rfl, Nm.nil _ _ _, More.refl _⟩
  case round =>
    obtain ⟨k, hk, rfl, hn, hm⟩ := hrel
    have HN0 := Lib.hid hn
    have HM0 := Lib.hid hm
    have xs := cell_more HCa.out hm (show (#[.int .i64 wk, .int .i64 cp, .int .i64 pg, .int .i64 st, .int .i64 tr, .int .i64 wt, .int .i64 ck, .int .i64 pr, .int .i64 ca, .int .i64 bi, .int .i64 ba] : Array Value)[3]? = some (.int .i64 st) from rfl)
    clear hn hm
    have b1 : 1 ≤ st ∧ st ≤ 64 := by have := HF.out; omega
    obtain ⟨b1, b2⟩ := b1
    by_cases hlt : (k : Int) < st
    · have d0 : decide ((k : Int) < st) = true := by simpa using hlt
      have Hlo0 : Hid (∀ y, Ra (3 + k) y → 0 ≤ y ∧ y < 20000) := by intro y hy; have F := HF.out; unfold Ra at hy; omega
      have Hout0 := Lib.hid (show ¬ Ra (3 + k) (3 + (k : Int)) by have F := HF.out; unfold Ra; omega)
      have Hin0 := Lib.hid (show Ra (3 + (k + 1 : Nat)) (3 + (k : Int)) by have F := HF.out; unfold Ra; omega)
      have Hup0 : Hid (∀ y, Ra (3 + k) y → Ra (3 + (k + 1 : Nat)) y) := by intro y hy; have F := HF.out; unfold Ra at *; omega
      have q0 : IntKind.i64.wrap (3 + (k : Int)) = 3 + (k : Int) := wrap_in (by omega) (by omega)
      go_wp2_with (first | refine wpList_name1 (3 + (k : Int)) rfl _ _ rfl rfl HN0.out HM0.out Hlo0.out Hout0.out Hin0.out Hup0.out rfl ?_)
      clear q0
      intro v1 w2 hn hm
      have HN1 := Lib.hid hn
      have HM1 := Lib.hid hm
      clear hn hm
      go_wp2_with fail
      go_roundw
      case rel => exact ⟨k + 1, by omega, by go_num, HN1.out, HM1.out⟩
      case measure => simp [intOf]; omega
    · have d0 : decide ((k : Int) < st) = false := by simp; omega
      have he : (k : Int) = st := by omega
      go_wp2_with (first | refine wpList_load_row rfl 28 _ rfl _ rfl 28 _ _ _ (HM0.out.block HLa.out) Try.underlying28 rfl (by kernel_rfl) ?_ | refine wpList_load_rowG rfl 28 _ rfl _ rfl 28 _ _ _ (HM0.out.block HLa.out) Try.underlying28 rfl (by kernel_rfl) ?_)
      have HNb := Lib.hid (HN0.out.mono (R' := Ra (3 + st + (0 : Nat))) (fun y hy => by unfold Ra at *; omega))
      clear xs d0 he hlt hk HN0
      go_loopw [4, 6] (fun out i wr => ∃ k : Nat, (k : Int) ≤ chunksV pg ∧ i = .int .i64 k ∧ Nm wa.heap.size (Ra (3 + st + k)) wr out ∧ More wa wr) (fun _ i _ => (chunksV pg - intOf i).toNat)
      case atStart => exact ⟨0, by have := HF.out; omega, rfl, HNb.out, HM0.out⟩
      case round =>
        clear HNb HM0
        obtain ⟨k, hk, rfl, hn, hm⟩ := hrel
        have HN0 := Lib.hid hn
        have HM0 := Lib.hid hm
        clear hn hm
        have b3 : 1 ≤ chunksV pg ∧ chunksV pg ≤ 64 := by have := HF.out; omega
        obtain ⟨b3, b4⟩ := b3
        go_wp2_with (first | refine wpList_load_row rfl 28 _ rfl _ rfl 28 _ _ _ (HM0.out.block HLa.out) Try.underlying28 rfl (by kernel_rfl) ?_ | refine wpList_load_rowG rfl 28 _ rfl _ rfl 28 _ _ _ (HM0.out.block HLa.out) Try.underlying28 rfl (by kernel_rfl) ?_)
        refine (xchunks HQ.out _).mono ?_
        rintro e w3 ⟨rfl, h3⟩
        have HN1 := Lib.hid (HN0.out.more h3)
        have HM1 := Lib.hid (HM0.out.trans h3)
        clear h3 HN0 HM0
        by_cases hlt : (k : Int) < chunksV pg
        · have d0 : decide ((k : Int) < chunksV pg) = true := by simpa using hlt
          go_wp2_with (first | refine wpList_load_row rfl 28 _ rfl _ rfl 28 _ _ _ (HM1.out.block HLa.out) Try.underlying28 rfl (by kernel_rfl) ?_ | refine wpList_load_rowG rfl 28 _ rfl _ rfl 28 _ _ _ (HM1.out.block HLa.out) Try.underlying28 rfl (by kernel_rfl) ?_)
          refine (HT.out _ _ (by omega) hlt).mono ?_
          rintro e w4 ⟨rfl, h4⟩
          have HN2 := Lib.hid (HN1.out.more h4)
          have HM2 := Lib.hid (HM1.out.trans h4)
          clear h4 HN1 HM1
          have Hlo2 : Hid (∀ y, Ra (3 + st + k) y → 0 ≤ y ∧ y < 20000) := by intro y hy; have F := HF.out; unfold Ra at hy; omega
          have Hout2 := Lib.hid (show ¬ Ra (3 + st + k) (tableV st + (k : Int)) by have F := HF.out; unfold Ra; omega)
          have Hin2 := Lib.hid (show Ra (3 + st + (k + 1 : Nat)) (tableV st + (k : Int)) by have F := HF.out; unfold Ra; omega)
          have Hup2 : Hid (∀ y, Ra (3 + st + k) y → Ra (3 + st + (k + 1 : Nat)) y) := by intro y hy; have F := HF.out; unfold Ra at *; omega
          go_wp2_with (first | refine wpList_name1 (tableV st + (k : Int)) rfl _ _ rfl rfl HN2.out HM2.out Hlo2.out Hout2.out Hin2.out Hup2.out rfl ?_)
          intro v1 w2 hn hm
          have HN3 := Lib.hid hn
          have HM3 := Lib.hid hm
          clear hn hm
          go_wp2_with fail
          go_roundw
          case rel => exact ⟨k + 1, by omega, by go_num, HN3.out, HM3.out⟩
          case measure => simp [intOf]; omega
        · have d0 : decide ((k : Int) < chunksV pg) = false := by simp; omega
          have he : (k : Int) = chunksV pg := by omega
          have HN2 := Lib.hid (HN1.out.mono (R' := Rp (tableV st + chunksV pg) pg (0 : Nat)) (fun y hy => by have := HF.out; unfold Ra Rp at *; omega))
          clear he hlt hk HN1
          have xp := cell_more HCa.out HM1.out (show (#[.int .i64 wk, .int .i64 cp, .int .i64 pg, .int .i64 st, .int .i64 tr, .int .i64 wt, .int .i64 ck, .int .i64 pr, .int .i64 ca, .int .i64 bi, .int .i64 ba] : Array Value)[2]? = some (.int .i64 pg) from rfl)
          go_wp2_with fail
          go_loopw [4, 7] (fun out i wr => ∃ k : Nat, (k : Int) ≤ pg ∧ i = .int .i64 k ∧ Nm wa.heap.size (Rp (tableV st + chunksV pg) pg k) wr out ∧ More wa wr) (fun _ i _ => (pg - intOf i).toNat)
          case atStart => exact ⟨0, by have := HF.out; omega, rfl, HN2.out, HM1.out⟩
          case round =>
            clear HN2 HM1 xp d0
            obtain ⟨k, hk, rfl, hn, hm⟩ := hrel
            have HN0 := Lib.hid hn
            have HM0 := Lib.hid hm
            have xp := cell_more HCa.out hm (show (#[.int .i64 wk, .int .i64 cp, .int .i64 pg, .int .i64 st, .int .i64 tr, .int .i64 wt, .int .i64 ck, .int .i64 pr, .int .i64 ca, .int .i64 bi, .int .i64 ba] : Array Value)[2]? = some (.int .i64 pg) from rfl)
            clear hn hm
            have b5 : 1 ≤ pg ∧ pg ≤ 256 := by have := HF.out; omega
            obtain ⟨b5, b6⟩ := b5
            by_cases hlt : (k : Int) < pg
            · have d0 : decide ((k : Int) < pg) = true := by simpa using hlt
              go_wp2_with fail
              have hne : ∃ W, More wr W := ⟨wr, More.refl _⟩
              refine wp_region_more_tail1 (v := ?vv) 16 (by kernel_rfl) (by kernel_rfl) (fun _ _ _ h => h) (Or.inl ⟨rfl, ?hyy⟩) ?_
              case hyy => intro w; go_simp; try rfl
              simp only [Nat.reduceSub, List.take_succ_cons, List.take_zero, List.drop_succ_cons, List.drop_zero, Act.put, List.setIfInBounds_toArray, List.set_cons_zero, List.set_cons_succ]
              iterate 15
                first
                | (refine wpQuiet_load_row rfl 28 _ rfl _ rfl 28 _ _ _ (fun W hW => hW.block (HM0.out.block HLa.out)) Try.underlying28 rfl (by kernel_rfl) ?_)
                | (with_reducible refine wpQuiet_step (fun K hK => ?_)
                   go_simp
                   first
                   | (refine hK _ ?_; clear hK K)
                   | (apply Exists.intro
                      refine ⟨fun W hW => ?_, hK _ ?_⟩
                      first
                      | (go_at_call 21; exact Calls.more hW (HP0.out _ W (by omega) hlt))
                      | (go_at_call 23; exact Calls.more hW (HP1.out _ W (by omega) hlt))
                      | (go_at_call 25; exact Calls.more hW (HP2.out _ W (by omega) hlt))
                      | (go_at_call 27; exact Calls.more hW (HP3.out _ W (by omega) hlt))
                      | (go_at_call 29; exact Calls.more hW (HP4.out _ W (by omega) hlt))
                      | ((try go_simp); try rfl)
                      clear hK K))
              refine wpQuiet_nil ?_
              intro W hW
              have HN1 := Lib.hid (HN0.out.more hW)
              have HM1 := Lib.hid (HM0.out.trans hW)
              clear hW HN0 HM0
              have Hlo : Hid (∀ y, Rp (tableV st + chunksV pg) pg k y → 0 ≤ y ∧ y < 20000) := by intro y hy; have F := HF.out; unfold Rp at hy; omega
              have Hnd := Lib.hid (show ([tableV st + chunksV pg + k, tableV st + chunksV pg + pg + k, tableV st + chunksV pg + 2 * pg + k, tableV st + chunksV pg + 3 * pg + k, tableV st + chunksV pg + 4 * pg + k] : List Int).Nodup by have F := HF.out; simp; omega)
              have Hout : Hid (∀ y ∈ ([tableV st + chunksV pg + k, tableV st + chunksV pg + pg + k, tableV st + chunksV pg + 2 * pg + k, tableV st + chunksV pg + 3 * pg + k, tableV st + chunksV pg + 4 * pg + k] : List Int), ¬ Rp (tableV st + chunksV pg) pg k y) := by intro y hy; have F := HF.out; simp at hy; unfold Rp; omega
              have Hin : Hid (∀ y ∈ ([tableV st + chunksV pg + k, tableV st + chunksV pg + pg + k, tableV st + chunksV pg + 2 * pg + k, tableV st + chunksV pg + 3 * pg + k, tableV st + chunksV pg + 4 * pg + k] : List Int), Rp (tableV st + chunksV pg) pg (k + 1 : Nat) y) := by intro y hy; have F := HF.out; simp at hy; unfold Rp; omega
              have Hup : Hid (∀ y, Rp (tableV st + chunksV pg) pg k y → Rp (tableV st + chunksV pg) pg (k + 1 : Nat) y) := by intro y hy; have F := HF.out; unfold Rp at *; omega
              go_wp2_with (first | refine wpList_name rfl _ _ rfl rfl (HN1.out.more ((More.refl _).alloc _)) (HM1.out.alloc _) Hlo.out _ ([tableV st + chunksV pg + k, tableV st + chunksV pg + pg + k, tableV st + chunksV pg + 2 * pg + k, tableV st + chunksV pg + 3 * pg + k, tableV st + chunksV pg + 4 * pg + k] : List Int) 5 rfl (by omega) (by omega) rfl (row_new _ _ _) Hnd.out Hout.out Hin.out Hup.out ?_)
              intro v1 w2 hn hm
              have HN3 := Lib.hid hn
              have HM3 := Lib.hid hm
              clear hn hm
              go_wp2_with fail
              go_roundw
              case rel => exact ⟨k + 1, by omega, by go_num, HN3.out, HM3.out⟩
              case measure => simp [intOf]; omega
            · have d0 : decide ((k : Int) < pg) = false := by simp; omega
              have he : (k : Int) = pg := by omega
              have HNc := Lib.hid (HN0.out.mono (R' := Rq (headsV st pg + aheadT 0) (binsV cp pg st ca) (binsV cp pg st ca + (((0 : Nat) : Int) * (bi + 1))) cp ca (cachesV st pg) (((0 : Nat) : Int)) (0) (0)) (fun y hy => by have F := HF.out; have : aheadT 0 = 0 := rfl; unfold Rp at hy; exact .inl (by omega)))
              clear he hlt hk HN0
              go_wp2_with fail
              clear xp
              go_loopw [4, 8, 9, 10, 11, 12, 13] (fun out sl q _ _ _ _ wr => ∃ k : Nat, k ≤ 5 ∧ q = .int .i64 k ∧ sl = .int .i64 (slotsV k) ∧ Nm wa.heap.size (Rq (headsV st pg + aheadT k) (binsV cp pg st ca) (binsV cp pg st ca + ((k : Int) * (bi + 1))) cp ca (cachesV st pg) ((k : Int)) (0) (0)) wr out ∧ More wa wr) (fun _ _ q _ _ _ _ _ => 5 - (intOf q).toNat)
              case atStart => exact ⟨0, by omega, rfl, rfl, HNc.out, HM0.out⟩
              case round =>
                clear HNc HM0 d0
                obtain ⟨q, hk, rfl, rfl, hn, hm⟩ := hrel
                have HN0 := Lib.hid hn
                have HM0 := Lib.hid hm
                clear hn hm
                by_cases hlt : q < 5
                · have d0 : decide ((q : Int) < 5) = true := by simp; omega
                  have HA := Lib.hid (And.intro (aheadT_step q (by omega)) (aheadT_top (q + 1) (by omega)))
                  have sl := slots_lo q (by omega) (by omega)
                  obtain ⟨sl1, sl2⟩ := sl
                  have Hs : Hid (IntKind.i64.wrap ((slotsV q).tdiv 2) = slotsV ((q + 1 : Nat) : Int)) := by
                    show IntKind.i64.wrap ((slotsV q).tdiv 2) = slotsV ((q + 1 : Nat) : Int)
                    have h1 := (slots_step q (by omega) (by omega)).1
                    rw [Int.tdiv_eq_ediv_of_nonneg (by omega), wrap_in (by omega) (by omega), h1]; rfl
                  have HG : Hid (0 ≤ (q : Int) * (bi + 1) ∧ (q : Int) * (bi + 1) + (bi + 1) ≤ 5 * (bi + 1) ∧ ((q + 1 : Nat) : Int) * (bi + 1) = (q : Int) * (bi + 1) + (bi + 1)) := by
                    show 0 ≤ (q : Int) * (bi + 1) ∧ (q : Int) * (bi + 1) + (bi + 1) ≤ 5 * (bi + 1) ∧ ((q + 1 : Nat) : Int) * (bi + 1) = (q : Int) * (bi + 1) + (bi + 1)
                    have F := HF.out
                    have h1 : 0 ≤ (q : Int) * (bi + 1) := Int.mul_nonneg (by omega) (by omega)
                    have h2 : ((q + 1 : Nat) : Int) * (bi + 1) = (q : Int) * (bi + 1) + (bi + 1) := by rw [show ((q + 1 : Nat) : Int) = (q : Int) + 1 from rfl, Int.add_mul, Int.one_mul]
                    have h3 : ((q + 1 : Nat) : Int) * (bi + 1) ≤ 5 * (bi + 1) := Int.mul_le_mul_of_nonneg_right (by omega) (by omega)
                    exact ⟨h1, by omega, h2⟩
                  have Hca : Hid (0 ≤ ca) := show 0 ≤ ca by have F := HF.out; omega
                  have HN5 := Lib.hid (HN0.out.mono (R' := Rq (headsV st pg + aheadT q + ((0 : Nat) : Int)) (binsV cp pg st ca) (binsV cp pg st ca + ((q : Int) * (bi + 1))) cp ca (cachesV st pg) ((q : Int)) (0) (0)) (fun y hy => by rw [show headsV st pg + aheadT q + ((0 : Nat) : Int) = headsV st pg + aheadT q by omega]; exact hy))
                  clear HN0
                  go_wp2_with fail
                  go_loopw [4, 10] (fun out f wr => ∃ j : Nat, (j : Int) ≤ slotsV q ∧ f = .int .i64 ((j : Int) + 1) ∧ Nm wa.heap.size (Rq (headsV st pg + aheadT q + (j : Int)) (binsV cp pg st ca) (binsV cp pg st ca + ((q : Int) * (bi + 1))) cp ca (cachesV st pg) ((q : Int)) (0) (0)) wr out ∧ More wa wr) (fun _ f _ => (slotsV q + 1 - intOf f).toNat)
                  case atStart => exact ⟨0, by omega, rfl, HN5.out, HM0.out⟩
                  case round =>
                    clear HN5 HM0
                    obtain ⟨j, hj, rfl, hn, hm⟩ := hrel
                    have HN0 := Lib.hid hn
                    have HM0 := Lib.hid hm
                    clear hn hm
                    by_cases hjt : (j : Int) < slotsV q
                    · have d1 : decide ((j : Int) + 1 ≤ slotsV q) = true := by simp; omega
                      go_wp2_with (first | refine wpList_load_row rfl 28 _ rfl _ rfl 28 _ _ _ (HM0.out.block HLa.out) Try.underlying28 rfl (by kernel_rfl) ?_ | refine wpList_load_rowG rfl 28 _ rfl _ rfl 28 _ _ _ (HM0.out.block HLa.out) Try.underlying28 rfl (by kernel_rfl) ?_)
                      refine (HH.out q j _ (by omega) hjt).mono ?_
                      rintro e w4 ⟨rfl, h4⟩
                      have HN1 := Lib.hid (HN0.out.more h4)
                      have HM1 := Lib.hid (HM0.out.trans h4)
                      clear h4 HN0 HM0
                      have Hlo1 : Hid (∀ y, Rq (headsV st pg + aheadT q + (j : Int)) (binsV cp pg st ca) (binsV cp pg st ca + ((q : Int) * (bi + 1))) cp ca (cachesV st pg) ((q : Int)) (0) (0) y → 0 ≤ y ∧ y < 20000) := by intro y hy; have F := HF.out; have G := HG.out; have A := HA.out; unfold Rq at hy; rcases hy with h | h | h; omega; omega; have := rc_range Hca.out h; omega
                      have Hout1 := Lib.hid (show ¬ Rq (headsV st pg + aheadT q + (j : Int)) (binsV cp pg st ca) (binsV cp pg st ca + ((q : Int) * (bi + 1))) cp ca (cachesV st pg) ((q : Int)) (0) (0) (headsV st pg + aheadT q + (j : Int)) by have F := HF.out; have G := HG.out; have A := HA.out; unfold Rq; rintro (h | h | h); omega; omega; have := rc_range Hca.out h; omega)
                      have Hin1 := Lib.hid (show Rq (headsV st pg + aheadT q + ((j + 1 : Nat) : Int)) (binsV cp pg st ca) (binsV cp pg st ca + ((q : Int) * (bi + 1))) cp ca (cachesV st pg) ((q : Int)) (0) (0) (headsV st pg + aheadT q + (j : Int)) by have F := HF.out; have G := HG.out; have A := HA.out; exact .inl (by omega))
                      have Hup1 : Hid (∀ y, Rq (headsV st pg + aheadT q + (j : Int)) (binsV cp pg st ca) (binsV cp pg st ca + ((q : Int) * (bi + 1))) cp ca (cachesV st pg) ((q : Int)) (0) (0) y → Rq (headsV st pg + aheadT q + ((j + 1 : Nat) : Int)) (binsV cp pg st ca) (binsV cp pg st ca + ((q : Int) * (bi + 1))) cp ca (cachesV st pg) ((q : Int)) (0) (0) y) := by intro y hy; have F := HF.out; have G := HG.out; have A := HA.out; unfold Rq at *; rcases hy with h | h | h; exact .inl (by omega); exact .inr (.inl (by omega)); exact .inr (.inr h)
                      go_wp2_with (first | refine wpList_name1 (headsV st pg + aheadT q + (j : Int)) rfl _ _ rfl rfl HN1.out HM1.out Hlo1.out Hout1.out Hin1.out Hup1.out rfl ?_)
                      intro v1 w2 hn hm
                      have HN3 := Lib.hid hn
                      have HM3 := Lib.hid hm
                      clear hn hm
                      go_wp2_with fail
                      go_roundw
                      case rel => exact ⟨j + 1, by omega, by go_num, HN3.out, HM3.out⟩
                      case measure => simp [intOf]; omega
                    · have d1 : decide ((j : Int) + 1 ≤ slotsV q) = false := by simp; omega
                      have HN6 := Lib.hid (HN0.out.mono (R' := Rq (headsV st pg + aheadT (q + 1)) (binsV cp pg st ca) (binsV cp pg st ca + ((q : Int) * (bi + 1) + ((0 : Nat) : Int))) cp ca (cachesV st pg) ((q : Int)) (0) (0)) (fun y hy => by
                        have A := HA.out
                        unfold Rq at *
                        rcases hy with h | h | h
                        · exact .inl (by omega)
                        · exact .inr (.inl (by omega))
                        · exact .inr (.inr h)))
                      clear HN0 hjt hj
                      go_wp2_with fail
                      go_loopw [4, 11] (fun out f wr => ∃ j : Nat, (j : Int) ≤ bi + 1 ∧ f = .int .i64 j ∧ Nm wa.heap.size (Rq (headsV st pg + aheadT (q + 1)) (binsV cp pg st ca) (binsV cp pg st ca + ((q : Int) * (bi + 1) + (j : Int))) cp ca (cachesV st pg) ((q : Int)) (0) (0)) wr out ∧ More wa wr) (fun _ f _ => (bi + 1 - intOf f).toNat)
                      case atStart => exact ⟨0, by have := HF.out; omega, rfl, HN6.out, HM0.out⟩
                      case round =>
                        clear HN6 HM0 d1
                        obtain ⟨j, hj, rfl, hn, hm⟩ := hrel
                        have HN0 := Lib.hid hn
                        have HM0 := Lib.hid hm
                        have xb := cell_more HCa.out hm (show (#[.int .i64 wk, .int .i64 cp, .int .i64 pg, .int .i64 st, .int .i64 tr, .int .i64 wt, .int .i64 ck, .int .i64 pr, .int .i64 ca, .int .i64 bi, .int .i64 ba] : Array Value)[9]? = some (.int .i64 bi) from rfl)
                        clear hn hm
                        have bb : 0 ≤ bi ∧ bi ≤ 16 := by have := HF.out; omega
                        obtain ⟨bb1, bb2⟩ := bb
                        by_cases hjt : (j : Int) ≤ bi
                        · have d1 : decide ((j : Int) ≤ bi) = true := by simpa using hjt
                          go_wp2_with (first | refine wpList_load_row rfl 28 _ rfl _ rfl 28 _ _ _ (HM0.out.block HLa.out) Try.underlying28 rfl (by kernel_rfl) ?_ | refine wpList_load_rowG rfl 28 _ rfl _ rfl 28 _ _ _ (HM0.out.block HLa.out) Try.underlying28 rfl (by kernel_rfl) ?_)
                          refine (HB.out q _ (by omega)).mono ?_
                          rintro e w4 ⟨rfl, h4⟩
                          have HN1 := Lib.hid (HN0.out.more h4)
                          have HM1 := Lib.hid (HM0.out.trans h4)
                          clear h4 HN0 HM0
                          have Hlo1 : Hid (∀ y, Rq (headsV st pg + aheadT (q + 1)) (binsV cp pg st ca) (binsV cp pg st ca + ((q : Int) * (bi + 1) + (j : Int))) cp ca (cachesV st pg) ((q : Int)) (0) (0) y → 0 ≤ y ∧ y < 20000) := by intro y hy; have F := HF.out; have G := HG.out; have A := HA.out; unfold Rq at hy; rcases hy with h | h | h; omega; omega; have := rc_range Hca.out h; omega
                          have Hout1 := Lib.hid (show ¬ Rq (headsV st pg + aheadT (q + 1)) (binsV cp pg st ca) (binsV cp pg st ca + ((q : Int) * (bi + 1) + (j : Int))) cp ca (cachesV st pg) ((q : Int)) (0) (0) (binsV cp pg st ca + (q : Int) * (bi + 1) + (j : Int)) by have F := HF.out; have G := HG.out; have A := HA.out; unfold Rq; rintro (h | h | h); omega; omega; have := rc_range Hca.out h; omega)
                          have Hin1 := Lib.hid (show Rq (headsV st pg + aheadT (q + 1)) (binsV cp pg st ca) (binsV cp pg st ca + ((q : Int) * (bi + 1) + ((j + 1 : Nat) : Int))) cp ca (cachesV st pg) ((q : Int)) (0) (0) (binsV cp pg st ca + (q : Int) * (bi + 1) + (j : Int)) by have F := HF.out; have G := HG.out; have A := HA.out; exact .inr (.inl (by omega)))
                          have Hup1 : Hid (∀ y, Rq (headsV st pg + aheadT (q + 1)) (binsV cp pg st ca) (binsV cp pg st ca + ((q : Int) * (bi + 1) + (j : Int))) cp ca (cachesV st pg) ((q : Int)) (0) (0) y → Rq (headsV st pg + aheadT (q + 1)) (binsV cp pg st ca) (binsV cp pg st ca + ((q : Int) * (bi + 1) + ((j + 1 : Nat) : Int))) cp ca (cachesV st pg) ((q : Int)) (0) (0) y) := by intro y hy; have F := HF.out; have G := HG.out; have A := HA.out; unfold Rq at *; rcases hy with h | h | h; exact .inl (by omega); exact .inr (.inl (by omega)); exact .inr (.inr h)
                          have q0 : IntKind.i64.wrap (binsV cp pg st ca + (q : Int) * (bi + 1) + (j : Int)) = binsV cp pg st ca + (q : Int) * (bi + 1) + (j : Int) := by have F := HF.out; have G := HG.out; exact wrap_in (by omega) (by omega)
                          go_wp2_with (first | refine wpList_name1 (binsV cp pg st ca + (q : Int) * (bi + 1) + (j : Int)) rfl _ _ rfl rfl HN1.out HM1.out Hlo1.out Hout1.out Hin1.out Hup1.out rfl ?_)
                          clear q0
                          intro v1 w2 hn hm
                          have HN3 := Lib.hid hn
                          have HM3 := Lib.hid hm
                          clear hn hm
                          go_wp2_with fail
                          go_roundw
                          case rel => exact ⟨j + 1, by omega, by go_num, HN3.out, HM3.out⟩
                          case measure => simp [intOf]; omega
                        · have d1 : decide ((j : Int) ≤ bi) = false := by simp; omega
                          have HN7 := Lib.hid (HN0.out.mono (R' := Rq (headsV st pg + aheadT (q + 1)) (binsV cp pg st ca) (binsV cp pg st ca + (((q + 1 : Nat) : Int) * (bi + 1))) cp ca (cachesV st pg) ((q : Int)) (((0 : Nat) : Int)) (0)) (fun y hy => by
                            have G := HG.out
                            unfold Rq at *
                            rcases hy with h | h | h
                            · exact .inl (by omega)
                            · exact .inr (.inl (by omega))
                            · exact .inr (.inr h)))
                          clear HN0 hjt hj
                          go_wp2_with fail
                          clear xb d1
                          go_loopw [4, 12, 13] (fun out f _ wr => ∃ j : Nat, (j : Int) ≤ cp ∧ f = .int .i64 j ∧ Nm wa.heap.size (Rq (headsV st pg + aheadT (q + 1)) (binsV cp pg st ca) (binsV cp pg st ca + (((q + 1 : Nat) : Int) * (bi + 1))) cp ca (cachesV st pg) ((q : Int)) ((j : Int)) (0)) wr out ∧ More wa wr) (fun _ f _ _ => (cp - intOf f).toNat)
                          case atStart => exact ⟨0, by have := HF.out; omega, rfl, HN7.out, HM0.out⟩
                          case round =>
                            clear HN7 HM0 bb1 bb2
                            obtain ⟨u, hu, rfl, hn, hm⟩ := hrel
                            have HN0 := Lib.hid hn
                            have HM0 := Lib.hid hm
                            have xu := cell_more HCa.out hm (show (#[.int .i64 wk, .int .i64 cp, .int .i64 pg, .int .i64 st, .int .i64 tr, .int .i64 wt, .int .i64 ck, .int .i64 pr, .int .i64 ca, .int .i64 bi, .int .i64 ba] : Array Value)[1]? = some (.int .i64 cp) from rfl)
                            clear hn hm
                            have bb : 1 ≤ cp ∧ cp ≤ 8 ∧ 0 ≤ ca ∧ ca ≤ 8 := by have := HF.out; omega
                            obtain ⟨bb1, bb2, bb3, bb4⟩ := bb
                            by_cases hut : (u : Int) < cp
                            · have d1 : decide ((u : Int) < cp) = true := by simpa using hut
                              go_wp2_with fail
                              have HN8 := Lib.hid (HN0.out.mono (R' := Rq (headsV st pg + aheadT (q + 1)) (binsV cp pg st ca) (binsV cp pg st ca + (((q + 1 : Nat) : Int) * (bi + 1))) cp ca (cachesV st pg) ((q : Int)) ((u : Int)) (((0 : Nat) : Int))) (fun y hy => hy))
                              clear HN0 xu
                              go_loopw [4, 13] (fun out f wr => ∃ j : Nat, (j : Int) ≤ ca + 1 ∧ f = .int .i64 j ∧ Nm wa.heap.size (Rq (headsV st pg + aheadT (q + 1)) (binsV cp pg st ca) (binsV cp pg st ca + (((q + 1 : Nat) : Int) * (bi + 1))) cp ca (cachesV st pg) ((q : Int)) ((u : Int)) ((j : Int))) wr out ∧ More wa wr) (fun _ f _ => (ca + 1 - intOf f).toNat)
                              case atStart => exact ⟨0, by omega, rfl, HN8.out, HM0.out⟩
                              case round =>
                                clear HN8 HM0 d1
                                obtain ⟨j, hj, rfl, hn, hm⟩ := hrel
                                have HN0 := Lib.hid hn
                                have HM0 := Lib.hid hm
                                have xc := cell_more HCa.out hm (show (#[.int .i64 wk, .int .i64 cp, .int .i64 pg, .int .i64 st, .int .i64 tr, .int .i64 wt, .int .i64 ck, .int .i64 pr, .int .i64 ca, .int .i64 bi, .int .i64 ba] : Array Value)[8]? = some (.int .i64 ca) from rfl)
                                clear hn hm
                                by_cases hjt : (j : Int) ≤ ca
                                · have d1 : decide ((j : Int) ≤ ca) = true := by simpa using hjt
                                  go_wp2_with (first | refine wpList_load_row rfl 28 _ rfl _ rfl 28 _ _ _ (HM0.out.block HLa.out) Try.underlying28 rfl (by kernel_rfl) ?_ | refine wpList_load_rowG rfl 28 _ rfl _ rfl 28 _ _ _ (HM0.out.block HLa.out) Try.underlying28 rfl (by kernel_rfl) ?_)
                                  refine (HK.out u q _ (by omega) (by omega) hut).mono ?_
                                  rintro e w4 ⟨rfl, h4⟩
                                  have HN1 := Lib.hid (HN0.out.more h4)
                                  have HM1 := Lib.hid (HM0.out.trans h4)
                                  clear h4 HN0 HM0
                                  have hit : Rc cp ca (cachesV st pg) q u ((j : Int) + 1) (cachesV st pg + (5 * (u : Int) + q) * (ca + 1) + j) := rc_it (by omega) (by omega) (by omega) (by omega) hjt (by omega) hut
                                  have HI := Lib.hid hit
                                  have HE := Lib.hid (rc_range (by omega) hit)
                                  clear hit
                                  have Hlo1 : Hid (∀ y, Rq (headsV st pg + aheadT (q + 1)) (binsV cp pg st ca) (binsV cp pg st ca + (((q + 1 : Nat) : Int) * (bi + 1))) cp ca (cachesV st pg) ((q : Int)) ((u : Int)) ((j : Int)) y → 0 ≤ y ∧ y < 20000) := by intro y hy; have F := HF.out; have G := HG.out; have A := HA.out; have E := HE.out; unfold Rq at hy; rcases hy with h | h | h; omega; omega; have := rc_range Hca.out h; omega
                                  have Hout1 := Lib.hid (show ¬ Rq (headsV st pg + aheadT (q + 1)) (binsV cp pg st ca) (binsV cp pg st ca + (((q + 1 : Nat) : Int) * (bi + 1))) cp ca (cachesV st pg) ((q : Int)) ((u : Int)) ((j : Int)) (cachesV st pg + (5 * (u : Int) + (q : Int)) * (ca + 1) + (j : Int)) by have F := HF.out; have G := HG.out; have A := HA.out; have E := HE.out; unfold Rq; rintro (h | h | h); omega; omega; exact rc_new (by omega) (by omega) (by omega) (by omega) hjt h)
                                  have Hin1 := Lib.hid (show Rq (headsV st pg + aheadT (q + 1)) (binsV cp pg st ca) (binsV cp pg st ca + (((q + 1 : Nat) : Int) * (bi + 1))) cp ca (cachesV st pg) ((q : Int)) ((u : Int)) (((j + 1 : Nat) : Int)) (cachesV st pg + (5 * (u : Int) + (q : Int)) * (ca + 1) + (j : Int)) by have F := HF.out; have G := HG.out; have A := HA.out; have E := HE.out; exact .inr (.inr HI.out))
                                  have Hup1 : Hid (∀ y, Rq (headsV st pg + aheadT (q + 1)) (binsV cp pg st ca) (binsV cp pg st ca + (((q + 1 : Nat) : Int) * (bi + 1))) cp ca (cachesV st pg) ((q : Int)) ((u : Int)) ((j : Int)) y → Rq (headsV st pg + aheadT (q + 1)) (binsV cp pg st ca) (binsV cp pg st ca + (((q + 1 : Nat) : Int) * (bi + 1))) cp ca (cachesV st pg) ((q : Int)) ((u : Int)) (((j + 1 : Nat) : Int)) y) := by intro y hy; have F := HF.out; have G := HG.out; have A := HA.out; have E := HE.out; unfold Rq at *; rcases hy with h | h | h; exact .inl h; exact .inr (.inl h); exact .inr (.inr (rc_more h))
                                  have q0 : IntKind.i64.wrap (cachesV st pg + (5 * (u : Int) + (q : Int)) * (ca + 1) + (j : Int)) = cachesV st pg + (5 * (u : Int) + (q : Int)) * (ca + 1) + (j : Int) := by have F := HF.out; have E := HE.out; exact wrap_in (by omega) (by omega)
                                  go_wp2_with (first | refine wpList_name1 (cachesV st pg + (5 * (u : Int) + (q : Int)) * (ca + 1) + (j : Int)) rfl _ _ rfl rfl HN1.out HM1.out Hlo1.out Hout1.out Hin1.out Hup1.out rfl ?_)
                                  clear q0
                                  intro v1 w2 hn hm
                                  have HN3 := Lib.hid hn
                                  have HM3 := Lib.hid hm
                                  clear hn hm
                                  go_wp2_with fail
                                  go_roundw
                                  case rel => exact ⟨j + 1, by omega, by go_num, HN3.out, HM3.out⟩
                                  case measure => simp [intOf]; omega
                                · have d1 : decide ((j : Int) ≤ ca) = false := by simp; omega
                                  have he : (j : Int) = ca + 1 := by omega
                                  have HN9 := Lib.hid (HN0.out.mono (R' := Rq (headsV st pg + aheadT (q + 1)) (binsV cp pg st ca) (binsV cp pg st ca + (((q + 1 : Nat) : Int) * (bi + 1))) cp ca (cachesV st pg) ((q : Int)) (((u + 1 : Nat) : Int)) (0)) (fun y hy => by
                                    unfold Rq at *
                                    rw [he] at hy
                                    rcases hy with h | h | h
                                    · exact .inl h
                                    · exact .inr (.inl h)
                                    · exact .inr (.inr (rc_cpu h))))
                                  clear HN0 he
                                  go_wp2_with fail
                                  go_roundw
                                  case rel => exact ⟨u + 1, by omega, by go_num, HN9.out, HM0.out⟩
                                  case measure => simp [intOf]; omega
                            · have d1 : decide ((u : Int) < cp) = false := by simp; omega
                              have he : (u : Int) = cp := by omega
                              have HN9 := Lib.hid (HN0.out.mono (R' := Rq (headsV st pg + aheadT (q + 1)) (binsV cp pg st ca) (binsV cp pg st ca + (((q + 1 : Nat) : Int) * (bi + 1))) cp ca (cachesV st pg) (((q + 1 : Nat) : Int)) (0) (0)) (fun y hy => by
                                unfold Rq at *
                                rw [he] at hy
                                rcases hy with h | h | h
                                · exact .inl h
                                · exact .inr (.inl h)
                                · exact .inr (.inr (rc_class h))))
                              clear HN0 he
                              have qs := Hs.out
                              go_wp2_with fail
                              clear qs
                              go_roundw
                              case rel => exact ⟨q + 1, by omega, by go_num, by rfl, HN9.out, HM0.out⟩
                              case measure => simp [intOf]; omega
                · have d0 : decide ((q : Int) < 5) = false := by simp; omega
                  have he : q = 5 := by omega
                  subst he
                  have HNd := Lib.hid (HN0.out.mono (R' := Ru (liveV cp pg st ca bi) (userV cp pg st ca bi) ((0 : Nat) : Int)) (fun y hy => by
                    have F := HF.out
                    have : aheadT 5 = 62 := rfl
                    unfold Rq at hy
                    rcases hy with h | h | h
                    · exact .inl (by omega)
                    · exact .inl (by omega)
                    · have := rc_range (by omega) h
                      exact .inl (by omega)))
                  clear HN0
                  go_wp2_with (first | refine wpList_load_row rfl 28 _ rfl _ rfl 28 _ _ _ (HM0.out.block HLa.out) Try.underlying28 rfl (by kernel_rfl) ?_ | refine wpList_load_rowG rfl 28 _ rfl _ rfl 28 _ _ _ (HM0.out.block HLa.out) Try.underlying28 rfl (by kernel_rfl) ?_)
                  refine (xuser HQ.out _).mono ?_
                  rintro e w5 ⟨rfl, h5⟩
                  have HNe := Lib.hid (HNd.out.more h5)
                  have HMe := Lib.hid (HM0.out.trans h5)
                  clear h5 HNd HM0 hlt hk d0
                  go_wp2_with fail
                  go_loopw [4, 14] (fun out f wr => ∃ k : Nat, (k : Int) ≤ 32 * pg ∧ f = .int .i64 (userV cp pg st ca bi + k) ∧ Nm wa.heap.size (Ru (liveV cp pg st ca bi) (userV cp pg st ca bi) k) wr out ∧ More wa wr) (fun _ f _ => (wordsV cp pg st ca bi - intOf f).toNat)
                  case atStart => exact ⟨0, by have := HF.out; omega, by rw [show userV cp pg st ca bi + ((0 : Nat) : Int) = userV cp pg st ca bi by omega], HNe.out, HMe.out⟩
                  case round =>
                    clear HNe HMe
                    obtain ⟨k, hk, rfl, hn, hm⟩ := hrel
                    have HN0 := Lib.hid hn
                    have HM0 := Lib.hid hm
                    clear hn hm
                    have bu : 128 ≤ userV cp pg st ca bi ∧ userV cp pg st ca bi ≤ 10240 := by have := userB HQ.out; omega
                    obtain ⟨bu1, bu2⟩ := bu
                    go_wp2_with (first | refine wpList_load_row rfl 28 _ rfl _ rfl 28 _ _ _ (HM0.out.block HLa.out) Try.underlying28 rfl (by kernel_rfl) ?_ | refine wpList_load_rowG rfl 28 _ rfl _ rfl 28 _ _ _ (HM0.out.block HLa.out) Try.underlying28 rfl (by kernel_rfl) ?_)
                    refine (xwords HQ.out _).mono ?_
                    rintro e w4 ⟨rfl, h4⟩
                    have HN1 := Lib.hid (HN0.out.more h4)
                    have HM1 := Lib.hid (HM0.out.trans h4)
                    clear h4 HN0 HM0
                    by_cases hlt : (k : Int) < 32 * pg
                    · have d0 : decide (userV cp pg st ca bi + (k : Int) < wordsV cp pg st ca bi) = true := by have F := HF.out; simp; omega
                      have bp : 1 ≤ pg ∧ pg ≤ 256 := by have := HF.out; omega
                      obtain ⟨bp1, bp2⟩ := bp
                      go_wp2_with (first | refine wpList_load_row rfl 28 _ rfl _ rfl 28 _ _ _ (HM1.out.block HLa.out) Try.underlying28 rfl (by kernel_rfl) ?_ | refine wpList_load_rowG rfl 28 _ rfl _ rfl 28 _ _ _ (HM1.out.block HLa.out) Try.underlying28 rfl (by kernel_rfl) ?_)
                      refine (HV.out _ _ (by omega) hlt).mono ?_
                      rintro e w6 ⟨rfl, h6⟩
                      have HN2 := Lib.hid (HN1.out.more h6)
                      have HM2 := Lib.hid (HM1.out.trans h6)
                      clear h6 HN1 HM1
                      have Hlo : Hid (∀ y, Ru (liveV cp pg st ca bi) (userV cp pg st ca bi) k y → 0 ≤ y ∧ y < 20000) := by intro y hy; have F := HF.out; unfold Ru at hy; omega
                      have Hnd := Lib.hid (show ([userV cp pg st ca bi + k, liveV cp pg st ca bi + k] : List Int).Nodup by have F := HF.out; simp; omega)
                      have Hout : Hid (∀ y ∈ ([userV cp pg st ca bi + k, liveV cp pg st ca bi + k] : List Int), ¬ Ru (liveV cp pg st ca bi) (userV cp pg st ca bi) k y) := by intro y hy; have F := HF.out; have B := liveB HQ.out; simp at hy; unfold Ru; omega
                      have Hin : Hid (∀ y ∈ ([userV cp pg st ca bi + k, liveV cp pg st ca bi + k] : List Int), Ru (liveV cp pg st ca bi) (userV cp pg st ca bi) (k + 1 : Nat) y) := by intro y hy; have F := HF.out; have B := liveB HQ.out; simp at hy; unfold Ru; omega
                      have Hup : Hid (∀ y, Ru (liveV cp pg st ca bi) (userV cp pg st ca bi) k y → Ru (liveV cp pg st ca bi) (userV cp pg st ca bi) (k + 1 : Nat) y) := by intro y hy; have F := HF.out; unfold Ru at *; omega
                      go_wp2_with (first | refine wpList_name rfl _ _ rfl rfl (HN2.out.more ((More.refl _).alloc _)) (HM2.out.alloc _) Hlo.out _ ([userV cp pg st ca bi + k, liveV cp pg st ca bi + k] : List Int) 2 rfl (by omega) (by omega) rfl (row_new _ _ _) Hnd.out Hout.out Hin.out Hup.out ?_)
                      intro v1 w2 hn hm
                      have HN3 := Lib.hid hn
                      have HM3 := Lib.hid hm
                      clear hn hm
                      have qk : IntKind.i64.wrap (userV cp pg st ca bi + (k : Int) + 1) = userV cp pg st ca bi + ((k + 1 : Nat) : Int) := by rw [wrap_in (by omega) (by omega)]; omega
                      go_wp2_with fail
                      clear qk
                      go_roundw
                      case rel => exact ⟨k + 1, by omega, by rfl, HN3.out, HM3.out⟩
                      case measure => have F := HF.out; simp [intOf]; omega
                    · have d0 : decide (userV cp pg st ca bi + (k : Int) < wordsV cp pg st ca bi) = false := by have F := HF.out; simp; omega
                      have he : (k : Int) = 32 * pg := by omega
                      rw [he] at HN1
                      clear he
                      go_wp2_with fail
                      go_ret
                      exact ⟨_, wa, rfl, HMa.out.size, HMa.out, HM1.out, HN1.out⟩

end Go.Proofs.Ytollofgcijlofaa
