/-
  The landed package view: Do, over any program under contract.
-/
import Derived.Test.YtflihdcliknggaaViewDo
namespace Go.Proofs.Ytflihdcliknggaa
open Go.RowKit Go.Sort Go.Maps Go.Shelf
set_option linter.unusedVariables false
set_option linter.unusedSimpArgs false

/-- What Do answers. -/
def DidDo (w : World) (R : Option (List Int × List KV)) (e : Ending) (w' : World) : Prop :=
  match R with
  | none => e = .returned (.tuple #[.slice none 0 0, .slice none 0 0, .int .i64 3]) ∧ More w w'
  | some (ws, K) => ∃ v1 v2, e = .returned (.tuple #[v1, v2, .int .i64 0]) ∧ Rw w.heap.size w' v1 ws ∧ PRw w.heap.size w' v2 K ∧ More w w'
/-- How long a slice is. -/
def lenOf : Value → Nat
  | .slice _ n _ => n
  | _ => 0

/-- On the way: what is known, in the map and in the row. -/
structure DoOn (w wb wr : World) (M : Nat) (zs : List Int) (sem : List KV → Ran) (R : Option (List Int × List KV)) (K : List KV) (v : Value) : Prop where
  okn : OkKn zs K
  res : doP sem zs (zs.length + 1 - K.length) K = R
  row : PRw wb.heap.size wr v K
  known : KnownAt wr M K.length (look K)
  turn : Turned (fun k => k = M) wb wr
theorem KnownAt.of_block {w w' : World} {M n : Nat} {kn : Int → Option Int} (h : KnownAt w M n kn) (e : ∀ ob, w.heap[M]? = some ob → w'.heap[M]? = some ob) : KnownAt w' M n kn := by
  obtain ⟨D, ⟨es, clock, hb, F⟩, hk⟩ := h
  exact ⟨D, ⟨es, clock, e _ hb, F⟩, hk⟩

theorem do_fin {w wb wr w2 w3 : World} {M : Nat} {zs : List Int} {sem : List KV → Ran} {R : Option (List Int × List KV)} {K D : List KV} {a' an : Option Addr} {cap' cn : Nat} {e : Ending} (h : DoOn w wb wr M zs sem R K (.slice an K.length cn)) (hs : sem K = .done D) (mb : More w wb) (hM : w.heap.size ≤ M)
    (hl : ∀ k, owned a' k → w.heap.size ≤ k ∧ k < wb.heap.size) (m2 : More wr w2) (hf : Finished w2 zs D a' cap' (.slice an K.length cn) e w3) : DidDo w R e w3 := by
  have hR := doP_done h.okn hs h.res
  have t3 : More w w3 := by
    have t1 : More w wr := Turned.mono (turned_own (F := fun _ => False) mb h.turn (fun k q => .inr (by omega))) (fun _ _ q => q)
    exact turned_own (F := fun _ => False) (t1.trans m2) hf.1 (fun k q => .inr (hl k q).1)
  rcases hf.2 with ⟨h1, h2, h3⟩ | ⟨h1, h2⟩
  · rw [hR, if_pos h1]
    have hlen : (applyD zs D).length = zs.length := applyD_len D zs
    refine ⟨_, _, h2, ?_, ?_, t3⟩
    · have := h3.own (base := w.heap.size) (fun k q => (hl k q).1)
      unfold Rw
      rw [List.length_map, hlen] at this
      rw [hlen]; exact this
    · exact ((h.row.more m2).keep hf.1 (fun k hk q => by have := (hl k q).2; omega)).mono mb.size
  · rw [hR, h1]
    exact ⟨h2, t3⟩

set_option maxRecDepth 100000 in
set_option maxHeartbeats 8000000 in
theorem do_ok (a : Option Addr) (cap : Nat) (zs : List Int) (sem : List KV → Ran) (R : Option (List Int × List KV)) (b : Nat) (w : World) (hz : IsWords w a zs) (hlen : zs.length ≤ 1000) (hok : OkW zs) (hfine : FineSem zs b sem) (hb : b ≤ 100000) (hR : doP sem zs (zs.length + 1) [] = R) (f : Nat) (clo : Array Value)
    (henter : ∀ args w, Sem.run Try.prog (callFunc f args) w = .ok (.enter f args) w)
    (hprog : ∀ (K : List KV), OkKn zs K → ∀ (W : World) (F : Nat → Prop) (p : Nat), More w W → ViewAt W F p (look K) [] → (∀ k, F k → w.heap.size ≤ k) → Calls Try.prog f (#[.pointer (some ⟨p, 0, none⟩)] ++ clo) W (WentS W F (fun _ => False) (fun _ _ => True) p (look K) (sem K))) :
    Calls Try.prog 7 #[.slice a zs.length cap, .func (.func f) #[] clo] w (DidDo w R) := by
  have hmm := @run_makeMap Try.prog
  have CL := Lib.hid (clone_words a cap zs w hz (by omega))
  have HOK := Lib.hid hok
  have HF := Lib.hid hfine
  have HR0 := Lib.hid hR
  have HE := Lib.hid henter
  have HP := Lib.hid hprog
  clear hz hok hfine hR henter hprog
  go_enter Try.func7, Try.ntmps7
  go_wp2_with fail
  refine CL.out.mono ?_
  rintro e w1 ⟨a', cap', rfl, hr1, hn1, hm1⟩
  have DO0 : Hid (DoOn w (w1.alloc (.map #[] 0)) (w1.alloc (.map #[] 0)) w1.heap.size zs sem R [] (.slice none 0 0)) := Lib.hid
    ⟨okKn_nil zs, HR0.out, PRw.nil _ _, KnownAt.made w1, Turned.refl _ _⟩
  have MB : Hid (More w (w1.alloc (.map #[] 0))) := Lib.hid (hm1.alloc _)
  have RB := Lib.hid (hr1.keep ((More.refl w1).alloc (.map #[] 0)) (fun _ _ q => q))
  have HL : Hid (∀ k, owned a' k → w.heap.size ≤ k ∧ k < (w1.alloc (.map #[] 0)).heap.size ∧ k ≠ w1.heap.size) := Lib.hid fun k q => ⟨hn1 k q, by have := hr1.lt k q; simp; omega, by have := hr1.lt k q; omega⟩
  have hwM : w.heap.size ≤ w1.heap.size := hm1.size
  have hMb : w1.heap.size < (w1.alloc (.map #[] 0)).heap.size := by simp
  clear hr1 hn1 hm1 CL
  go_wp2_with fail
  generalize w1.alloc (.map #[] 0) = wb at DO0 MB RB HL hMb ⊢
  generalize w1.heap.size = M at DO0 HL hwM hMb ⊢
  go_loopw [8] (fun u8 wr => ∃ K, DoOn w wb wr M zs sem R K u8 ∧ lenOf u8 = K.length) (fun u8 _ => zs.length + 1 - lenOf u8)
  case atStart => exact ⟨[], DO0.out, rfl⟩
  case round =>
    obtain ⟨K, hdo, hln⟩ := hrel
    obtain ⟨an, cn, rfl, hpn, _⟩ := hdo.row.reads
    have DO := Lib.hid hdo
    have hKl := hdo.okn.len
    have hmr : More w wr := Turned.mono (turned_own (F := fun _ => False) MB.out hdo.turn (fun k q => .inr (by omega))) (fun _ _ q => q)
    have RUN := Lib.hid (run_ok (look K) (sem K) M K.length wr hdo.known f clo (fun _ => False) (fun _ _ => True) HE.out (fun _ q => q.elim) (fun _ _ _ _ _ => trivial)
      (fun W F p m v n => HP.out K hdo.okn W F p (hmr.trans m) v (fun k hk => Nat.le_trans hmr.size (n k hk))))
    have HFK := Lib.hid (HF.out K hdo.okn)
    have RW : Hid (RowAt wr 3 (zs.map (Value.int .i64)) a' cap') := Lib.hid (RB.out.keep hdo.turn (fun k q e => (HL.out k q).2.2 e))
    clear hdo hpn hmr DO0 hln
    go_wp2_with fail
    refine RUN.out.mono ?_
    intro e w2 he
    cases hs : sem K with
    | need x =>
      rw [hs] at he
      obtain ⟨rfl, hm2⟩ := he
      have HS := Lib.hid hs
      have hx0 : 0 ≤ x := by have := HFK.out; rw [hs] at this; exact this.1
      clear hs RUN
      obtain ⟨j, rfl⟩ : ∃ j : Nat, x = j := ⟨x.toNat, by omega⟩
      have HM2 : Hid (More wr w2) := Lib.hid hm2
      clear hm2
      have HFJ := HFK.out
      rw [HS.out] at HFJ
      by_cases hj : j < zs.length
      · obtain ⟨q1, q2, q3, q4⟩ := doP_need DO.out.okn HFK.out HS.out (by omega) DO.out.res
        have d1 : decide ((zs.length : Int) ≤ (j : Int)) = false := by simp; omega
        have d3 : decide (zs.length ≤ j) = false := by simp; omega
        have d2 : decide ((j : Int) < 0) = false := by simp
        have hrow := RW.out.keep HM2.out (fun _ _ q => q)
        obtain ⟨g, rfl, hg, hcell, _⟩ := hrow.reads (by simp; omega)
        have hgM : g ≠ M := (HL.out g rfl).2.2
        have cw : w2.cell? ⟨g, j, none⟩ = some (.int .i64 (wAt zs j)) := by
          refine hcell j _ ?_
          unfold wAt
          rw [List.getElem?_map, List.getElem?_eq_getElem hj]
          simp [List.getD, hj]
        obtain ⟨w3, hst, hk3, ht3⟩ := (DO.out.known.more HM2.out).store HFJ.2.1 (wAt_ok HOK.out j) (by unfold maxLen; omega)
        rw [look_snoc q4] at hk3
        have T23 := Lib.hid ht3
        have K3 := Lib.hid hk3
        have cw3 := cell_turned ht3 hgM cw
        have hg3 : g < w3.heap.size := Nat.lt_of_lt_of_le hg ht3.size
        have TB3 : Hid (Turned (fun k => k = M) wb w3) := Lib.hid ((turned_own (F' := fun _ => False) DO.out.turn HM2.out (fun _ q => q.elim)).trans ht3)
        have R3 : Hid (PRw wb.heap.size w3 (.slice an K.length cn) K) := Lib.hid ((DO.out.row.more HM2.out).keep ht3 (fun k hk e => by omega))
        have NX : Hid (∀ w4 v, PRw wb.heap.size w4 v (K ++ [((j : Int), wAt zs j)]) → Turned (fun k => k = M) wb w4 → (∀ k ob, w3.heap[k]? = some ob → (Value.slice an K.length cn).ownBlock ≠ some k → w4.heap[k]? = some ob) → DoOn w wb w4 M zs sem R (K ++ [((j : Int), wAt zs j)]) v) := Lib.hid fun w4 v h1 h2 h3 =>
          ⟨q1, q2, h1, by rw [List.length_append]; exact K3.out.of_block (fun ob ho => h3 M ob ho (fun e => by have := (DO.out.row.lt M e).1; omega)), h2⟩
        clear hrow hcell hk3 ht3 q1 q2 q3 q4 HFJ
        generalize wAt zs j = z at cw hst cw3 NX
        go_wp2_with (at_builtin; refine wpList_pair (S := fun k => k = M) (wa := wb) (ps := K) (j : Int) z rfl _ _ rfl rfl R3.out TB3.out (by omega) rfl ?_; intro g4 c4 w4 h4 t4 k4; have N4 := Lib.hid (NX.out _ _ h4 t4 k4); clear h4 t4 k4)
        go_roundw
        case rel => exact ⟨_, N4.out, by simp [lenOf]⟩
        case measure => simp [lenOf]; omega
      · have hn := doP_far DO.out.okn HS.out (by omega) DO.out.res
        subst hn
        have d1 : decide ((zs.length : Int) ≤ (j : Int)) = true := by simp; omega
        have d3 : decide (zs.length ≤ j) = true := by simp; omega
        have d2 : decide ((j : Int) < 0) = false := by simp
        have FIN : Hid (DidDo w none (.returned (.tuple #[.slice none 0 0, .slice none 0 0, .int .i64 3])) w2) := Lib.hid ⟨rfl, (Turned.mono (turned_own (F := fun _ => False) MB.out DO.out.turn (fun k q => .inr (by omega))) (fun _ _ q => q) : More w wr).trans HM2.out⟩
        clear HFJ hj
        go_wp2_with fail
        go_ret3
        exact FIN.out
    | done D =>
      rw [hs] at he
      obtain ⟨v, p, rfl, hr, hm2, _⟩ := he
      obtain ⟨ad, cd, rfl, hpd, hbd⟩ := hr.reads
      have hfk := HFK.out
      rw [hs] at hfk
      have FINI := Lib.hid (finish_ok zs D a' ad an cap' cd K.length cn w2 (RW.out.keep hm2 (fun _ _ q => q)) hpd (by have := hfk.2.2; omega) (by omega) hfk.1 (fun k q r => by have := hbd k q; have := (HL.out k r).2.1; have := DO.out.turn.size; omega))
      have FIN : Hid (∀ e w3, Finished w2 zs D a' cap' (.slice an K.length cn) e w3 → DidDo w R e w3) := Lib.hid fun e w3 h => do_fin DO.out hs MB.out hwM (fun k q => ⟨(HL.out k q).1, (HL.out k q).2.1⟩) hm2 h
      clear hs RUN hr hm2 hpd hbd hfk
      go_wp2_with fail
      refine FINI.out.mono ?_
      intro e w3 he
      have hfin := FIN.out e w3 he
      rcases he.2 with ⟨_, rfl, _⟩ | ⟨_, rfl⟩
      · have F2 := Lib.hid hfin
        clear hfin he
        go_wp2_with fail
        go_ret3
        exact F2.out
      · have F2 := Lib.hid hfin
        clear hfin he
        go_wp2_with fail
        go_ret3
        exact F2.out
end Go.Proofs.Ytflihdcliknggaa
