/-
  As ViewDoY, where what the program leaves lies in blocks that it makes itself: X speaks of the blocks from a number on.
-/
import Derived.Test.YtflihdcliknggaaViewDoY
namespace Go.Proofs.Ytflihdcliknggaa
open Go.RowKit Go.Sort Go.Maps Go.Shelf
set_option linter.unusedVariables false
set_option linter.unusedSimpArgs false

/-- What run comes to. -/
def RanX (w : World) (S : Nat → Prop) (Y : World → Prop) (X : Nat → World → Prop) (R : Ran) (e : Ending) (w' : World) : Prop :=
  match R with
  | .need a => e = .returned (.tuple #[.int .i64 a, .slice none 0 0]) ∧ Turned S w w' ∧ Y w'
  | .done D => ∃ v p b, e = .returned (.tuple #[.int .i64 (-1), v]) ∧ PRw w.heap.size w' v D ∧ Turned S w w' ∧ Y w' ∧ (w.heap.size ≤ b ∧ X b w') ∧ DeadAt w' p (-1)

set_option maxHeartbeats 4000000 in
theorem runX_ok (kn : Int → Option Int) (R : Ran) (M n : Nat) (w : World) (hk : KnownAt w M n kn) (f : Nat) (cap : Array Value) (S : Nat → Prop) (Y : World → Prop) (X : Nat → World → Prop)
    (henter : ∀ args w, Sem.run Try.prog (callFunc f args) w = .ok (.enter f args) w) (hS : ∀ k, S k → k < w.heap.size) (hY : ∀ w' w'', Y w' → Turned (fun k => w.heap.size ≤ k) w' w'' → Y w'') (hX : ∀ b w' w'', w.heap.size ≤ b → X b w' → Turned (fun k => w.heap.size ≤ k ∧ k < b) w' w'' → X b w'') (hY0 : Y w)
    (hprog : ∀ (W : World) (F : Nat → Prop) (p : Nat), More w W → Y W → ViewAt W F p kn [] → (∀ k, F k → w.heap.size ≤ k) → Calls Try.prog f (#[.pointer (some ⟨p, 0, none⟩)] ++ cap) W (WentY W F S Y (X W.heap.size) p kn R)) :
    Calls Try.prog 19 #[.map (some M), .func (.func f) #[] cap] w (RanX w S Y X R) := by
  have hq : ∀ w, Sem.run Try.prog (binOp BinOp.eql 34 (Value.func (.func f) #[] cap) Value.nilFunc) w = .ok (.bool false) w := fun w => run_eql_func w _ Try.underlying34 _ _ _
  have hmf : ∀ (fn : Fn) (first cap : Array Value) (w : World), (Instr.makeFunc fn first cap).run Try.prog w = .ok (.func fn first cap) w := fun _ _ _ _ => rfl
  have HK := Lib.hid hk
  have HS := Lib.hid hS
  have HX := Lib.hid hX
  have HY := Lib.hid hY
  have HY0 := Lib.hid hY0
  have HP := Lib.hid hprog
  clear hk hS hX hY hY0 hprog
  go_enter_defers Try.func19, Try.ntmps19
  go_wp2_with fail
  refine (new_ok _).mono ?_
  rintro e w1 ⟨F0, q, rfl, m1, M1, n1⟩
  obtain ⟨F, hbeg⟩ := begun_of HK.out m1 M1 n1
  have HB := Lib.hid hbeg
  have hws : w.heap.size < w1.heap.size := by have := M1.size; simp at this; omega
  clear hbeg m1 M1 n1
  go_wp2_with fail
  change Calls _ _ _ ((w1.alloc (.cells (viewCells (some ⟨w1.heap.size, 0, none⟩) M q (-1)) 61)).alloc (.cells #[.pointer (some ⟨w1.heap.size, 0, none⟩)] 28)) _
  generalize (w1.alloc (.cells (viewCells (some ⟨w1.heap.size, 0, none⟩) M q (-1)) 61)).alloc (.cells #[.pointer (some ⟨w1.heap.size, 0, none⟩)] 28) = W at HB ⊢
  generalize w1.heap.size + 1 = bv at HB ⊢
  generalize w1.heap.size = p at HB ⊢
  have hlw : Hid (∀ k, k < w.heap.size → k ≠ bv ∧ k ≠ p) := Lib.hid fun k hk => by have := HB.out.lv; have := HB.out.lp; omega
  have HPW : Hid (p < W.heap.size) := Lib.hid (by obtain ⟨_, _, _, _, _, _, _, fp, _, _⟩ := HB.out.view.ex; exact HB.out.view.lt p fp)
  clear hws
  refine (HP.out W F p HB.out.more (HY.out _ _ HY0.out (Turned.mono HB.out.more (fun _ _ q => q.elim))) HB.out.view HB.out.new).mono ?_
  intro e w2 he
  cases R with
  | need a =>
    obtain ⟨rfl, hd, ht, hy⟩ := he
    obtain ⟨hv2, hn2, ne1, ne2⟩ := ran_box HB.out HS.out ht
    change bodyPostD _ _ _ (Exit.panic (endOf p)) _ _
    refine leaves_cons (f := 28) (args := #[.pointer (some ⟨bv, 0, none⟩), .pointer (some ⟨w.heap.size, 0, none⟩)]) (by simp) (by simp [go_sem]) ?_
    refine (catch_end p bv w.heap.size a 0 w2 hd hv2 hn2 ne1 ne2 HB.out.vn).mono ?_
    rintro e u' w3 ⟨rfl, rfl, hc⟩
    obtain ⟨b0, _, _⟩ := box_cells hc.2.1
    have FIN : Turned S w w3 ∧ Y w3 := ⟨ran_turn HB.out ht hc.2.2, HY.out _ _ hy (hc.2.2.mono (fun k _ q => by have := HB.out.lp; rcases q with q | q <;> omega))⟩
    simp [Leaves, settle, results, Try.results19, go_sem, b0]
    exact ⟨rfl, FIN⟩
  | done D =>
    obtain ⟨rfl, ⟨F', hv⟩, ht, hy, hx⟩ := he
    obtain ⟨hv2, hn2, ne1, ne2⟩ := ran_box HB.out HS.out ht
    obtain ⟨M', q', n', F0', hp2, hk2, hm2, fp2, f02, fM2⟩ := hv.ex
    obtain ⟨c0, c1, c2, c3, cf, cl⟩ := view_cells hp2
    obtain ⟨v0, vf, vl⟩ := box_cells hv2
    have TOLD := Lib.hid (told_ok F0' p q' D w2 c2 hm2)
    have HT := Lib.hid ht
    have HX2 := Lib.hid hx
    have HY2 := Lib.hid hy
    have HP2 := Lib.hid hp2
    have HV2 := Lib.hid hv2
    have HN2 := Lib.hid hn2
    clear hv hk2 hm2 fp2 f02 fM2 hp2 hv2 hn2 ht hx hy
    go_wp2_with fail
    refine TOLD.out.mono ?_
    rintro e w3 ⟨v, rfl, hr, hm3⟩
    obtain ⟨n0, nf, nl⟩ := box_cells (hm3.block HN2.out)
    have HR := Lib.hid hr
    have HM3 := Lib.hid hm3
    clear hr hm3
    go_wp2_with fail
    have t4 : Turned (fun k => k = p ∨ k = w.heap.size) w3 (w3.setCell ⟨w.heap.size, 0, none⟩ (.int .i64 (-1))) := turned_setCell (Turned.refl _ w3) (fun _ => .inr rfl) _
    have hp4 : (w3.setCell ⟨w.heap.size, 0, none⟩ (.int .i64 (-1))).heap[p]? = _ := (Below.heap_setCell _ _ _ _ (Ne.symm ne2)).trans (HM3.out.block HP2.out)
    have hv4 : (w3.setCell ⟨w.heap.size, 0, none⟩ (.int .i64 (-1))).heap[bv]? = _ := (Below.heap_setCell _ _ _ _ HB.out.vn).trans (HM3.out.block HV2.out)
    have hn4 := box_put (.int .i64 (-1)) (HM3.out.block HN2.out)
    have hm3 := HM3.out
    have hr := HR.out
    have hlp2 := cl
    have hln2 : w.heap.size < w2.heap.size := lt_of_heap HN2.out
    generalize w3.setCell ⟨w.heap.size, 0, none⟩ (.int .i64 (-1)) = w4 at t4 hp4 hv4 hn4 ⊢
    refine leaves_cons (f := 28) (args := #[.pointer (some ⟨bv, 0, none⟩), .pointer (some ⟨w.heap.size, 0, none⟩)]) (by simp) (by simp [go_sem]) ?_
    refine (catch_idle p bv w.heap.size M' q' (-1) w4 hp4 hv4 hn4 ne1 ne2 HB.out.vn).mono ?_
    rintro e u' w5 ⟨rfl, rfl, hc⟩
    obtain ⟨b0, _, _⟩ := box_cells hc.2.1
    have t35 : Turned (fun k => k = p ∨ k = w.heap.size) w3 w5 := t4.trans hc.2.2
    have FIN : RanX w S Y X (.done D) (.returned (.tuple #[.int .i64 (-1), v])) w5 := by
      refine ⟨v, p, W.heap.size, rfl, (hr.keep t35 (fun k hk q => by rcases q with q | q <;> omega)).mono (by omega), ?_, ?_, ?_, hc.1⟩
      · exact ran_turn HB.out HT.out ((Turned.mono hm3 (fun _ _ q => q.elim)).trans t35)
      · have hlp := HB.out.lp
        exact HY.out w2 w5 HY2.out ((Turned.mono hm3 (fun _ _ q => q.elim)).trans (t35.mono (fun k _ q => by rcases q with q | q <;> omega)))
      · have hlp := HB.out.lp
        have hpW := HPW.out
        exact ⟨by omega, HX.out W.heap.size w2 w5 (by omega) HX2.out ((Turned.mono hm3 (fun _ _ q => q.elim)).trans (t35.mono (fun k _ q => by rcases q with q | q <;> omega)))⟩
    simp [Leaves, settle, results, Try.results19, go_sem, b0]
    exact FIN

/-- What Do answers. -/
def DidX (w : World) (S : Nat → Prop) (Y : World → Prop) (X : Nat → World → Prop) (R : Option (List Int × List KV)) (e : Ending) (w' : World) : Prop :=
  match R with
  | none => e = .returned (.tuple #[.slice none 0 0, .slice none 0 0, .int .i64 3]) ∧ Turned S w w' ∧ Y w'
  | some (ws, K) => ∃ v1 v2 b, e = .returned (.tuple #[v1, v2, .int .i64 0]) ∧ Rw w.heap.size w' v1 ws ∧ PRw w.heap.size w' v2 K ∧ Turned S w w' ∧ Y w' ∧ w.heap.size ≤ b ∧ X b w'

theorem doX_fin {w wb wr w2 w3 : World} {S : Nat → Prop} {Y : World → Prop} {X : Nat → World → Prop} {M : Nat} {zs : List Int} {sem : List KV → Ran} {R : Option (List Int × List KV)} {K D : List KV} {a' an : Option Addr} {cap' cn : Nat} {e : Ending} (h : OnY w wb wr S Y M zs sem R K (.slice an K.length cn)) (hs : sem K = .done D) (mb : More w wb) (hM : w.heap.size ≤ M)
    (hl : ∀ k, owned a' k → w.heap.size ≤ k ∧ k < wb.heap.size) (hS : ∀ k, S k → k < w.heap.size) (m2 : Turned S wr w2) (hf : Finished w2 zs D a' cap' (.slice an K.length cn) e w3)
    (hY : ∀ w' w'', Y w' → Turned (fun k => w.heap.size ≤ k) w' w'' → Y w'') (hX : ∀ b w' w'', w.heap.size ≤ b → X b w' → Turned (fun k => w.heap.size ≤ k ∧ k < b) w' w'' → X b w'') (y2 : Y w2) {b : Nat} (hb : wb.heap.size ≤ b) (x2 : X b w2) : DidX w S Y X R e w3 := by
  have hR := doP_done h.okn hs h.res
  have mbS : Turned S w wb := Turned.mono mb (fun _ _ q => q.elim)
  have t3 : Turned S w w3 := by
    have t1 : Turned S w wr := turned_own mbS h.turn (fun k q => by rcases q with q | q; exact .inr (by omega); exact .inl q)
    exact turned_own (turned_own t1 m2 (fun k q => .inl q)) hf.1 (fun k q => .inr (hl k q).1)
  have t23 : Turned (fun k => w.heap.size ≤ k) w2 w3 := hf.1.mono (fun k _ q => (hl k q).1)
  rcases hf.2 with ⟨h1, h2, h3⟩ | ⟨h1, h2⟩
  · rw [hR, if_pos h1]
    have hlen : (applyD zs D).length = zs.length := applyD_len D zs
    have hwb := mb.size
    refine ⟨_, _, b, h2, ?_, ?_, t3, hY _ _ y2 t23, by omega, hX b _ _ (by omega) x2 (hf.1.mono (fun k _ q => by have := hl k q; omega))⟩
    · have := h3.own (base := w.heap.size) (fun k q => (hl k q).1)
      unfold Rw
      rw [List.length_map, hlen] at this
      rw [hlen]; exact this
    · have hb := mb.size
      exact ((h.row.keep m2 (fun k hk q => by have := hS k q; omega)).keep hf.1 (fun k hk q => by have := (hl k q).2; omega)).mono mb.size
  · rw [hR, h1]
    exact ⟨h2, t3, hY _ _ y2 t23⟩

set_option maxRecDepth 100000 in
set_option maxHeartbeats 8000000 in
theorem doX_ok (a : Option Addr) (cap : Nat) (zs : List Int) (sem : List KV → Ran) (R : Option (List Int × List KV)) (b : Nat) (w : World) (hz : IsWords w a zs) (hlen : zs.length ≤ 1000) (hok : OkW zs) (hfine : FineSem zs b sem) (hb : b ≤ 100000) (hR : doP sem zs (zs.length + 1) [] = R) (f : Nat) (clo : Array Value) (S : Nat → Prop) (Y : World → Prop) (X : Nat → World → Prop) (hS : ∀ k, S k → k < w.heap.size)
    (hY : ∀ w' w'', Y w' → Turned (fun k => w.heap.size ≤ k) w' w'' → Y w'') (hX : ∀ b w' w'', w.heap.size ≤ b → X b w' → Turned (fun k => w.heap.size ≤ k ∧ k < b) w' w'' → X b w'') (hY0 : Y w)
    (henter : ∀ args w, Sem.run Try.prog (callFunc f args) w = .ok (.enter f args) w)
    (hprog : ∀ (K : List KV), OkKn zs K → ∀ (W : World) (F : Nat → Prop) (p : Nat), Turned S w W → Y W → ViewAt W F p (look K) [] → (∀ k, F k → w.heap.size ≤ k) → Calls Try.prog f (#[.pointer (some ⟨p, 0, none⟩)] ++ clo) W (WentY W F S Y (X W.heap.size) p (look K) (sem K))) :
    Calls Try.prog 7 #[.slice a zs.length cap, .func (.func f) #[] clo] w (DidX w S Y X R) := by
  have hmm := @run_makeMap Try.prog
  have CL := Lib.hid (clone_words a cap zs w hz (by omega))
  have HOK := Lib.hid hok
  have HF := Lib.hid hfine
  have HR0 := Lib.hid hR
  have HE := Lib.hid henter
  have HP := Lib.hid hprog
  have HSS := Lib.hid hS
  have HY := Lib.hid hY
  have HX := Lib.hid hX
  have HY0 := Lib.hid hY0
  clear hz hok hfine hR henter hprog hS hY hX hY0
  go_enter Try.func7, Try.ntmps7
  go_wp2_with fail
  refine CL.out.mono ?_
  rintro e w1 ⟨a', cap', rfl, hr1, hn1, hm1⟩
  have DO0 : Hid (OnY w (w1.alloc (.map #[] 0)) (w1.alloc (.map #[] 0)) S Y w1.heap.size zs sem R [] (.slice none 0 0)) := Lib.hid
    ⟨okKn_nil zs, HR0.out, PRw.nil _ _, KnownAt.made w1, Turned.refl _ _, HY.out _ _ HY0.out (Turned.mono (hm1.alloc _) (fun _ _ q => q.elim))⟩
  have MB : Hid (More w (w1.alloc (.map #[] 0))) := Lib.hid (hm1.alloc _)
  have RB := Lib.hid (hr1.keep ((More.refl w1).alloc (.map #[] 0)) (fun _ _ q => q))
  have HL : Hid (∀ k, owned a' k → w.heap.size ≤ k ∧ k < (w1.alloc (.map #[] 0)).heap.size ∧ k ≠ w1.heap.size) := Lib.hid fun k q => ⟨hn1 k q, by have := hr1.lt k q; simp; omega, by have := hr1.lt k q; omega⟩
  have hwM : w.heap.size ≤ w1.heap.size := hm1.size
  have hMb : w1.heap.size < (w1.alloc (.map #[] 0)).heap.size := by simp
  clear hr1 hn1 hm1 CL
  go_wp2_with fail
  generalize w1.alloc (.map #[] 0) = wb at DO0 MB RB HL hMb ⊢
  generalize w1.heap.size = M at DO0 HL hwM hMb ⊢
  go_loopw [8] (fun u8 wr => ∃ K, OnY w wb wr S Y M zs sem R K u8 ∧ lenOf u8 = K.length) (fun u8 _ => zs.length + 1 - lenOf u8)
  case atStart => exact ⟨[], DO0.out, rfl⟩
  case round =>
    obtain ⟨K, hdo, hln⟩ := hrel
    obtain ⟨an, cn, rfl, hpn, _⟩ := hdo.row.reads
    have DO := Lib.hid hdo
    have hKl := hdo.okn.len
    have hsz : w.heap.size ≤ wr.heap.size := Nat.le_trans MB.out.size hdo.turn.size
    have hmr : Turned S w wr := turned_own (Turned.mono MB.out (fun _ _ q => q.elim)) hdo.turn (fun k q => by rcases q with q | q; exact .inr (by omega); exact .inl q)
    have LS := Lib.hid (fun k (q : S k) => HSS.out k q)
    have RUN := Lib.hid (runX_ok (look K) (sem K) M K.length wr hdo.known f clo S Y X HE.out (fun k q => Nat.lt_of_lt_of_le (HSS.out k q) hsz) (fun w' w'' h t => HY.out w' w'' h (t.mono (fun k _ q => Nat.le_trans hsz q))) (fun b w' w'' hb h t => HX.out b w' w'' (by omega) h (t.mono (fun k _ q => by omega))) hdo.y
      (fun W F p m y v n => HP.out K hdo.okn W F p (turned_own (F' := fun _ => False) hmr m (fun _ q => q.elim)) y v (fun k hk => Nat.le_trans hsz (n k hk))))
    have HFK := Lib.hid (HF.out K hdo.okn)
    have RW : Hid (RowAt wr 3 (zs.map (Value.int .i64)) a' cap') := Lib.hid (RB.out.keep hdo.turn (fun k q e => by rcases e with e | e; exact (HL.out k q).2.2 e; have := HSS.out k e; have := (HL.out k q).1; omega))
    clear hdo hpn hmr hsz DO0 hln
    go_wp2_with fail
    refine RUN.out.mono ?_
    intro e w2 he
    cases hs : sem K with
    | need x =>
      rw [hs] at he
      obtain ⟨rfl, hm2, hy2⟩ := he
      have HS := Lib.hid hs
      have hx0 : 0 ≤ x := by have := HFK.out; rw [hs] at this; exact this.1
      clear hs RUN
      obtain ⟨j, rfl⟩ : ∃ j : Nat, x = j := ⟨x.toNat, by omega⟩
      have HM2 : Hid (Turned S wr w2) := Lib.hid hm2
      have Y2 := Lib.hid hy2
      have nSM : ¬ S M := fun q => by have := HSS.out M q; omega
      have nSa : ∀ k, owned a' k → ¬ S k := fun k q r => by have := HSS.out k r; have := (HL.out k q).1; omega
      have bW : w.heap.size ≤ wb.heap.size := MB.out.size
      clear hm2 hy2
      have HFJ := HFK.out
      rw [HS.out] at HFJ
      by_cases hj : j < zs.length
      · obtain ⟨q1, q2, q3, q4⟩ := doP_need DO.out.okn HFK.out HS.out (by omega) DO.out.res
        have d1 : decide ((zs.length : Int) ≤ (j : Int)) = false := by simp; omega
        have d3 : decide (zs.length ≤ j) = false := by simp; omega
        have d2 : decide ((j : Int) < 0) = false := by simp
        have hrow := RW.out.keep HM2.out nSa
        obtain ⟨g, rfl, hg, hcell, _⟩ := hrow.reads (by simp; omega)
        have hgM : g ≠ M := (HL.out g rfl).2.2
        have cw : w2.cell? ⟨g, j, none⟩ = some (.int .i64 (wAt zs j)) := by
          refine hcell j _ ?_
          unfold wAt
          rw [List.getElem?_map, List.getElem?_eq_getElem hj]
          simp [List.getD, hj]
        obtain ⟨w3, hst, hk3, ht3⟩ := (DO.out.known.keep HM2.out nSM).store HFJ.2.1 (wAt_ok HOK.out j) (by unfold maxLen; omega)
        rw [look_snoc q4] at hk3
        have T23 := Lib.hid ht3
        have K3 := Lib.hid hk3
        have cw3 := cell_turned ht3 hgM cw
        have hg3 : g < w3.heap.size := Nat.lt_of_lt_of_le hg ht3.size
        have TB3 : Hid (Turned (fun k => k = M ∨ S k) wb w3) := Lib.hid ((turned_own DO.out.turn HM2.out (fun _ q => .inl (.inr q))).trans (ht3.mono (fun _ _ q => .inl q)))
        have YW3 : Hid (Y w3) := Lib.hid (HY.out _ _ Y2.out (ht3.mono (fun k _ q => by subst q; exact hwM)))
        have R3 : Hid (PRw wb.heap.size w3 (.slice an K.length cn) K) := Lib.hid ((DO.out.row.keep HM2.out (fun k hk q => by have := HSS.out k q; omega)).keep ht3 (fun k hk e => by omega))
        have NX : Hid (∀ w4 v, PRw wb.heap.size w4 v (K ++ [((j : Int), wAt zs j)]) → Turned (fun k => k = M ∨ S k) wb w4 → (∀ k ob, w3.heap[k]? = some ob → (Value.slice an K.length cn).ownBlock ≠ some k → w4.heap[k]? = some ob) → Y w4 → OnY w wb w4 S Y M zs sem R (K ++ [((j : Int), wAt zs j)]) v) := Lib.hid fun w4 v h1 h2 h3 h5 =>
          ⟨q1, q2, h1, by rw [List.length_append]; exact K3.out.of_block (fun ob ho => h3 M ob ho (fun e => by have := (DO.out.row.lt M e).1; omega)), h2, h5⟩
        clear hrow hcell hk3 ht3 q1 q2 q3 q4 HFJ
        generalize wAt zs j = z at cw hst cw3 NX
        go_wp2_with (at_builtin; refine wpList_pairT (S := fun k => k = M ∨ S k) (wa := wb) (ps := K) (j : Int) z rfl _ _ rfl rfl R3.out TB3.out (by omega) rfl ?_; intro g4 c4 w4 h4 t4 k4 u4; have N4 := Lib.hid (NX.out _ _ h4 t4 k4 (HY.out _ _ YW3.out (u4.mono (fun k _ q => Nat.le_trans bW (DO.out.row.lt k q).1)))); clear h4 t4 k4 u4)
        go_roundw
        case rel => exact ⟨_, N4.out, by simp [lenOf]⟩
        case measure => simp [lenOf]; omega
      · have hn := doP_far DO.out.okn HS.out (by omega) DO.out.res
        subst hn
        have d1 : decide ((zs.length : Int) ≤ (j : Int)) = true := by simp; omega
        have d3 : decide (zs.length ≤ j) = true := by simp; omega
        have d2 : decide ((j : Int) < 0) = false := by simp
        have FIN : Hid (DidX w S Y X none (.returned (.tuple #[.slice none 0 0, .slice none 0 0, .int .i64 3])) w2) := Lib.hid ⟨rfl, turned_own (turned_own (Turned.mono MB.out (fun _ _ q => q.elim)) DO.out.turn (fun k q => by rcases q with q | q; exact .inr (by omega); exact .inl q)) HM2.out (fun k q => .inl q), Y2.out⟩
        clear HFJ hj
        go_wp2_with fail
        go_ret3
        exact FIN.out
    | done D =>
      rw [hs] at he
      obtain ⟨v, p, bX, rfl, hr, hm2, hy2, ⟨hbX, hx2⟩, _⟩ := he
      have nSa : ∀ k, owned a' k → ¬ S k := fun k q r => by have := HSS.out k r; have := (HL.out k q).1; omega
      obtain ⟨ad, cd, rfl, hpd, hbd⟩ := hr.reads
      have hfk := HFK.out
      rw [hs] at hfk
      have FINI := Lib.hid (finish_ok zs D a' ad an cap' cd K.length cn w2 (RW.out.keep hm2 nSa) hpd (by have := hfk.2.2; omega) (by omega) hfk.1 (fun k q r => by have := hbd k q; have := (HL.out k r).2.1; have := DO.out.turn.size; omega))
      have FIN : Hid (∀ e w3, Finished w2 zs D a' cap' (.slice an K.length cn) e w3 → DidX w S Y X R e w3) := Lib.hid fun e w3 h => doX_fin DO.out hs MB.out hwM (fun k q => ⟨(HL.out k q).1, (HL.out k q).2.1⟩) HSS.out hm2 h HY.out HX.out hy2 (Nat.le_trans DO.out.turn.size hbX) hx2
      clear hs RUN hr hm2 hpd hbd hfk hy2 hx2
      go_wp2_with fail
      refine FINI.out.mono ?_
      intro e w3 he
      have hfin := FIN.out e w3 he
      rcases he.2 with ⟨_, rfl, _⟩ | ⟨_, rfl⟩
      · have F2 := Lib.hid hfin
        clear hfin he
        go_wp2_with fail
        go_ret3
        exact F2.out
      · have F2 := Lib.hid hfin
        clear hfin he
        go_wp2_with fail
        go_ret3
        exact F2.out
end Go.Proofs.Ytflihdcliknggaa
