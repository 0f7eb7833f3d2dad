/-
  Small programs as the statements have them: a slice of steps, and what a run of it comes to.
-/
import Derived.Test.YtjoeminkdafmaaaViewRead
import Derived.StillTailTactics
namespace Go.Proofs.Ytjoeminkdafmaaa
open Go.RowKit Go.Sort Go.Maps
set_option linter.unusedVariables false
set_option linter.unusedSimpArgs false

/-- A slice of structs of three integers: it is empty, or leads to them. -/
def IsIns (w : World) (a : Option Addr) (l : List Ins3) : Prop :=
  l = [] ∨ ∃ s o, a = some ⟨s, o, none⟩ ∧ s < w.heap.size ∧ ∀ i t, l[i]? = some t → w.cell? ⟨s, o + i * 3, none⟩ = some (.int .i64 t.1) ∧ w.cell? ⟨s, o + i * 3 + 1, none⟩ = some (.int .i64 t.2.1) ∧ w.cell? ⟨s, o + i * 3 + 2, none⟩ = some (.int .i64 t.2.2)
/-- A slice of pairs: it is empty, or leads to them. -/
def IsPairs (w : World) (a : Option Addr) (l : List KV) : Prop :=
  l = [] ∨ ∃ s o, a = some ⟨s, o, none⟩ ∧ s < w.heap.size ∧ ∀ i t, l[i]? = some t → w.cell? ⟨s, o + i * 2, none⟩ = some (.int .i64 t.1) ∧ w.cell? ⟨s, o + i * 2 + 1, none⟩ = some (.int .i64 t.2)
/-- The block that a slice leads to. -/
def leads (a : Option Addr) (k : Nat) : Prop := a.map (·.block) = some k
theorem cell_turned {S : Nat → Prop} {w w' : World} (t : Turned S w w') {s o : Nat} {v : Value} (hs : ¬ S s) (h : w.cell? ⟨s, o, none⟩ = some v) : w'.cell? ⟨s, o, none⟩ = some v := by
  rw [World.cell?_of_block (w := w) (Turned.block t s (lt_of_cell h) hs)]; exact h
theorem IsIns.keep {w w' : World} {a : Option Addr} {l : List Ins3} (h : IsIns w a l) {S : Nat → Prop} (t : Turned S w w') (hs : ∀ k, leads a k → ¬ S k) : IsIns w' a l := by
  rcases h with h | ⟨s, o, rfl, hl, hc⟩
  · exact .inl h
  · exact .inr ⟨s, o, rfl, Nat.lt_of_lt_of_le hl t.size, fun i u hi => by
      obtain ⟨c0, c1, c2⟩ := hc i u hi
      exact ⟨cell_turned t (hs s rfl) c0, cell_turned t (hs s rfl) c1, cell_turned t (hs s rfl) c2⟩⟩
theorem IsIns.more {w w' : World} {a : Option Addr} {l : List Ins3} (h : IsIns w a l) (t : More w w') : IsIns w' a l := h.keep t (fun _ _ q => q)
theorem IsPairs.keep {w w' : World} {a : Option Addr} {l : List KV} (h : IsPairs w a l) {S : Nat → Prop} (t : Turned S w w') (hs : ∀ k, leads a k → ¬ S k) : IsPairs w' a l := by
  rcases h with h | ⟨s, o, rfl, hl, hc⟩
  · exact .inl h
  · exact .inr ⟨s, o, rfl, Nat.lt_of_lt_of_le hl t.size, fun i u hi => by
      obtain ⟨c0, c1⟩ := hc i u hi
      exact ⟨cell_turned t (hs s rfl) c0, cell_turned t (hs s rfl) c1⟩⟩
theorem IsPairs.more {w w' : World} {a : Option Addr} {l : List KV} (h : IsPairs w a l) (t : More w w') : IsPairs w' a l := h.keep t (fun _ _ q => q)

theorem turned_own {F F' : Nat → Prop} {W w w' : World} (h : Turned F W w) (t : Turned F' w w') (n : ∀ k, F' k → F k ∨ W.heap.size ≤ k) : Turned F W w' :=
  ⟨t.os.trans h.os, t.tape.trans h.tape, t.output.trans h.output, Nat.le_trans h.size t.size, fun k hk hs => by
    rw [Turned.block t k (Nat.lt_of_lt_of_le hk h.size) (fun q => by rcases n k q with r | r; exact hs r; omega)]
    exact Turned.block h k hk hs⟩

/-- What a run has come to. -/
def Went (w : World) (F : Nat → Prop) (p : Nat) (kn : Int → Option Int) (R : Ran) (e : Ending) (w' : World) : Prop :=
  match R with
  | .need a => Ended w F p a e w'
  | .done D => DidView w F p kn D (.tuple #[]) e w'

/-- A run on its way: at step i, with the number x. -/
structure On (W wr : World) (F : Nat → Prop) (p : Nat) (kn : Int → Option Int) (l : List Ins3) (R : Ran) (i : Nat) (x : Int) : Prop where
  ex : ∃ F' D, ViewAt wr F' p kn D ∧ (∀ k, F' k → F k ∨ W.heap.size ≤ k) ∧ runP kn (l.drop i) false x D = R ∧ OkD D ∧ D.length ≤ i
  turn : Turned F W wr
  x64 : W64 x
theorem On.more {W wr w' : World} {F : Nat → Prop} {p : Nat} {kn : Int → Option Int} {l : List Ins3} {R : Ran} {i : Nat} {x : Int} (h : On W wr F p kn l R i x) (t : More wr w') : On W w' F p kn l R i x := by
  obtain ⟨F', D, hv, hn, hr, hd⟩ := h.ex
  exact ⟨⟨F', D, hv.more t, hn, hr, hd⟩, turned_own (F' := fun _ => False) h.turn t (fun _ q => q.elim), h.x64⟩
theorem on_did {W wr w' : World} {F F' : Nat → Prop} {p : Nat} {kn : Int → Option Int} {l : List Ins3} {R : Ran} {i : Nat} {x : Int} {D : List KV} {e : Ending} (t : Turned F W wr) (n : ∀ k, F' k → F k ∨ W.heap.size ≤ k) (hx : W64 x) (h : DidView wr F' p kn D (.tuple #[]) e w')
    (hR : runP kn (l.drop i) false x D = R) (hD : OkD D) (hl : D.length ≤ i) : e = .returned (.tuple #[]) ∧ On W w' F p kn l R i x := by
  obtain ⟨he, F1, hv, ht, hn⟩ := h
  refine ⟨he, ⟨F1, D, hv, fun k hk => ?_, hR, hD, hl⟩, turned_own t ht n, hx⟩
  rcases hn k hk with q | q
  · exact n k q
  · exact .inr (Nat.le_trans t.size q)
theorem on_end {W wr : World} {F : Nat → Prop} {p : Nat} {kn : Int → Option Int} {l : List Ins3} {R : Ran} {i : Nat} {x : Int} (h : On W wr F p kn l R i x) (hi : l.length ≤ i) : Went W F p kn R (.returned (.tuple #[])) wr := by
  obtain ⟨F', D, hv, hn, hr, hd⟩ := h.ex
  rw [runP_past _ _ _ _ _ hi] at hr
  subst hr
  exact ⟨rfl, F', hv, h.turn, hn⟩
theorem went_need {W wr w' : World} {F F' : Nat → Prop} {p : Nat} {kn : Int → Option Int} {R : Ran} {a : Int} {e : Ending} (t : Turned F W wr) (n : ∀ k, F' k → F k ∨ W.heap.size ≤ k) (hR : R = .need a) (h : Ended wr F' p a e w') : e = .panicked (endOf p) ∧ Went W F p kn R e w' := by
  subst hR
  exact ⟨h.1, h.1, h.2.1, turned_own t h.2.2 n⟩

set_option maxRecDepth 100000 in
set_option maxHeartbeats 4000000 in
theorem plays_ok (F : Nat → Prop) (p : Nat) (kn : Int → Option Int) (a : Option Addr) (cap : Nat) (l : List Ins3) (R : Ran) (W : World) (hv : ViewAt W F p kn []) (hl : IsIns W a l) (hlen : l.length ≤ 1000) (hF : l ≠ [] → ∀ k, leads a k → ¬ F k) (hP : OkP l) (hK : OkK kn) (hR : runP kn l false 0 [] = R) :
    Calls Try.prog 15 #[.pointer (some ⟨p, 0, none⟩), .slice a l.length cap] W (Went W F p kn R) := by
  have ON0 : Hid (On W W F p kn l R 0 0) := Lib.hid ⟨⟨F, [], hv, fun k hk => .inl hk, hR, okD_nil, Nat.le_refl _⟩, Turned.refl _ _, by unfold W64; omega⟩
  have HL := Lib.hid hl
  have HF := Lib.hid hF
  have HP := Lib.hid hP
  have HK := Lib.hid hK
  clear hv hl hF hP hK hR
  go_enter Try.func15, Try.ntmps15
  go_wp2_with fail
  go_loopw [4, 5] (fun u4 u5 wr => ∃ (x : Int) (i : Nat), u4 = .int .i64 x ∧ u5 = .int .i64 i ∧ i ≤ l.length + 1 ∧ On W wr F p kn l R i x) (fun _ u5 _ => l.length + 1 - (intOf u5).toNat)
  case atStart => exact ⟨0, 0, rfl, rfl, by omega, ON0.out⟩
  case round =>
    obtain ⟨x, i, rfl, rfl, hi, hon⟩ := hrel
    clear ON0
    have ON := Lib.hid hon
    clear hon
    by_cases hlt : i < l.length
    · obtain ⟨⟨k, b, c⟩, ht⟩ : ∃ t, l[i]? = some t := ⟨_, List.getElem?_eq_getElem hlt⟩
      have hl' := HL.out.keep ON.out.turn (HF.out (by intro q; rw [q] at hlt; simp at hlt))
      obtain ⟨s, o, rfl, hs, hc⟩ := hl'.resolve_left (by intro q; rw [q] at hlt; simp at hlt)
      obtain ⟨c0, c1, c2⟩ := hc i _ ht
      obtain ⟨w1, w2⟩ := HP.out _ (List.mem_of_getElem? ht)
      simp only at c0 c1 c2 w1 w2
      have HT := Lib.hid ht
      obtain ⟨F', D, hv, hn, hr, hD, hDl⟩ := ON.out.ex
      have HV := Lib.hid hv; have HN := Lib.hid hn; have HR := Lib.hid hr; have HD := Lib.hid hD
      clear hc ht hv hn hr hD hl'
      by_cases k0 : k = 0
      · subst k0
        cases hw : wordV kn D b with
        | none =>
          have HW := Lib.hid hw
          have NEED := Lib.hid (step0_none HT.out rfl hw HR.out)
          clear hw
          go_wp2_with fail
          refine (read_need F' p kn D b wr HV.out w1 HW.out).mono ?_
          intro e w' he
          obtain ⟨rfl, he'⟩ := went_need ON.out.turn HN.out NEED.out he
          exact ⟨rfl, he'⟩
        | some y =>
          have NX : Hid (∀ n, On W (wr.drewN n) F p kn l R (i + 1) y) := Lib.hid fun n => On.more ⟨⟨F', D, HV.out, HN.out, step0_some HT.out rfl hw HR.out, HD.out, by omega⟩, ON.out.turn, word_ok HK.out HD.out hw⟩ (more_drewN wr n)
          have HW := Lib.hid hw
          clear hw
          go_wp2_with fail
          refine (read_some F' p kn D b y wr HV.out w1 HW.out).mono ?_
          rintro e w' ⟨rfl, n, rfl⟩
          go_wp2_with fail
          go_roundw
          case rel => exact ⟨y, i + 1, rfl, by go_num, by omega, NX.out n⟩
          case measure => simp [intOf]; omega
      by_cases k1 : k = 1
      · subst k1
        have NX : Hid (∀ w0, More wr w0 → ∀ e w', DidView w0 F' p kn (writeV D b c) (.tuple #[]) e w' → e = .returned (.tuple #[]) ∧ On W w' F p kn l R (i + 1) x) := Lib.hid fun w0 hw0 e w' hd =>
          on_did (turned_own (F' := fun _ => False) ON.out.turn hw0 (fun _ q => q.elim)) HN.out ON.out.x64 hd (step1 HT.out rfl HR.out) (okD_write HD.out w1 w2) (by obtain ⟨M, q, n, F0, _, _, hm, _⟩ := HV.out.ex; have := len_write hm.asc b c; omega)
        have HV2 : Hid (ViewAt wr.drew F' p kn D) := Lib.hid (HV.out.more (More.refl wr).drew)
        go_wp2_with fail
        go_still_tail 11, (by kernel_rfl)
        change wpList _ _ _ _ _ wr.drew
        have HM : Hid (More wr wr.drew) := Lib.hid (More.refl wr).drew
        generalize wr.drew = w3 at HV2 HM ⊢
        go_wp2_with fail
        refine (write_ok F' p kn D b c w3 HV2.out (by omega)).mono ?_
        intro e w' he
        obtain ⟨rfl, hn⟩ := NX.out _ HM.out _ _ he
        have HN2 := Lib.hid hn
        clear hn he
        go_wp2_with fail
        go_roundw
        case rel => exact ⟨x, i + 1, rfl, by go_num, by omega, HN2.out⟩
        case measure => simp [intOf]; omega
      by_cases k2 : k = 2
      · subst k2
        have NX : Hid (∀ e w', DidView wr F' p kn (writeV D b x) (.tuple #[]) e w' → e = .returned (.tuple #[]) ∧ On W w' F p kn l R (i + 1) x) := Lib.hid fun e w' hd =>
          on_did ON.out.turn HN.out ON.out.x64 hd (step2 HT.out rfl HR.out) (okD_write HD.out w1 ON.out.x64) (by obtain ⟨M, q, n, F0, _, _, hm, _⟩ := HV.out.ex; have := len_write hm.asc b x; omega)
        go_wp2_with fail
        refine (write_ok F' p kn D b x wr HV.out (by omega)).mono ?_
        intro e w' he
        obtain ⟨rfl, hn⟩ := NX.out _ _ he
        have HN2 := Lib.hid hn
        clear hn he
        go_wp2_with fail
        go_roundw
        case rel => exact ⟨x, i + 1, rfl, by go_num, by omega, HN2.out⟩
        case measure => simp [intOf]; omega
      by_cases k3 : k = 3
      · subst k3
        cases hw : wordV kn D x with
        | none =>
          have HW := Lib.hid hw
          have NEED := Lib.hid (step3_none HT.out rfl hw HR.out)
          clear hw
          go_wp2_with fail
          refine (read_need F' p kn D x wr HV.out ON.out.x64 HW.out).mono ?_
          intro e w' he
          obtain ⟨rfl, he'⟩ := went_need ON.out.turn HN.out NEED.out he
          exact ⟨rfl, he'⟩
        | some y =>
          have NX : Hid (∀ n, On W (wr.drewN n) F p kn l R (i + 1) y) := Lib.hid fun n => On.more ⟨⟨F', D, HV.out, HN.out, step3_some HT.out rfl hw HR.out, HD.out, by omega⟩, ON.out.turn, word_ok HK.out HD.out hw⟩ (more_drewN wr n)
          have HW := Lib.hid hw
          clear hw
          go_wp2_with fail
          refine (read_some F' p kn D x y wr HV.out ON.out.x64 HW.out).mono ?_
          rintro e w' ⟨rfl, n, rfl⟩
          go_wp2_with fail
          go_roundw
          case rel => exact ⟨y, i + 1, rfl, by go_num, by omega, NX.out n⟩
          case measure => simp [intOf]; omega
      by_cases k4 : k = 4
      · subst k4
        by_cases hx : x = c
        · have NX := Lib.hid (show On W wr F p kn l R (i + 2) x from ⟨⟨F', D, HV.out, HN.out, step4_yes HT.out rfl hx HR.out, HD.out, by omega⟩, ON.out.turn, ON.out.x64⟩)
          have b1 : (x == c) = true := by simpa using hx
          clear hx
          go_wp2_with fail
          go_roundw
          case rel => exact ⟨x, i + 2, rfl, by go_num, by omega, NX.out⟩
          case measure => simp [intOf]; omega
        · have NX := Lib.hid (show On W wr F p kn l R (i + 1) x from ⟨⟨F', D, HV.out, HN.out, step4_no HT.out rfl hx HR.out, HD.out, by omega⟩, ON.out.turn, ON.out.x64⟩)
          have b1 : (x == c) = false := by simpa using hx
          clear hx
          go_wp2_with fail
          go_roundw
          case rel => exact ⟨x, i + 1, rfl, by go_num, by omega, NX.out⟩
          case measure => simp [intOf]; omega
      have NX := Lib.hid (show On W wr F p kn l R (i + 1) x from ⟨⟨F', D, HV.out, HN.out, step5 HT.out k0 k1 k2 k3 k4 HR.out, HD.out, by omega⟩, ON.out.turn, ON.out.x64⟩)
      have b0 : (k == 0) = false := by simpa using k0
      have b1 : (k == 1) = false := by simpa using k1
      have b2 : (k == 2) = false := by simpa using k2
      have b3 : (k == 3) = false := by simpa using k3
      have b4 : (k == 4) = false := by simpa using k4
      clear k0 k1 k2 k3 k4
      go_wp2_with fail
      go_roundw
      case rel => exact ⟨x, i + 1, rfl, by go_num, by omega, NX.out⟩
      case measure => simp [intOf]; omega
    · have FIN := Lib.hid (on_end ON.out (by omega))
      go_wp2_with fail
      go_end0
      exact FIN.out
end Go.Proofs.Ytjoeminkdafmaaa
