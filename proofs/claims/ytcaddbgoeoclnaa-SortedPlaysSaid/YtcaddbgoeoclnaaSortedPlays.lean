/-
  The walk over SortedPlays.
-/
import Derived.Test.YtcaddbgoeoclnaaSortedLives
import Derived.Test.YtcaddbgoeoclnaaSortedFill
import Derived.Test.YtcaddbgoeoclnaaSortedNth
import Derived.Deep.RegionHeld3
import Derived.Deep.CutRange
import Derived.Deep.CutBlock
import Derived.Deep.DeepMust
namespace Go.Proofs.Ytcaddbgoeoclnaa
open Go.RowKit Go.Sort
set_option linter.unusedVariables false
set_option linter.unusedSimpArgs false

/-- The map and the pairs beside it, apart, in memory of the call's own. -/
structure Pr (w wr : World) (F : Nat → Prop) (p : Nat) (D : List KV) (G : Nat → Prop) (r : Nat) (R : List KV) : Prop where
  a : MapAt wr F p D
  b : RefAt wr G r R
  apart : ∀ x, F x → ¬ G x
  new : ∀ x, F x → w.heap.size ≤ x
  new2 : ∀ x, G x → w.heap.size ≤ x
  more : More w wr
theorem Pr.step {w wr w' : World} {F G : Nat → Prop} {p r : Nat} {D R : List KV} (h : Pr w wr F p D G r R) (m : More wr w') : Pr w w' F p D G r R :=
  ⟨h.a.more m, h.b.more m, h.apart, h.new, h.new2, h.more.trans m⟩
theorem Pr.did {w wr w' : World} {F F' G : Nat → Prop} {p r : Nat} {D D' R : List KV} (h : Pr w wr F p D G r R) (m : MapAt w' F' p D') (t : Turned F wr w') (n : ∀ x, F' x → F x ∨ wr.heap.size ≤ x) : Pr w w' F' p D' G r R :=
  ⟨m, h.b.keep t (fun x hx hy => h.apart x hy hx), fun x hx hy => by
    rcases n x hx with q | q
    · exact h.apart x q hy
    · have := h.b.lt x hy; omega, own_on h.more.size h.new n, h.new2, more_own h.more t h.new⟩
theorem Pr.didR {w wr w' : World} {F G G' : Nat → Prop} {p r : Nat} {D R R' : List KV} (h : Pr w wr F p D G r R) (m : RefAt w' G' r R') (t : Turned G wr w') (n : ∀ x, G' x → G x ∨ wr.heap.size ≤ x) : Pr w w' F p D G' r R' :=
  ⟨h.a.keep t (fun x hx hy => h.apart x hx hy), m, fun x hx hy => by
    rcases n x hy with q | q
    · exact h.apart x hx q
    · have := h.a.lt x hx; omega, h.new, own_on h.more.size h.new2 n, more_own h.more t h.new2⟩
theorem cell_kept {F : Nat → Prop} {W w' : World} {z o : Nat} {v : Value} (t : Turned F W w') (hz : ¬ F z) (h : W.cell? ⟨z, o, none⟩ = some v) : w'.cell? ⟨z, o, none⟩ = some v := by
  rw [World.cell?_of_block (w := W) (Turned.block t z (lt_of_cell h) hz)]; exact h

/-- What the round of a step leaves. -/
def Left (w : World) (n r : Nat) (m : Value) (wc : World) : Prop := ∃ F p D G R, m = .pointer (some ⟨p, 0, none⟩) ∧ Pr w wc F p D G r R ∧ D.Perm R ∧ D.length ≤ n
def nthD (D : List KV) (i : Int) : Option KV := if i < 0 then none else D[i.toNat]?
theorem at_any (F : Nat → Prop) (p : Nat) (D : List KV) (i : Int) (w : World) (h : MapAt w F p D) :
    Calls Try.prog 18 #[.pointer (some ⟨p, 0, none⟩), .int .i64 i] w fun e w' => e = .returned (nthVal (nthD D i)) ∧ ∃ n, w' = w.drewN n := by
  unfold nthD
  by_cases h0 : i < 0 ∨ (D.length : Int) ≤ i
  · have : (if i < 0 then none else D[i.toNat]?) = none := by
      split
      · rfl
      · exact List.getElem?_eq_none (by omega)
    rw [this]
    refine (at_none F p D i w h h0).mono ?_
    rintro e w' ⟨rfl, rfl⟩
    exact ⟨rfl, 0, rfl⟩
  · obtain ⟨n, rfl⟩ : ∃ n : Nat, i = n := ⟨i.toNat, by omega⟩
    rw [if_neg (by omega), Int.toNat_natCast]
    have hn : n < D.length := by omega
    rw [List.getElem?_eq_getElem hn]
    exact at_ok F p D n _ w h (List.getElem?_eq_getElem hn)

/-- Both Puts of a step, each in whatever order. -/
def PutM (w W : World) (F : Nat → Prop) (p : Nat) (D' : List KV) (G : Nat → Prop) (r : Nat) (R : List KV) (b : Bool) (e : Ending) (w' : World) : Prop := e = .returned (.bool b) ∧ ∃ F', Pr w w' F' p D' G r R ∧ Turned F W w' ∧ (∀ x, F' x → F x ∨ W.heap.size ≤ x)
def PutR (w W : World) (F : Nat → Prop) (p : Nat) (D : List KV) (G : Nat → Prop) (r : Nat) (R' : List KV) (b : Bool) (e : Ending) (w' : World) : Prop := e = .returned (.bool b) ∧ ∃ G', Pr w w' F p D G' r R' ∧ Turned G W w' ∧ (∀ x, G' x → G x ∨ W.heap.size ≤ x)
theorem putM {w W : World} {F G : Nat → Prop} {p r : Nat} {D R : List KV} (h : Pr w W F p D G r R) (hs : D.length < 100000) (k : Int) (v : ByteArray) (b : Bool) (hb : (look D k).isNone = b) :
    Calls Try.prog 11 #[.pointer (some ⟨p, 0, none⟩), .int .i64 k, .string v] W (PutM w W F p (putD D k v) G r R b) := by
  refine (put_ok F p D k v W h.a hs).mono ?_
  rintro e w' ⟨rfl, F', m, t, n⟩
  exact ⟨by rw [hb], F', h.did m t n, t, n⟩
theorem putRr {w W : World} {F G : Nat → Prop} {p r : Nat} {D R : List KV} (h : Pr w W F p D G r R) (hs : R.length < 100000) (k : Int) (v : ByteArray) (b : Bool) (hb : (look R k).isNone = b) :
    Calls Try.prog 12 #[.pointer (some ⟨r, 0, none⟩), .int .i64 k, .string v] W (PutR w W F p D G r (putR R k v) b) := by
  refine (rput_ok G r R k v W h.b hs).mono ?_
  rintro e w' ⟨rfl, G', m, t, n⟩
  exact ⟨by rw [hb], G', h.didR m t n, t, n⟩
theorem cutM {w W : World} {F G : Nat → Prop} {p r : Nat} {D R : List KV} (h : Pr w W F p D G r R) (k : Int) (b : Bool) (hb : (look D k).isSome = b) :
    Calls Try.prog 13 #[.pointer (some ⟨p, 0, none⟩), .int .i64 k] W (PutM w W F p (cutD D k) G r R b) := by
  refine (cut_ok F p D k W h.a).mono ?_
  rintro e w' ⟨rfl, F', m, t, n⟩
  exact ⟨by rw [hb], F', h.did m t n, t, n⟩
theorem cutRr {w W : World} {F G : Nat → Prop} {p r : Nat} {D R : List KV} (h : Pr w W F p D G r R) (k : Int) (b : Bool) (hb : (look R k).isSome = b) :
    Calls Try.prog 14 #[.pointer (some ⟨r, 0, none⟩), .int .i64 k] W (PutR w W F p D G r (cutD R k) b) := by
  cases e : look R k with
  | none =>
    rw [e] at hb
    refine (rcut_none G r R k W h.b e).mono ?_
    rintro e w' ⟨rfl, G', m, t, n⟩
    exact ⟨by rw [← hb]; rfl, G', h.didR m t n, t, n⟩
  | some u =>
    rw [e] at hb
    refine (rcut_yes G r R k u W h.b e).mono ?_
    rintro e w' ⟨rfl, G', m, t, n⟩
    exact ⟨by rw [← hb]; rfl, G', h.didR m t n, t, n⟩
theorem new_ref {w W : World} {F : Nat → Prop} {p : Nat} (h : MapAt W F p []) (hn : ∀ x, F x → w.heap.size ≤ x) (hM : More w W) :
    Pr w (W.alloc (.cells #[.slice none 0 0] 30)) F p [] (fun x => x = W.heap.size) W.heap.size [] := by
  have hh := heap_new W (.cells #[.slice none 0 0] 30)
  have m := (More.refl W).alloc (.cells #[.slice none 0 0] 30)
  refine ⟨h.more m, ⟨once_nil, by simp, fun k hk => by subst hk; simp, none, 0, hh, World.ownsRow_nil _ _ _ _, rfl, fun k hk => by cases hk⟩, fun x hx hy => ?_, hn, fun x hx => ?_, hM.trans m⟩
  · have := h.lt x hx; omega
  · have := hM.size; omega

set_option maxRecDepth 100000 in
set_option maxHeartbeats 4000000 in
theorem plays_walk (a : Option Addr) (len cap : Nat) (f : Nat → Act3) (k i : Int) (w : World) (h : IsActs w a len f) (hm : len ≤ 9223372036854775807) :
    Calls Try.prog 3 #[.slice a len cap, .int .i64 k, .int .i64 i] w (Gives w (.bool true)) := by
  have HA := Lib.hid h
  clear h
  go_enter Try.func3, Try.ntmps3
  go_wp2_with fail
  refine (great_ok a len cap f w HA.out hm).mono ?_
  rintro e w0 ⟨hg, h0⟩
  obtain rfl : w = w0 := h0.symm
  rcases hg with rfl | ⟨rfl, hle⟩
  · go_wp2_with (go_at_call 9; refine (lives_ok _).mono ?_; rintro e w1 ⟨rfl, hM⟩; have HM := Lib.hid hM; clear hM)
    go_ret
    exact ⟨rfl, HM.out⟩
  clear h0
  go_wp2_with fail
  refine (new_ok w).mono ?_
  rintro e w1 ⟨F1, p, rfl, m1, M1, n1⟩
  have H1 := Lib.hid m1; have K1 := Lib.hid M1; have N1 := Lib.hid n1
  clear m1 M1 n1
  go_wp2_with fail
  have P1 : Hid (Pr w (w1.alloc (.cells #[.slice none 0 0] 30)) F1 p [] (fun x => x = w1.heap.size) w1.heap.size []) := Lib.hid (new_ref H1.out N1.out K1.out)
  clear H1 N1 K1
  generalize w1.alloc (.cells #[.slice none 0 0] 30) = w2 at P1 ⊢
  generalize w1.heap.size = r at P1 ⊢
  go_loopw [7, 9] (fun m i wr => ∃ j : Nat, j ≤ len ∧ i = .int .i64 (j : Nat) ∧ Left w j r m wr) (fun m i _ => len - (intOf i).toNat)
  case atStart => exact ⟨0, Nat.zero_le _, rfl, F1, p, [], _, [], rfl, P1.out, List.Perm.refl _, Nat.le_refl _⟩
  case round =>
    obtain ⟨j, hj, rfl, F, q, D, G, R, rfl, hP, hperm, hlen⟩ := hrel
    clear P1
    have P2 := Lib.hid hP
    have PERM := Lib.hid hperm
    clear hP hperm
    by_cases hlt : j < len
    · obtain ⟨s, o, rfl, hs, hc⟩ := HA.out.resolve_left (by omega)
      obtain ⟨z0, z1, z2, _⟩ := hc j hlt
      generalize (f j).1 = gj at z0
      generalize (f j).2.1 = kj at z1
      generalize (f j).2.2 = vj at z2
      have y0 := P2.out.more.cell z0
      have y1 := P2.out.more.cell z1
      have y2 := P2.out.more.cell z2
      have hs' := Nat.lt_of_lt_of_le hs P2.out.more.size
      clear z0 z1 z2 hc hs
      go_upto_block 2 with fail
      have PW : Hid (Pr w (wr.alloc (.cells #[.int .i64 gj, .int .i64 kj, .string vj] 32)) F q D G r R) := Lib.hid (P2.out.step ((More.refl wr).alloc _))
      have hb : (wr.alloc (.cells #[.int .i64 gj, .int .i64 kj, .string vj] 32)).heap[wr.heap.size]? = some (.cells #[.int .i64 gj, .int .i64 kj, .string vj] 32 (0, 0)) := heap_new wr _
      have v1 : (wr.alloc (.cells #[.int .i64 gj, .int .i64 kj, .string vj] 32)).cell? ⟨wr.heap.size, 1, none⟩ = some (.int .i64 kj) := by unfold World.cell?; rw [hb]; rfl
      have v2 : (wr.alloc (.cells #[.int .i64 gj, .int .i64 kj, .string vj] 32)).cell? ⟨wr.heap.size, 2, none⟩ = some (.string vj) := by unfold World.cell?; rw [hb]; rfl
      have hzl : wr.heap.size < (wr.alloc (.cells #[.int .i64 gj, .int .i64 kj, .string vj] 32)).heap.size := by simp
      have hzF : ∀ x, F x → x ≠ wr.heap.size := fun x hx e => by have := P2.out.a.lt x hx; omega
      have hzG : ∀ x, G x → x ≠ wr.heap.size := fun x hx e => by have := P2.out.b.lt x hx; omega
      have ZF := Lib.hid hzF; have ZG := Lib.hid hzG
      clear y0 y1 y2 hs' P2 hb hzF hzG
      generalize wr.alloc (.cells #[.int .i64 gj, .int .i64 kj, .string vj] 32) = W at PW v1 v2 hzl ⊢
      generalize wr.heap.size = z at v1 v2 hzl ZF ZG ⊢
      have hsm : D.length < 100000 := by omega
      have hsmR : R.length < 100000 := by rw [← PERM.out.length_eq]; exact hsm
      have LOOK : Hid (look R kj = look D kj) := Lib.hid (perm_look PW.out.a.asc.once PERM.out kj).symm
      go_cut [7] from 33 to 141 (fun m wc => Left w (j + 1) r m wc)
      case first =>
        by_cases g0 : gj = 0
        · subst g0
          have PP : Hid ((putD D kj vj).Perm (putR R kj vj) ∧ (putD D kj vj).length ≤ j + 1) := Lib.hid ⟨perm_put PW.out.a.asc PERM.out kj vj, by have := len_putD_le PW.out.a.asc kj vj; omega⟩
          obtain ⟨b, hb⟩ : ∃ b, b = (look D kj).isNone := ⟨_, rfl⟩
          have HB := Lib.hid hb
          clear hb
          have C11' := Lib.hid (fun W' G' R' (h : Pr w W' F q D G' r R') => putM h hsm kj vj b HB.out.symm)
          have C12 := Lib.hid (fun W' F' D' (h : Pr w W' F' q D' G r R) => putRr h hsmR kj vj b (by rw [LOOK.out]; exact HB.out.symm))
          have Y0 := Lib.hid v1; have Y1 := Lib.hid v2
          have d1 : (b != b) = false := by simp
          go_wp2_with fail
          go_region_held3 (fun w' => w'.cell? ⟨z, 1, none⟩ = some (.int .i64 kj) ∧ w'.cell? ⟨z, 2, none⟩ = some (.string vj))
            (first | exact ⟨Y12a.out, Y12b.out⟩ | exact ⟨Y11a.out, Y11b.out⟩ | exact ⟨Y0.out, Y1.out⟩ | go_keep)
            (first
              | (go_at_call 11
                 refine (C11'.out _ _ _ (by first | exact P12.out | exact PW.out | exact PW.out.step ((More.refl _).drew))).mono ?_
                 rintro e w11 ⟨rfl, F11, p11, t11, n11⟩
                 have P11 := Lib.hid p11
                 have Y11a : Hid (w11.cell? ⟨z, 1, none⟩ = some (.int .i64 kj)) := Lib.hid (by first | exact cell_kept t11 (fun h => ZF.out _ h rfl) Y12a.out | exact cell_kept t11 (fun h => ZF.out _ h rfl) Y0.out)
                 have Y11b : Hid (w11.cell? ⟨z, 2, none⟩ = some (.string vj)) := Lib.hid (by first | exact cell_kept t11 (fun h => ZF.out _ h rfl) Y12b.out | exact cell_kept t11 (fun h => ZF.out _ h rfl) Y1.out)
                 clear p11 t11 n11)
              | (go_at_call 12
                 refine (C12.out _ _ _ (by first | exact P11.out | exact PW.out | exact PW.out.step ((More.refl _).drew))).mono ?_
                 rintro e w12 ⟨rfl, G12, p12, t12, n12⟩
                 have P12 := Lib.hid p12
                 have Y12a : Hid (w12.cell? ⟨z, 1, none⟩ = some (.int .i64 kj)) := Lib.hid (by first | exact cell_kept t12 (fun h => ZG.out _ h rfl) Y11a.out | exact cell_kept t12 (fun h => ZG.out _ h rfl) Y0.out)
                 have Y12b : Hid (w12.cell? ⟨z, 2, none⟩ = some (.string vj)) := Lib.hid (by first | exact cell_kept t12 (fun h => ZG.out _ h rfl) Y11b.out | exact cell_kept t12 (fun h => ZG.out _ h rfl) Y1.out)
                 clear p12 t12 n12))
          all_goals go_wp2_with fail
          all_goals go_meet
          all_goals first
            | exact ⟨_, q, _, _, _, rfl, P12.out, PP.out.1, PP.out.2⟩
            | exact ⟨_, q, _, _, _, rfl, P11.out, PP.out.1, PP.out.2⟩
        · by_cases g1 : gj = 1
          · subst g1
            clear g0
            have PP : Hid ((cutD D kj).Perm (cutD R kj) ∧ (cutD D kj).length ≤ j + 1) := Lib.hid ⟨perm_cut PERM.out kj, by have := len_cutD_le D kj; omega⟩
            obtain ⟨b, hb⟩ : ∃ b, b = (look D kj).isSome := ⟨_, rfl⟩
            have HB := Lib.hid hb
            clear hb
            have C11' := Lib.hid (fun W' G' R' (h : Pr w W' F q D G' r R') => cutM h kj b HB.out.symm)
            have C12 := Lib.hid (fun W' F' D' (h : Pr w W' F' q D' G r R) => cutRr h kj b (by rw [LOOK.out]; exact HB.out.symm))
            have Y0 := Lib.hid v1
            have d1 : (b != b) = false := by simp
            go_wp2_with fail
            go_region_held3 (fun w' => w'.cell? ⟨z, 1, none⟩ = some (.int .i64 kj))
              (first | exact Y12a.out | exact Y11a.out | exact Y0.out | go_keep)
              (first
                | (go_at_call 13
                   refine (C11'.out _ _ _ (by first | exact P12.out | exact PW.out | exact PW.out.step ((More.refl _).drew))).mono ?_
                   rintro e w11 ⟨rfl, F11, p11, t11, n11⟩
                   have P11 := Lib.hid p11
                   have Y11a : Hid (w11.cell? ⟨z, 1, none⟩ = some (.int .i64 kj)) := Lib.hid (by first | exact cell_kept t11 (fun h => ZF.out _ h rfl) Y12a.out | exact cell_kept t11 (fun h => ZF.out _ h rfl) Y0.out)
                   clear p11 t11 n11)
                | (go_at_call 14
                   refine (C12.out _ _ _ (by first | exact P11.out | exact PW.out | exact PW.out.step ((More.refl _).drew))).mono ?_
                   rintro e w12 ⟨rfl, G12, p12, t12, n12⟩
                   have P12 := Lib.hid p12
                   have Y12a : Hid (w12.cell? ⟨z, 1, none⟩ = some (.int .i64 kj)) := Lib.hid (by first | exact cell_kept t12 (fun h => ZG.out _ h rfl) Y11a.out | exact cell_kept t12 (fun h => ZG.out _ h rfl) Y0.out)
                   clear p12 t12 n12))
            all_goals go_wp2_with fail
            all_goals go_meet
            all_goals first
              | exact ⟨_, q, _, _, _, rfl, P12.out, PP.out.1, PP.out.2⟩
              | exact ⟨_, q, _, _, _, rfl, P11.out, PP.out.1, PP.out.2⟩
          · by_cases g2 : gj = 2
            · subst g2
              clear g0 g1
              have Y0 := Lib.hid v1
              clear v1 v2
              go_wp2_with fail
              refine (copy_ok F q D W PW.out.a).mono ?_
              rintro e w3 ⟨Fc, c, rfl, mc, Mc, nc⟩
              have P3 := Lib.hid (PW.out.step Mc)
              have PC : Hid (Pr w w3 Fc c D G r R) := Lib.hid ⟨mc, (PW.out.step Mc).b, fun x hx hy => by have := PW.out.b.lt x hy; have := nc x hx; omega, fun x hx => Nat.le_trans PW.out.more.size (nc x hx), (PW.out.step Mc).new2, (PW.out.step Mc).more⟩
              have DIS : Hid (∀ x, F x → ¬ Fc x) := Lib.hid (fun x hx hy => by have := PW.out.a.lt x hx; have := nc x hy; omega)
              have v1 := Mc.cell Y0.out
              have hz3 := Nat.lt_of_lt_of_le hzl Mc.size
              clear mc Mc nc
              go_wp2_with fail
              refine (put_ok F q D kj _ w3 P3.out.a hsm).mono ?_
              rintro e w4 ⟨rfl, F4, m4, t4, n4⟩
              have P4 := Lib.hid (P3.out.did m4 t4 n4)
              have DIS4 : Hid (∀ x, F4 x → ¬ Fc x) := Lib.hid (fun x hx hy => by
                rcases n4 x hx with h | h
                · exact DIS.out x h hy
                · have := PC.out.a.lt x hy; omega)
              have PC4 : Hid (Pr w w4 Fc c D G r R) := Lib.hid ⟨PC.out.a.keep t4 (fun x hx hy => DIS.out x hy hx), P4.out.b, PC.out.apart, PC.out.new, PC.out.new2, P4.out.more⟩
              clear m4 t4 n4 v1 P3 PC
              go_wp2_with fail
              refine (cut_ok F4 q _ k w4 P4.out.a).mono ?_
              rintro e w5 ⟨rfl, F5, m5, t5, n5⟩
              have P5 := Lib.hid (P4.out.did m5 t5 n5)
              have PC5 : Hid (Pr w w5 Fc c D G r R) := Lib.hid ⟨PC4.out.a.keep t5 (fun x hx hy => DIS4.out x hy hx), P5.out.b, PC4.out.apart, PC4.out.new, PC4.out.new2, P5.out.more⟩
              clear m5 t5 n5 P4 PC4
              go_wp2_with fail
              go_meet
              exact ⟨Fc, c, D, G, R, rfl, PC5.out, PERM.out, by omega⟩
            · have e0 : (gj == 0) = false := by simpa using g0
              have e1 : (gj == 1) = false := by simpa using g1
              have e2 : (gj == 2) = false := by simpa using g2
              clear g0 g1 g2
              go_wp2_with fail
              go_meet
              exact ⟨F, q, D, G, R, rfl, PW.out, PERM.out, by omega⟩
      case rest =>
        obtain ⟨F6, c, E, G6, S, rfl, hP, hperm, hlen6⟩ := hcut
        have P6 := Lib.hid hP
        have PERM6 := Lib.hid hperm
        clear hP hperm PW PERM LOOK ZF ZG hsm hsmR hlen v1 v2 hzl
        have ONCE : Hid (Once E) := Lib.hid P6.out.a.asc.once
        have NTH : Hid (nthR S i = nthD E i) := Lib.hid (nth_perm P6.out.a.asc PERM6.out i)
        have SZ : Hid (E.length = S.length) := Lib.hid PERM6.out.length_eq
        have LK : Hid (look S k = look E k) := Lib.hid (perm_look ONCE.out PERM6.out k).symm
        go_wp2_with fail
        refine (get_ok F6 c E k wc P6.out.a).mono ?_
        rintro e w7 ⟨rfl, n7, rfl⟩
        have P7 : Hid (Pr w (wc.drewN n7) F6 c E G6 r S) := Lib.hid (P6.out.step (more_drewN _ n7))
        clear P6
        generalize wc.drewN n7 = w7 at P7 ⊢
        go_wp2_with fail
        refine (rget_ok G6 r S k w7 P7.out.b).mono ?_
        rw [LK.out]
        rintro e w8 ⟨rfl, h8⟩
        obtain rfl : w8 = w7 := h8
        generalize (look E k).getD ⟨#[]⟩ = gv
        generalize (look E k).isSome = gb
        go_wp2_with fail
        refine (at_any F6 c E i w8 P7.out.a).mono ?_
        rintro e w9 ⟨rfl, n9, rfl⟩
        have P9 : Hid (Pr w (w8.drewN n9) F6 c E G6 r S) := Lib.hid (P7.out.step (more_drewN _ n9))
        clear P7
        generalize w8.drewN n9 = w9 at P9 ⊢
        have CN := Lib.hid (nth_ok G6 r S i)
        rw [NTH.out] at CN
        obtain ⟨yk, yv, yb, hy⟩ : ∃ (yk : Int) (yv : ByteArray) (yb : Bool), nthVal (nthD E i) = .tuple #[.int .i64 yk, .string yv, .bool yb] := by
          cases nthD E i with
          | none => exact ⟨_, _, _, rfl⟩
          | some x => exact ⟨_, _, _, rfl⟩
        rw [hy] at CN ⊢
        clear hy
        go_wp2_with fail
        refine (CN.out w9 P9.out.b).mono ?_
        rintro e w10 ⟨rfl, n10, rfl⟩
        have P10 : Hid (Pr w (w9.drewN n10) F6 c E G6 r S) := Lib.hid (P9.out.step (more_drewN _ n10))
        clear P9 CN
        generalize w9.drewN n10 = w10 at P10 ⊢
        have CL := Lib.hid (fun w h => len_ok F6 c E w h)
        obtain ⟨ra, rc, hr, _⟩ := P10.out.b.ex
        obtain ⟨c0, f0, hrl⟩ := cell_one hr
        rw [← SZ.out] at c0
        clear hr f0
        obtain ⟨n, hn⟩ : ∃ n, n = E.length := ⟨_, rfl⟩
        rw [← hn] at c0 CL
        have HN := Lib.hid hn
        clear hn
        have b1 : (gv.toList != gv.toList) = false := by simp
        have b2 : (gb != gb) = false := by simp
        have b3 : (yk != yk) = false := by simp
        have b4 : (yv.toList != yv.toList) = false := by simp
        have b5 : (yb != yb) = false := by simp
        have b6 : ((n : Int) != (n : Int)) = false := by simp
        go_wp2_with fail
        go_quiet ((go_at_call 20; exact Calls.quiet_of_same (CL.out _ (P10.out.a.more (more_drewN _ _)))))
        go_wp2_with fail
        go_roundw
        case rel => exact ⟨j + 1, by omega, by go_num, F6, c, E, G6, S, rfl, P10.out.step (more_drewN _ _), PERM6.out, hlen6⟩
        case measure => simp [intOf]; omega
    · obtain rfl : j = len := by omega
      clear hlt hj
      have NTH : Hid (∀ t : Nat, nthR R (t : Int) = D[t]?) := Lib.hid (fun t => by rw [nth_perm P2.out.a.asc PERM.out, if_neg (by omega)]; rfl)
      have SZ : Hid (D.length = R.length) := Lib.hid PERM.out.length_eq
      clear PERM
      go_wp2_with fail
      refine (keys_ok F q D wr P2.out.a).mono ?_
      rintro e w3 ⟨ka, kc, rfl, hrow, M3, _⟩
      have P3 := Lib.hid (P2.out.step M3)
      have ROW := Lib.hid hrow
      clear hrow M3 P2
      go_wp2_with fail
      go_loopw [23] (fun i wr => ∃ t : Nat, t ≤ D.length ∧ i = .int .i64 (t : Nat) ∧ Pr w wr F q D G r R ∧ RowAt wr 3 (keyCells D) ka kc) (fun i _ => D.length - (intOf i).toNat)
      case atStart => exact ⟨0, Nat.zero_le _, rfl, P3.out, ROW.out⟩
      case round =>
        obtain ⟨t, ht, rfl, hP, hr⟩ := hrel
        have P4 := Lib.hid hP
        have ROW4 := Lib.hid hr
        clear hP hr P3 ROW
        by_cases hlt : t < D.length
        · obtain ⟨g, rfl, hg, hc, _⟩ := ROW4.out.reads (by rw [keyCells_len]; omega)
          obtain ⟨x, hx⟩ : ∃ x, D[t]? = some x := ⟨_, List.getElem?_eq_getElem hlt⟩
          have x1 : wr.cell? ⟨g, t, none⟩ = some (.int .i64 x.1) := hc _ _ (by unfold keyCells keysOf; simp [hx])
          have CN0 := nth_ok G r R (t : Int) wr P4.out.b
          rw [NTH.out t, hx] at CN0
          obtain ⟨xk, xv⟩ := x
          have CN := Lib.hid CN0
          clear CN0
          have X1 := Lib.hid x1
          simp only [nthVal] at CN X1
          clear hc hx x1
          go_wp2_with fail
          refine CN.out.mono ?_
          rintro e w5 ⟨rfl, n5, rfl⟩
          have P5 : Hid (Pr w (wr.drewN n5) F q D G r R) := Lib.hid (P4.out.step (more_drewN _ n5))
          have ROW5 := Lib.hid (ROW4.out.keep (more_drewN wr n5) (fun _ _ q => q))
          have x1 := (more_drewN wr n5).cell X1.out
          have hg5 := Nat.lt_of_lt_of_le hg (more_drewN wr n5).size
          clear P4 ROW4 X1 hg CN
          generalize wr.drewN n5 = w5 at P5 ROW5 x1 hg5 ⊢
          have b1 : (xk != xk) = false := by simp
          go_wp2_with fail
          go_roundw
          case rel => exact ⟨t + 1, by omega, by go_num, P5.out, ROW5.out⟩
          case measure => simp [intOf]; omega
        · obtain rfl : t = D.length := by omega
          obtain ⟨ra, rc, hr, _⟩ := P4.out.b.ex
          obtain ⟨c0, f0, hrl⟩ := cell_one hr
          rw [← SZ.out] at c0
          have KM := Lib.hid P4.out.more
          clear hr f0 hlt ht P4 ROW4 NTH SZ
          generalize D.length = n at c0 hlen ⊢
          have b6 : ((n : Int) == (n : Int)) = true := by simp
          go_wp2_with (go_at_call 9; refine (lives_ok _).mono ?_; rintro e w9 ⟨rfl, hM⟩; have HM9 := Lib.hid (KM.out.trans hM); clear hM)
          go_ret
          exact ⟨rfl, HM9.out⟩
end Go.Proofs.Ytcaddbgoeoclnaa
