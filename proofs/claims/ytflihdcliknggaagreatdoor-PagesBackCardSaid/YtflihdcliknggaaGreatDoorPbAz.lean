/-
  Layer 11: a block that is grabbed, and returned: the program.
-/
import Derived.Test.YtflihdcliknggaaGreatDoorPbAw
import Derived.Test.YtflihdcliknggaaGreatDoorPbAy
import Derived.Test.YtflihdcliknggaaGreatDoorPbAa
import Derived.ProofKit
import Derived.Deep.Fields
set_option maxRecDepth 100000
set_option maxHeartbeats 8000000
set_option linter.unusedVariables false
set_option linter.unusedSimpArgs false
set_option linter.unusedSectionVars false
namespace Go.Proofs.YtflihdcliknggaaGreatDoor
open Go.RowKit Go.Sort Go.Maps Go.Shelf
structure BkK (c : Cfg) (g1 g2 bt : Nat) (k : Int) (w : World) : Prop where
 h1 : w.heap[g1]? = some (.cells c.arr 28 (0,0))
 h2 : w.heap[g2]? = some (.cells #[.int .i64 k] 3 (0,0))
 sz : SzAt bt w
def BkO (g1 g2 bt k : Nat) : Prop := k = g1 ∨ k = g2 ∨ k = 0 ∨ k = bt
theorem BkK.keep {c : Cfg} {g1 g2 bt : Nat} {k : Int} {S : Nat → Prop} {w w' : World} (h : BkK c g1 g2 bt k w) (t : Turned S w w') (n : ∀ b,BkO g1 g2 bt b → ¬ S b) : BkK c g1 g2 bt k w' :=
 ⟨(t.block _ (lt_of_heap h.h1) (n _ (.inl rfl))).trans h.h1,(t.block _ (lt_of_heap h.h2) (n _ (.inr (.inl rfl)))).trans h.h2,h.sz.keep t (n _ (.inr (.inr (.inl rfl)))) (n _ (.inr (.inr (.inr rfl))))⟩
theorem BkK.lt {c : Cfg} {g1 g2 bt : Nat} {k : Int} {w : World} (h : BkK c g1 g2 bt k w) {b : Nat} (hb : BkO g1 g2 bt b) : b < w.heap.size := by
 rcases hb with rfl | rfl | rfl | rfl
 · exact lt_of_heap h.h1
 · exact lt_of_heap h.h2
 · exact h.sz.lt0
 · exact h.sz.lt
theorem bk_clo {c : Cfg} (R : c.Ok) {n : Nat} (H : HdIn c.pg c.st n) (hn : n ≤ 10000) (F : Nat → Prop) (p g1 g2 g3 bt : Nat) (kn : Int → Option Int) (k : Int) (W0 : World) (hv : ViewAt W0 F p kn []) (hk : OkK kn) (hY : BkK c g1 g2 bt k W0 ∧ ∃ b,BoxB g3 W0 b) (nF : ∀ b,BkO g1 g2 bt b → ¬ F b) (n3 : ¬ F g3) (ne : ∀ b,BkO g1 g2 bt b → b ≠ g3)
   (ht : ∀ z D,bkP c.us c.pg c.st k kn [] = .ok z D → z = true) :
   Calls Tryz.prog 28 #[.pointer (some ⟨p,0,none⟩),.pointer (some ⟨g1,0,none⟩),.pointer (some ⟨g2,0,none⟩),.pointer (some ⟨g3,0,none⟩)] W0 (WentY W0 F (fun b => b = g3) (fun w' => BkK c g1 g2 bt k w' ∧ ∃ b,BoxB g3 w' b) (fun w' => BoxB g3 w' true) p kn (ranOf (bkP c.us c.pg c.st k kn []))) := by
 obtain ⟨Rr,hR⟩ : ∃ Rr,bkP c.us c.pg c.st k kn [] = Rr := ⟨_,rfl⟩
 rw [hR] at ht ⊢
 obtain ⟨hK,b0,h3⟩ := hY
 have l3 := lt_of_heap h3
 have HK := hQQ hk
 have HR := hQQ R
 have HH := hQQ H
 have HN := hQQ hn
 have HT := hQQ ht
 have KT : Hid (∀ wr,Turned (fun b => F b ∨ b = g3) W0 wr → BkK c g1 g2 bt k wr) := hQQ fun wr t => hK.keep t (fun b q => by rintro (z | z); exact nF b q z; exact ne b q z)
 have N3 : Hid (∀ wr D' F',MidV W0 wr F (fun b => b = g3) p kn n D' F' → ¬ F' g3) := hQQ fun wr D' F' h => h.off l3 n3
 have NZ : Hid (∀ wr D' F',MidV W0 wr F (fun b => b = g3) p kn n D' F' → ¬ F' 0 ∧ ¬ F' bt) := hQQ fun wr D' F' h => ⟨h.off (hK.lt (.inr (.inr (.inl rfl)))) (nF _ (.inr (.inr (.inl rfl)))),h.off (hK.lt (.inr (.inr (.inr rfl)))) (nF _ (.inr (.inr (.inr rfl))))⟩
 have NEED : Hid (∀ x w2,Rr = .need x → DeadAt w2 p x → Turned (fun b => F b ∨ b = g3) W0 w2 → (∃ b,BoxB g3 w2 b) → WentY W0 F (fun b => b = g3) (fun w' => BkK c g1 g2 bt k w' ∧ ∃ b,BoxB g3 w' b) (fun w' => BoxB g3 w' true) p kn (ranOf Rr) (.panicked (endOf p)) w2) := hQQ fun x w2 e hd' ht' q =>
   wy_need (ranOf_need e) hd' ht' ⟨KT.out _ ht',q⟩
 have DONE : Hid (∀ w2 D F',Rr = .ok true D → MidV W0 w2 F (fun b => b = g3) p kn n D F' → BoxB g3 w2 b0 → WentY W0 F (fun b => b = g3) (fun w' => BkK c g1 g2 bt k w' ∧ ∃ b,BoxB g3 w' b) (fun w' => BoxB g3 w' true) p kn (ranOf Rr) (.returned (.tuple #[])) (w2.setCell ⟨g3,0,none⟩ (.bool true))) := hQQ fun w2 D F' e h b => by
   have hm := h.box (fun _ => rfl) (N3.out _ _ _ h) (.bool true) b
   have hb : BoxB g3 (w2.setCell ⟨g3,0,none⟩ (.bool true)) true := setCell_one b _
   exact wy_done hm (ranOf_ok e) ⟨KT.out _ hm.turn,_,hb⟩ hb
 have M0 : Hid (MidV W0 W0 F (fun b => b = g3) p kn n [] F) := hQQ (MidV.begin hv (invD_nil n))
 have B0 : Hid (BoxB g3 W0 b0) := hQQ h3
 have R0 := hQQ (show bindP (freeP c.pg c.st k) (fun was => bindP (grabP c.us c.pg c.st k) fun x => bkRest c.us c.pg c.st k was x) kn [] = Rr from hR)
 have K0 := hQQ hK
 have L0 := hQQ hK.h1
 have c20 := (box_cells hK.h2).1
 have Z0 := hQQ (NZ.out _ _ _ M0.out)
 clear hv hk R H hR ht h3 hK nF n3 hn
 go_enter Tryz.func28,Tryz.ntmps28
 go_wp2_with (refine wpList_load_rowG rfl 28 _ rfl _ rfl 28 _ _ _ L0.out Tryz.underlying28 rfl (by kernel_rfl) ?_)
 refine (g_Free HR.out HH.out HN.out F p kn [] k W0 M0.out.view HK.out M0.out.inv bt K0.out.sz Z0.out.1 Z0.out.2).mono ?_
 intro e w1 he
 rcases M0.out.step (More.refl _) HK.out (good_freeP HH.out _) he with ⟨a',hE,rfl,hd',ht',hk'⟩ | ⟨x1,D1,F1,hE,rfl,M1',hq1,hk',hf'⟩
 · exact ⟨rfl,NEED.out a' w1 (R0.out.symm.trans (bindP_need hE)) hd' ht' ⟨_,hk' _ _ (N3.out _ _ _ M0.out) B0.out⟩⟩
 have B1 : Hid (BoxB g3 w1 b0) := hQQ (hk' _ _ (N3.out _ _ _ M0.out) B0.out)
 have R1 := hQQ ((bindP_ok hE).symm.trans R0.out)
 have M1 := hQQ M1'
 have K1 := hQQ (KT.out _ M1'.turn)
 have L1 := hQQ K1.out.h1
 have c21 := (box_cells K1.out.h2).1
 have Z1 := hQQ (NZ.out _ _ _ M1')
 clear he hE hk' hf' hq1 M1'
 clear c20 L0
 go_wp2_with (refine wpList_load_rowG rfl 28 _ rfl _ rfl 28 _ _ _ L1.out Tryz.underlying28 rfl (by kernel_rfl) ?_)
 refine (g_Grab HR.out HH.out HN.out F1 p kn D1 k w1 M1.out.view HK.out M1.out.inv bt K1.out.sz Z1.out.1 Z1.out.2).mono ?_
 intro e w2 he
 rcases M1.out.step (More.refl _) HK.out (good_grab HH.out _ _) he with ⟨a',hE,rfl,hd',ht',hk'⟩ | ⟨x2,D2,F2,hE,rfl,M2',hq2,hk',hf'⟩
 · exact ⟨rfl,NEED.out a' w2 (R1.out.symm.trans (bindP_need hE)) hd' ht' ⟨_,hk' _ _ (N3.out _ _ _ M1.out) B1.out⟩⟩
 have B2 : Hid (BoxB g3 w2 b0) := hQQ (hk' _ _ (N3.out _ _ _ M1.out) B1.out)
 have R2 := hQQ ((bindP_ok hE).symm.trans R1.out)
 have M2 := hQQ M2'
 have K2 := hQQ (KT.out _ M2'.turn)
 have L2 := hQQ K2.out.h1
 have c22 := (box_cells K2.out.h2).1
 have Z2 := hQQ (NZ.out _ _ _ M2')
 clear he hE hk' hf' hq2 M2'
 clear c21 L1
 obtain ⟨xa,xb⟩ := x2
 cases xb with
 | false =>
   have R2 := hQQ (show bindP (backP c.us c.pg c.st xa) (fun r => pureP (!r)) kn D2 = Rr from R2.out)
   go_wp2_with (refine wpList_load_rowG rfl 28 _ rfl _ rfl 28 _ _ _ L2.out Tryz.underlying28 rfl (by kernel_rfl) ?_)
   refine (g_Return HR.out HH.out HN.out F2 p kn D2 xa w2 M2.out.view HK.out M2.out.inv bt K2.out.sz Z2.out.1 Z2.out.2).mono ?_
   intro e w3 he
   rcases M2.out.step (More.refl _) HK.out (good_back HH.out _ _) he with ⟨a',hE,rfl,hd',ht',hk'⟩ | ⟨x3,D3,F3,hE,rfl,M3',hq3,hk',hf'⟩
   · exact ⟨rfl,NEED.out a' w3 (R2.out.symm.trans (bindP_need hE)) hd' ht' ⟨_,hk' _ _ (N3.out _ _ _ M2.out) B2.out⟩⟩
   have B3 : Hid (BoxB g3 w3 b0) := hQQ (hk' _ _ (N3.out _ _ _ M2.out) B2.out)
   have R3 := hQQ ((bindP_ok hE).symm.trans R2.out)
   have M3 := hQQ M3'
   have K3 := hQQ (KT.out _ M3'.turn)
   have L3 := hQQ K3.out.h1
   have c23 := (box_cells K3.out.h2).1
   have Z3 := hQQ (NZ.out _ _ _ M3')
   clear he hE hk' hf' hq3 M3'
   have hx : x3 = false := by have := HT.out _ _ R3.out.symm; cases x3; rfl; simp at this
   subst hx
   have E3 := hQQ (show Rr = .ok true D3 from R3.out.symm)
   clear c22 L2 R3
   obtain ⟨c3,f3,k3⟩ := box_cells B3.out
   obtain ⟨wz,ez⟩ : ∃ wz,w3.setCell ⟨g3,0,none⟩ (.bool true) = wz := ⟨_,rfl⟩
   have FIN := hQQ (DONE.out w3 _ _ E3.out M3.out B3.out)
   rw [ez] at FIN
   go_wp2_with fail
   go_end0
   exact FIN.out
 | true =>
   have R2 := hQQ (show bindP (backP c.us c.pg c.st xa) (fun r1 => if r1 = true then bindP (backP c.us c.pg c.st xa) (fun r2 => if r2 = true then pureP false else bindP (freeP c.pg c.st k) fun f => pureP (f == x1)) else pureP false) kn D2 = Rr from R2.out)
   go_wp2_with (refine wpList_load_rowG rfl 28 _ rfl _ rfl 28 _ _ _ L2.out Tryz.underlying28 rfl (by kernel_rfl) ?_)
   refine (g_Return HR.out HH.out HN.out F2 p kn D2 xa w2 M2.out.view HK.out M2.out.inv bt K2.out.sz Z2.out.1 Z2.out.2).mono ?_
   intro e w3 he
   rcases M2.out.step (More.refl _) HK.out (good_back HH.out _ _) he with ⟨a',hE,rfl,hd',ht',hk'⟩ | ⟨x3,D3,F3,hE,rfl,M3',hq3,hk',hf'⟩
   · exact ⟨rfl,NEED.out a' w3 (R2.out.symm.trans (bindP_need hE)) hd' ht' ⟨_,hk' _ _ (N3.out _ _ _ M2.out) B2.out⟩⟩
   have B3 : Hid (BoxB g3 w3 b0) := hQQ (hk' _ _ (N3.out _ _ _ M2.out) B2.out)
   have R3 := hQQ ((bindP_ok hE).symm.trans R2.out)
   have M3 := hQQ M3'
   have K3 := hQQ (KT.out _ M3'.turn)
   have L3 := hQQ K3.out.h1
   have c23 := (box_cells K3.out.h2).1
   have Z3 := hQQ (NZ.out _ _ _ M3')
   clear he hE hk' hf' hq3 M3'
   clear c22 L2
   cases x3 with
   | false => exact absurd (HT.out false D3 R3.out.symm) (by simp)
   | true =>
     have R3 := hQQ (show bindP (backP c.us c.pg c.st xa) (fun r2 => if r2 = true then pureP false else bindP (freeP c.pg c.st k) fun f => pureP (f == x1)) kn D3 = Rr from R3.out)
     go_wp2_with (refine wpList_load_rowG rfl 28 _ rfl _ rfl 28 _ _ _ L3.out Tryz.underlying28 rfl (by kernel_rfl) ?_)
     refine (g_Return HR.out HH.out HN.out F3 p kn D3 xa w3 M3.out.view HK.out M3.out.inv bt K3.out.sz Z3.out.1 Z3.out.2).mono ?_
     intro e w4 he
     rcases M3.out.step (More.refl _) HK.out (good_back HH.out _ _) he with ⟨a',hE,rfl,hd',ht',hk'⟩ | ⟨x4,D4,F4,hE,rfl,M4',hq4,hk',hf'⟩
     · exact ⟨rfl,NEED.out a' w4 (R3.out.symm.trans (bindP_need hE)) hd' ht' ⟨_,hk' _ _ (N3.out _ _ _ M3.out) B3.out⟩⟩
     have B4 : Hid (BoxB g3 w4 b0) := hQQ (hk' _ _ (N3.out _ _ _ M3.out) B3.out)
     have R4 := hQQ ((bindP_ok hE).symm.trans R3.out)
     have M4 := hQQ M4'
     have K4 := hQQ (KT.out _ M4'.turn)
     have L4 := hQQ K4.out.h1
     have c24 := (box_cells K4.out.h2).1
     have Z4 := hQQ (NZ.out _ _ _ M4')
     clear he hE hk' hf' hq4 M4'
     clear c23 L3
     cases x4 with
     | true => exact absurd (HT.out false D4 R4.out.symm) (by simp)
     | false =>
       have R4 := hQQ (show bindP (freeP c.pg c.st k) (fun f => pureP (f == x1)) kn D4 = Rr from R4.out)
       go_wp2_with (refine wpList_load_rowG rfl 28 _ rfl _ rfl 28 _ _ _ L4.out Tryz.underlying28 rfl (by kernel_rfl) ?_)
       refine (g_Free HR.out HH.out HN.out F4 p kn D4 k w4 M4.out.view HK.out M4.out.inv bt K4.out.sz Z4.out.1 Z4.out.2).mono ?_
       intro e w5 he
       rcases M4.out.step (More.refl _) HK.out (good_freeP HH.out _) he with ⟨a',hE,rfl,hd',ht',hk'⟩ | ⟨x5,D5,F5,hE,rfl,M5',hq5,hk',hf'⟩
       · exact ⟨rfl,NEED.out a' w5 (R4.out.symm.trans (bindP_need hE)) hd' ht' ⟨_,hk' _ _ (N3.out _ _ _ M4.out) B4.out⟩⟩
       have B5 : Hid (BoxB g3 w5 b0) := hQQ (hk' _ _ (N3.out _ _ _ M4.out) B4.out)
       have R5 := hQQ ((bindP_ok hE).symm.trans R4.out)
       have M5 := hQQ M5'
       have K5 := hQQ (KT.out _ M5'.turn)
       have L5 := hQQ K5.out.h1
       have c25 := (box_cells K5.out.h2).1
       have Z5 := hQQ (NZ.out _ _ _ M5')
       clear he hE hk' hf' hq5 M5'
       have hx := HT.out _ _ R5.out.symm
       have E5 := hQQ (show Rr = .ok true D5 from by have := R5.out.symm; rw [show (pureP (x5 == x1) : Prg Bool) kn D5 = .ok (x5 == x1) D5 from rfl,hx] at this; exact this)
       clear c24 L4 R5
       obtain ⟨c3,f3,k3⟩ := box_cells B5.out
       obtain ⟨wz,ez⟩ : ∃ wz,w5.setCell ⟨g3,0,none⟩ (.bool true) = wz := ⟨_,rfl⟩
       have FIN := hQQ (DONE.out w5 _ _ E5.out M5.out B5.out)
       rw [ez] at FIN
       go_wp2_with fail
       go_end0
       exact FIN.out
theorem bk_do {c : Cfg} (R : c.Ok) (hu : 0 < c.us) (zs : List Int) (H : HdIn c.pg c.st zs.length) {G : Int → List Int} (P : PgW c.pg c.st G zs) (hlen : zs.length ≤ 1000) (hz : OkW zs) (k : Int) (w : World) (g1 g2 g3 bt : Nat) (a : Option Addr) (cap : Nat) (hY : BkK c g1 g2 bt k w ∧ ∃ b,BoxB g3 w b) (ne : ∀ b,BkO g1 g2 bt b → b ≠ g3) (hw : IsWords w a zs) :
   ∃ xs,SameP c.pg c.st zs xs ∧ xs.length = zs.length ∧ Calls Tryz.prog 10 #[.slice a zs.length cap,.func (.func 28) #[] #[.pointer (some ⟨g1,0,none⟩),.pointer (some ⟨g2,0,none⟩),.pointer (some ⟨g3,0,none⟩)]] w (fun e w' => ∃ v1 v2,e = .returned (.tuple #[v1,v2,.int .i64 0]) ∧ Rw w.heap.size w' v1 xs ∧ BoxB g3 w' true ∧ Turned (fun b => b = g3) w w') := by
 obtain ⟨xs,hx,hs,hl⟩ := bk_ok H c.us k hu P rfl hz
 refine ⟨xs,hs,hl,?_⟩
 have lo : ∀ b,BkO g1 g2 bt b → b < w.heap.size := fun b hb => hY.1.lt hb
 have l3 : g3 < w.heap.size := by obtain ⟨v,h⟩ := hY.2; exact lt_of_heap h
 have G := good_bk H c.us k
 obtain ⟨K',hK',_,hans⟩ := flat_do (sound_bk c.us c.pg c.st k) G hz (flat_bk H c.us k)
 rw [hx] at hK' hans
 have M := doY_ok a cap zs (fun K => ranOf (bkP c.us c.pg c.st k (look K) [])) (some (xs,K')) zs.length w hw hlen hz (fine_of G hz (by omega)) (by omega) hK' 28 #[.pointer (some ⟨g1,0,none⟩),.pointer (some ⟨g2,0,none⟩),.pointer (some ⟨g3,0,none⟩)] (fun b => b = g3)
   (fun w' => BkK c g1 g2 bt k w' ∧ ∃ b,BoxB g3 w' b) (fun w' => BoxB g3 w' true)
   (fun b q => by subst q; exact l3)
   (fun w' w'' y t => by obtain ⟨y1,v,y2⟩ := y; exact ⟨y1.keep t (fun b hb q => by have := lo b hb; omega),v,(t.block g3 (lt_of_heap y2) (by omega)).trans y2⟩)
   (fun w' w'' y t => (t.block g3 (lt_of_heap y) (by omega)).trans y) hY (enters_of Tryz.func28 (by kernel_rfl) rfl)
   (fun K hK W F p t yy hv hF => bk_clo R H (by omega) F p g1 g2 g3 bt (look K) k W hv (okK_of hK hz) yy (fun b hb q => by have := hF _ q; have := lo b hb; omega) (fun q => by have := hF _ q; omega) ne
     (fun z D e => hans K hK z D e))
 refine M.mono ?_
 rintro e w' ⟨v1,v2,rfl,r1,_,t,_,x⟩
 exact ⟨v1,v2,rfl,r1,x,t⟩
theorem pt_rd {w : World} {g cap : Nat} {zs : List Int} (h : Ws w g cap zs) {i : Int} (h0 : 0 ≤ i) (h1 : i < zs.length) : w.cell? ⟨g,i.toNat,none⟩ = some (.int .i64 (wAt zs i)) := by
 obtain ⟨cur,hg,_,_,_,hc⟩ := h
 have := hc i.toNat (by omega)
 rw [World.cell?]
 simp only [hg]
 simpa [wAt,Array.getElem?_toList] using this
theorem pg_noop {w : World} {g : Nat} {v : Value} {t : TypeId} {fr : Nat × Nat} (h : w.heap[g]? = some (.cells #[v] t fr)) : w.setCell ⟨g,0,none⟩ v = w := by
 unfold World.setCell
 have e : (w.heap.modify g fun x => match x with | .cells c elem frozen => .cells (if ((none : Option Nat)).isSome then c else c.setIfInBounds 0 v) elem frozen | o => o) = w.heap := by
   apply Array.ext
   · simp
   · intro i h1 h2
     rw [Array.getElem_modify]
     split
     · rename_i q
       subst q
       have : w.heap[g] = .cells #[v] t fr := by rw [Array.getElem?_eq_getElem h2] at h; simpa using h
       rw [this]
       simp
     · rfl
 show World.mk _ _ _ _ _ = _
 exact congrArg (fun h => World.mk h w.tape w.drawn w.os w.output) e
theorem pb_walk (y0 y1 y2 y3 y4 y5 y6 y7 y8 y9 y10 : Int) (a : Option Addr) (capl : Nat) (l : List Ins3) (q : Int) (w : World) (hS : Sizes w) (f0 : (Lit.int .i64 y0).wf = true) (f1 : (Lit.int .i64 y1).wf = true) (f2 : (Lit.int .i64 y2).wf = true) (f3 : (Lit.int .i64 y3).wf = true) (f4 : (Lit.int .i64 y4).wf = true) (f5 : (Lit.int .i64 y5).wf = true) (f6 : (Lit.int .i64 y6).wf = true) (f7 : (Lit.int .i64 y7).wf = true) (f8 : (Lit.int .i64 y8).wf = true) (f9 : (Lit.int .i64 y9).wf = true) (f10 : (Lit.int .i64 y10).wf = true) (hl : IsIns w a l) (ho : OkP l) (hm : l.length ≤ 9223372036854775807) (hq : (Lit.int .i64 q).wf = true) :
   Calls Tryz.prog 5 #[.agg #[.int .i64 y0,.int .i64 y1,.int .i64 y2,.int .i64 y3,.int .i64 y4,.int .i64 y5,.int .i64 y6,.int .i64 y7,.int .i64 y8,.int .i64 y9,.int .i64 y10],.slice a l.length capl,.int .i64 q] w (Gives w (.bool true)) := by
 obtain ⟨w2,e2,ha2,hb2,m2,hs2⟩ := entry2 w (.cells #[.int .i64 y0,.int .i64 y1,.int .i64 y2,.int .i64 y3,.int .i64 y4,.int .i64 y5,.int .i64 y6,.int .i64 y7,.int .i64 y8,.int .i64 y9,.int .i64 y10] 23) (.cells #[.int .i64 q] 3)
 obtain ⟨bt,hsz⟩ := hS
 have HSZ : Hid (SzAt bt w) := hQQ hsz
 have sz0 := HSZ.out.lt0
 have szb := HSZ.out.lt
 have HM := hQQ m2
 have HA := hQQ ha2
 have HB := hQQ hb2
 clear ha2 hb2 hsz hq
 by_cases hbig : 60 < l.length
 · have d0 : decide ((60 : Int) < (l.length : Int)) = true := by simp; omega
   clear m2 hs2 HA HB f0 f1 f2 f3 f4 f5 f6 f7 f8 f9 f10
   go_enter Tryz.func5,Tryz.ntmps5
   go_wp2_with fail
   refine (lives11_ok bt _ (HSZ.out.more HM.out)).mono ?_
   rintro e w8 ⟨rfl,h8⟩
   have HM8 := hQQ (HM.out.trans h8)
   clear h8
   go_wp2_with fail
   go_ret
   exact ⟨rfl,HM8.out⟩
 · have d0 : decide ((60 : Int) < (l.length : Int)) = false := by simp; omega
   obtain ⟨d,n,G,zs,bs,S,hn,hlz,hz,P,AF⟩ := ag_ok y0 y1 y2 y3 y4 y5 y6 y7 y8 y9 y10 f0 f1 f2 f3 f4 f5 f6 f7 f8 f9 f10 l (by omega)
   have wds := S.words
   have H := pg_hdin S hn
   have hpos : 0 < d.us := by
     have h2 := userB S.ok
     show 0 < userV _ _ _ _ _
     omega
   have SS := hQQ S
   have PP := hQQ P
   have HZ := hQQ hz
   have HH := hQQ H
   have AO := hQQ (AF.out a capl w2 ⟨bt,HSZ.out.more m2⟩ (hl.more m2))
   have pg1 := H.pg1
   have pg2 := H.pg2
   have hnb : 160 ≤ n ∧ n ≤ 800 := by omega
   clear m2 f0 f1 f2 f3 f4 f5 f6 f7 f8 f9 f10 hl ho hm AF S P hz H hn wds
   go_enter Tryz.func5,Tryz.ntmps5
   go_wp2_with (refine wpList_load_row rfl 23 _ rfl w.heap.size rfl 23 _ _ _ HA.out Tryz.underlying23 rfl (by kernel_rfl) ?_)
   clear e2
   refine AO.out.mono ?_
   rintro e w5 ⟨gz,cz,vb,rfl,hwz,hrb,hgz,m5⟩
   obtain ⟨ab,cb,rfl,_⟩ := hrb.reads
   obtain ⟨w6,e6,hl6,m6,s6⟩ := entry1 w5 (.cells zero24 28)
   have hL7 := setRow_heap _ _ _ d.arr _ _ hl6
   have m7 : More w5 (w6.setRow w5.heap.size d.arr) := m6.setRow _ _ (Nat.le_refl _)
   obtain ⟨w7,e7⟩ : ∃ w7,w6.setRow w5.heap.size d.arr = w7 := ⟨_,rfl⟩
   rw [e7] at hL7 m7
   have s7 : w7.heap.size = w5.heap.size + 1 := by rw [← e7]; simpa using s6
   have hL6 := hQQ hl6
   obtain ⟨w8,e8,hr8,m8,s8⟩ := entry1 w7 (.cells #[.bool false] 4)
   rw [s7] at hr8
   have M8 : Hid (More w w8) := hQQ ((HM.out.trans m5).trans (m7.trans m8))
   have m58 := m7.trans m8
   have LC := hQQ (m8.block hL7)
   have WZ := hQQ (hwz.more m58)
   have QB := hQQ ((m5.trans m58).block HB.out)
   have B8 : Hid (BoxB (w5.heap.size + 1) w8 false) := hQQ hr8
   have h25 := m5.size
   have HDZ : HdIn d.pg d.st zs.length := by rw [hlz]; exact HH.out
   obtain ⟨xs,hsame,hxl,DO⟩ := bk_do SS.out.ok hpos zs HDZ PP.out (by rw [hlz]; omega) HZ.out q w8 w5.heap.size (w.heap.size + 1) (w5.heap.size + 1) bt (some ⟨gz,0,none⟩) cz ⟨⟨LC.out,QB.out,HSZ.out.more M8.out⟩,_,B8.out⟩ (by rintro b (rfl | rfl | rfl | rfl) <;> omega) WZ.out.words
   rw [hlz] at DO hxl
   have DO := hQQ DO
   have SM := hQQ hsame
   obtain ⟨c8,f8,k8⟩ := box_cells hr8
   have n8 : w8.setCell ⟨w5.heap.size + 1,0,none⟩ (.bool false) = w8 := pg_noop hr8
   have hgz5 := hwz.lt
   have nn : (n : Int) = n := rfl
   clear hwz hrb m5 hl6 hL7 m7 hr8 m8 m58 HDZ hsame AO HA HB s6
   go_wp2_with (refine wpList_store_row rfl 28 _ _ rfl w5.heap.size d.arr rfl rfl 28 zero24 hL6.out (by kernel_rfl) rfl (arr_one d) ?_)
   refine DO.out.mono ?_
   rintro e w10 ⟨v1,v2,rfl,hr,hx,t10⟩
   obtain ⟨av,cv,rfl,hrd⟩ := hr.reads
   obtain ⟨gn,rfl,hb1,hb2,_⟩ := hrd 0 (by rw [hxl]; omega)
   have NW := hQQ (Ws.of_rw hr)
   rw [hxl]
   have WZ10 := hQQ (WZ.out.keep t10 (by omega))
   have LC10 := hQQ ((t10.block _ (lt_of_heap LC.out) (by omega)).trans LC.out)
   have BX := hQQ hx
   have M10 : Hid (More w w10) := hQQ (Turned.mono (turned_own (F:=fun _ => False) M8.out t10 (fun b e => .inr (by omega))) (fun _ _ q => q))
   have HXL := hQQ hxl
   have HLZ := hQQ hlz
   have e1 : ((n : Int) != (n : Int)) = false := by simp
   clear hr hrd hx t10 DO c8 f8 k8 e6 e7 e8 n8 LC WZ B8 QB M8 hb1 hb2 hxl hlz
   go_wp2_with fail
   go_loopw [15] (fun i wr => ∃ j : Nat,i = .int .i64 (j : Int) ∧ (j : Int) ≤ d.pg ∧ More w10 wr) (fun i _ => (d.pg - intOf i).toNat)
   case atStart => exact ⟨0,rfl,by omega,More.refl _⟩
   case round =>
     obtain ⟨j,rfl,hj,hM⟩ := hrel
     have MR := hQQ hM
     have LR := hQQ (hM.block LC10.out)
     have HJ := hQQ hj
     clear hM hj
     go_wp2_with (refine wpList_load_row rfl 28 _ rfl w5.heap.size rfl 28 _ _ _ LR.out Tryz.underlying28 rfl (by kernel_rfl) ?_)
     refine (y_config SS.out.ok _).mono ?_
     rintro e w11 ⟨rfl,m11⟩
     have M11 := hQQ (MR.out.trans m11)
     clear m11 MR LR
     have hfl := field_pages d
     by_cases hlt : (j : Int) < d.pg
     · have d1 : decide ((j : Int) < d.pg) = true := by simpa using hlt
       have hpj : isPage d.pg (j : Int) = true := isPage_iff.2 ⟨by omega,hlt⟩
       obtain ⟨k1,k2,k3⟩ := SM.out _ hpj
       have PB := page_b HH.out.toPgIn hpj
       have PC := page_c HH.out hpj
       unfold kindV at k1
       rw [if_pos hpj,if_pos hpj] at k1
       unfold cntV at k2
       unfold bitV at k3
       have b0 := PB.1
       obtain ⟨⟨b1,b2,_⟩,b3,b4,_⟩ := PC
       have NW11 := NW.out.more M11.out
       have WZ11 := WZ10.out.more M11.out
       have x1 := pt_rd NW11 (i:=kA d.pg d.st j) (by omega) (by rw [HXL.out]; omega)
       have x2 := pt_rd NW11 (i:=cA d.pg d.st j) b1 (by rw [HXL.out]; exact b2)
       have x3 := pt_rd NW11 (i:=bA d.pg d.st j) b3 (by rw [HXL.out]; exact b4)
       have z1 := pt_rd WZ11 (i:=kA d.pg d.st j) (by omega) (by rw [HLZ.out]; omega)
       have z2 := pt_rd WZ11 (i:=cA d.pg d.st j) b1 (by rw [HLZ.out]; exact b2)
       have z3 := pt_rd WZ11 (i:=bA d.pg d.st j) b3 (by rw [HLZ.out]; exact b4)
       rw [k1] at x1
       rw [k2] at x2
       rw [k3] at x3
       have YK := hQQ (fun W => by have := y_kind SS.out.ok W (j : Int); rw [page0 hpj] at this; exact this)
       have YC := hQQ (fun W => by have := g_countA SS.out.ok W (j : Int); rw [page1 hpj] at this; exact this)
       have YB := hQQ (fun W => by have := g_bitsA SS.out.ok W (j : Int); rw [page2 hpj] at this; exact this)
       obtain ⟨ka,hka⟩ : ∃ ka : Nat,kA d.pg d.st j = (ka : Int) := ⟨(kA d.pg d.st j).toNat,by omega⟩
       obtain ⟨ca,hca⟩ : ∃ ca : Nat,cA d.pg d.st j = (ca : Int) := ⟨(cA d.pg d.st j).toNat,by omega⟩
       obtain ⟨ba,hba⟩ : ∃ ba : Nat,bA d.pg d.st j = (ba : Int) := ⟨(bA d.pg d.st j).toNat,by omega⟩
       have l1 : ka < n := by omega
       have l2 : ca < n := by omega
       have l3 : ba < n := by omega
       rw [hka] at x1 z1 YK
       rw [hca] at x2 z2 YC
       rw [hba] at x3 z3 YB
       simp only [Int.toNat_natCast] at x1 x2 x3 z1 z2 z3
       generalize wAt zs (ka : Int) = va at x1 z1
       generalize wAt zs (ca : Int) = vc at x2 z2
       generalize wAt zs (ba : Int) = vd at x3 z3
       have dl1 : decide ((ka : Int) < (n : Int)) = true := by simp; omega
       have dl2 : decide ((ca : Int) < (n : Int)) = true := by simp; omega
       have dl3 : decide ((ba : Int) < (n : Int)) = true := by simp; omega
       have LL := hQQ (M11.out.block LC10.out)
       clear k1 k2 k3 PB b0 b1 b2 b3 b4 NW11 WZ11 hka hca hba hpj
       go_wp2_with fail
       refine wp_region_more (by kernel_rfl) (by kernel_rfl) ?_
       iterate 1
         with_reducible refine wpQuiet_step (fun K hK => ?_)
         go_simp
         first
         | (refine hK _ ?_; clear hK K)
         | (apply Exists.intro
            refine ⟨fun W hW => ?_,hK _ ?_⟩
            first
            | (go_simp; try rfl)
            clear hK K)
       refine wpQuiet_load_row rfl 28 _ rfl _ rfl 28 _ _ _ (fun W hW => hW.block LL.out) Tryz.underlying28 rfl (by kernel_rfl) ?_
       iterate 1
         with_reducible refine wpQuiet_step (fun K hK => ?_)
         go_simp
         first
         | (refine hK _ ?_; clear hK K)
         | (apply Exists.intro
            refine ⟨fun W hW => ?_,hK _ ?_⟩
            first
            | (go_simp; try rfl)
            clear hK K)
       iterate 1
         with_reducible refine wpQuiet_step (fun K hK => ?_)
         go_simp
         first
         | (refine hK _ ?_; clear hK K)
         | (apply Exists.intro
            refine ⟨fun W hW => ?_,hK _ ?_⟩
            first
            | (go_at_call 18; exact Calls.more hW (YK.out W))
            | (go_simp; try rfl)
            clear hK K)
       iterate 3
         with_reducible refine wpQuiet_step (fun K hK => ?_)
         go_simp
         first
         | (refine hK _ ?_; clear hK K)
         | (apply Exists.intro
            refine ⟨fun W hW => ?_,hK _ ?_⟩
            first
            | (have x1' := hW.cell x1; go_simp; try rfl)
            clear hK K)
       refine wpQuiet_load_row rfl 28 _ rfl _ rfl 28 _ _ _ (fun W hW => hW.block LL.out) Tryz.underlying28 rfl (by kernel_rfl) ?_
       iterate 1
         with_reducible refine wpQuiet_step (fun K hK => ?_)
         go_simp
         first
         | (refine hK _ ?_; clear hK K)
         | (apply Exists.intro
            refine ⟨fun W hW => ?_,hK _ ?_⟩
            first
            | (go_simp; try rfl)
            clear hK K)
       iterate 1
         with_reducible refine wpQuiet_step (fun K hK => ?_)
         go_simp
         first
         | (refine hK _ ?_; clear hK K)
         | (apply Exists.intro
            refine ⟨fun W hW => ?_,hK _ ?_⟩
            first
            | (go_at_call 18; exact Calls.more hW (YK.out W))
            | (go_simp; try rfl)
            clear hK K)
       iterate 5
         with_reducible refine wpQuiet_step (fun K hK => ?_)
         go_simp
         first
         | (refine hK _ ?_; clear hK K)
         | (apply Exists.intro
            refine ⟨fun W hW => ?_,hK _ ?_⟩
            first
            | (have z1' := hW.cell z1; go_simp; try rfl)
            clear hK K)
       refine wpQuiet_load_row rfl 28 _ rfl _ rfl 28 _ _ _ (fun W hW => hW.block LL.out) Tryz.underlying28 rfl (by kernel_rfl) ?_
       iterate 1
         with_reducible refine wpQuiet_step (fun K hK => ?_)
         go_simp
         first
         | (refine hK _ ?_; clear hK K)
         | (apply Exists.intro
            refine ⟨fun W hW => ?_,hK _ ?_⟩
            first
            | (go_simp; try rfl)
            clear hK K)
       iterate 1
         with_reducible refine wpQuiet_step (fun K hK => ?_)
         go_simp
         first
         | (refine hK _ ?_; clear hK K)
         | (apply Exists.intro
            refine ⟨fun W hW => ?_,hK _ ?_⟩
            first
            | (go_at_call 31; exact Calls.more hW (YC.out W))
            | (go_simp; try rfl)
            clear hK K)
       iterate 3
         with_reducible refine wpQuiet_step (fun K hK => ?_)
         go_simp
         first
         | (refine hK _ ?_; clear hK K)
         | (apply Exists.intro
            refine ⟨fun W hW => ?_,hK _ ?_⟩
            first
            | (have x2' := hW.cell x2; go_simp; try rfl)
            clear hK K)
       refine wpQuiet_load_row rfl 28 _ rfl _ rfl 28 _ _ _ (fun W hW => hW.block LL.out) Tryz.underlying28 rfl (by kernel_rfl) ?_
       iterate 1
         with_reducible refine wpQuiet_step (fun K hK => ?_)
         go_simp
         first
         | (refine hK _ ?_; clear hK K)
         | (apply Exists.intro
            refine ⟨fun W hW => ?_,hK _ ?_⟩
            first
            | (go_simp; try rfl)
            clear hK K)
       iterate 1
         with_reducible refine wpQuiet_step (fun K hK => ?_)
         go_simp
         first
         | (refine hK _ ?_; clear hK K)
         | (apply Exists.intro
            refine ⟨fun W hW => ?_,hK _ ?_⟩
            first
            | (go_at_call 31; exact Calls.more hW (YC.out W))
            | (go_simp; try rfl)
            clear hK K)
       iterate 6
         with_reducible refine wpQuiet_step (fun K hK => ?_)
         go_simp
         first
         | (refine hK _ ?_; clear hK K)
         | (apply Exists.intro
            refine ⟨fun W hW => ?_,hK _ ?_⟩
            first
            | (have z2' := hW.cell z2; go_simp; try rfl)
            clear hK K)
       refine wpQuiet_load_row rfl 28 _ rfl _ rfl 28 _ _ _ (fun W hW => hW.block LL.out) Tryz.underlying28 rfl (by kernel_rfl) ?_
       iterate 1
         with_reducible refine wpQuiet_step (fun K hK => ?_)
         go_simp
         first
         | (refine hK _ ?_; clear hK K)
         | (apply Exists.intro
            refine ⟨fun W hW => ?_,hK _ ?_⟩
            first
            | (go_simp; try rfl)
            clear hK K)
       iterate 1
         with_reducible refine wpQuiet_step (fun K hK => ?_)
         go_simp
         first
         | (refine hK _ ?_; clear hK K)
         | (apply Exists.intro
            refine ⟨fun W hW => ?_,hK _ ?_⟩
            first
            | (go_at_call 22; exact Calls.more hW (YB.out W))
            | (go_simp; try rfl)
            clear hK K)
       iterate 3
         with_reducible refine wpQuiet_step (fun K hK => ?_)
         go_simp
         first
         | (refine hK _ ?_; clear hK K)
         | (apply Exists.intro
            refine ⟨fun W hW => ?_,hK _ ?_⟩
            first
            | (have x3' := hW.cell x3; go_simp; try rfl)
            clear hK K)
       refine wpQuiet_load_row rfl 28 _ rfl _ rfl 28 _ _ _ (fun W hW => hW.block LL.out) Tryz.underlying28 rfl (by kernel_rfl) ?_
       iterate 1
         with_reducible refine wpQuiet_step (fun K hK => ?_)
         go_simp
         first
         | (refine hK _ ?_; clear hK K)
         | (apply Exists.intro
            refine ⟨fun W hW => ?_,hK _ ?_⟩
            first
            | (go_simp; try rfl)
            clear hK K)
       iterate 1
         with_reducible refine wpQuiet_step (fun K hK => ?_)
         go_simp
         first
         | (refine hK _ ?_; clear hK K)
         | (apply Exists.intro
            refine ⟨fun W hW => ?_,hK _ ?_⟩
            first
            | (go_at_call 22; exact Calls.more hW (YB.out W))
            | (go_simp; try rfl)
            clear hK K)
       iterate 4
         with_reducible refine wpQuiet_step (fun K hK => ?_)
         go_simp
         first
         | (refine hK _ ?_; clear hK K)
         | (apply Exists.intro
            refine ⟨fun W hW => ?_,hK _ ?_⟩
            first
            | (have z3' := hW.cell z3; go_simp; try rfl)
            clear hK K)
       refine wpQuiet_nil ?_
       intro w12 m12
       have M12 := hQQ (M11.out.trans m12)
       clear m12 x1 x2 x3 z1 z2 z3
       go_wp2_with fail
       refine ⟨⟨j + 1,by go_num,by omega,M12.out⟩,?_⟩
       simp [intOf]; omega
     · have d1 : decide ((j : Int) < d.pg) = false := by simpa using hlt
       have c9 := (box_cells (M11.out.block BX.out)).1
       have MW := hQQ (M10.out.trans M11.out)
       go_wp2_with fail
       refine (lives11_ok bt _ (HSZ.out.more MW.out)).mono ?_
       rintro e w12 ⟨rfl,h12⟩
       have M12 := hQQ (MW.out.trans h12)
       clear h12
       go_wp2_with fail
       go_ret
       exact ⟨rfl,M12.out⟩
end Go.Proofs.YtflihdcliknggaaGreatDoor
namespace Go.Proofs.YtflihdcliknggaaGreatDoor
open Go.ChangeShapes Go.WideShapes Go.ChangeAt Go.RowKit Go.Deep
section
variable {H : Type} {enc : TypeId × Value → H} {P : Program} {w : World} {base : Nat} {spare : Nat → Bool} {held : Bool}
theorem open_int_struct {r : Reach} {b0 : Nat} {t T : TypeId} {fs : Array Field} {v : Value} {d : DataW H} {p : List MemPlace} (hs : P.underlying t = some (.struct fs)) (hone : oneCellFields P fs = true) (hC : P.cellsOf t = fs.size)
   (hT : (fs.all fun f => f.type == T) = true) (u : P.underlying T = some (.int .i64)) (hv : Value.okWide P w r b0 t v) (h : DataW.Trod enc P w base spare held t v d p) :
   ∃ xs : List Int,xs.length = fs.size ∧ v = .agg (xs.map (Value.int .i64)).toArray ∧ ∀ x ∈ xs,(Lit.int .i64 x).wf = true := by
 obtain ⟨cs,rfl,hsz⟩ := okWide_struct hs hv
 obtain ⟨fuel,hf⟩ := h
 obtain ⟨ys,n,_,_,_,hlen,hg⟩ := DataW.trod_struct hs hf
 have key : ∀ j,j < cs.toList.length → ∃ x : Int,cs.toList[j]? = some (.int .i64 x) ∧ (Lit.int .i64 x).wf = true := by
   intro j hj
   have hj' : j < fs.size := by simp at hj; omega
   have hfj : fs[j]? = some fs[j] := by simp [hj']
   obtain ⟨ho,hk⟩ := hone_of hone j _ hfj
   have ht : fs[j].type = T := by
     have := Array.all_eq_true.1 hT j hj'
     simpa using this
   have h1 := hg j _ hfj
   rw [ho,hk] at h1
   have hys : ys[j]? = some (ys[j]'(by omega)) := List.getElem?_eq_getElem (by omega)
   rw [hys] at h1
   obtain ⟨x,e,_,wx⟩ := DataW.trod_int (by rw [ht]; exact u) h1
   refine ⟨x,?_,wx⟩
   have e' : (cs.toList.drop j).take 1 = [.int .i64 x] := by simpa [Value.cells] using e
   rw [List.drop_eq_getElem_cons hj] at e'
   simp at e'
   rw [List.getElem?_eq_getElem hj]
   simp [e']
 have hall : ∀ l : List Value,(∀ j,j < l.length → ∃ x : Int,l[j]? = some (.int .i64 x) ∧ (Lit.int .i64 x).wf = true) → ∃ xs : List Int,xs.length = l.length ∧ l = xs.map (Value.int .i64) ∧ ∀ x ∈ xs,(Lit.int .i64 x).wf = true := by
   intro l
   induction l with
   | nil => intro _; exact ⟨[],rfl,rfl,by simp⟩
   | cons a l ih =>
     intro hl
     obtain ⟨x,hx,wx⟩ := hl 0 (by simp)
     obtain ⟨xs,h1,h2,h3⟩ := ih (fun j hj => by have := hl (j + 1) (by simp; omega); simpa using this)
     simp at hx
     exact ⟨x :: xs,by simp [h1],by simp [hx,← h2],by intro z hz; rcases List.mem_cons.1 hz with q | q; (rw [q]; exact wx); exact h3 z q⟩
 obtain ⟨xs,h1,h2,h3⟩ := hall cs.toList key
 refine ⟨xs,by simp at h1; omega,?_,h3⟩
 rw [← h2]
end
theorem list11 {l : List Int} (h : l.length = 11) : ∃ x0 x1 x2 x3 x4 x5 x6 x7 x8 x9 x10,l = [x0,x1,x2,x3,x4,x5,x6,x7,x8,x9,x10] := by
 match l,h with
 | [x0,x1,x2,x3,x4,x5,x6,x7,x8,x9,x10],_ => exact ⟨x0,x1,x2,x3,x4,x5,x6,x7,x8,x9,x10,rfl⟩
end Go.Proofs.YtflihdcliknggaaGreatDoor
