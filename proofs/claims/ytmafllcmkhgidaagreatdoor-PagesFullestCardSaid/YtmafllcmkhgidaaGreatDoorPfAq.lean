/-
  Layer 11's statements begin with any steps: the program that does them.
-/
import Derived.Test.YtmafllcmkhgidaaGreatDoorPfAp
set_option maxRecDepth 100000
set_option maxHeartbeats 8000000
set_option linter.unusedVariables false
set_option linter.unusedSimpArgs false
set_option linter.unusedSectionVars false
namespace Go.Proofs.YtmafllcmkhgidaaGreatDoor
open Go.RowKit Go.Sort Go.Maps Go.Shelf
def nextB (kind : Int) (x : V4) (ad : Int) (bs : List Int) : List Int :=
 if kind = 0 ∨ kind = 1 then (if x.2.1 = 1 then bs ++ [x.1] else bs) else if kind = 2 ∨ kind = 3 then (if x.1 = 1 then bs.filter fun b => b != ad else bs) else bs
def paftG (us pg st : Int) : List Ins3 → List Int → Prg (List Int)
 | [],bs => pureP bs
 | (kind,k,m) :: t,bs => bindP (gdoneP us pg st kind k (atV us bs kind m)) fun x => paftG us pg st t (nextB kind x (atV us bs kind m) bs)
theorem sound_paftG (us pg st : Int) : ∀ l bs,Sound (paftG us pg st l bs)
 | [],bs => sound_pure _
 | (kind,k,m) :: t,bs => sound_bind (sound_gdone _ _ _ _ _ _) fun x => sound_paftG us pg st t _
def paftGV (us pg st : Int) : List Ins3 → List Int → List Int → List Int × List Int
 | [],bs,ws => (bs,ws)
 | (kind,k,m) :: t,bs,ws => paftGV us pg st t (nextB kind (gdoneV us pg st kind k (atV us bs kind m) ws).1 (atV us bs kind m) bs) (gdoneV us pg st kind k (atV us bs kind m) ws).2
section
variable {pg st : Int} {n : Nat} (H : HdIn pg st n)
include H
theorem good_paftG (us : Int) : ∀ l bs,Good n (fun _ => True) (paftG us pg st l bs)
 | [],bs => good_pure n trivial
 | (kind,k,m) :: t,bs => good_bind (good_gdone H _ _ _ _) fun x _ => good_paftG us t _
theorem flat_paftG (us : Int) : ∀ l bs,Flat n (paftG us pg st l bs) (paftGV us pg st l bs)
 | [],bs => flat_pure n _
 | (kind,k,m) :: t,bs => flat_bind (flat_gdone H us kind k (atV us bs kind m)) fun x => flat_paftG us t _
theorem paftG_keep (us : Int) : ∀ (l : List Ins3) (bs ws : List Int) (G : Int → List Int),PgW pg st G ws → ws.length = n → OkW ws → ∃ G',PgW pg st G' (paftGV us pg st l bs ws).2 ∧ (paftGV us pg st l bs ws).2.length = n ∧ OkW (paftGV us pg st l bs ws).2
 | [],bs,ws,G,P,hn,ho => ⟨G,P,hn,ho⟩
 | (kind,k,m) :: t,bs,ws,G,P,hn,ho => by
   obtain ⟨G1,P1⟩ := gdone_keep H us kind k (atV us bs kind m) P hn ho
   obtain ⟨o1,n1⟩ := gdone_words H us kind k (atV us bs kind m) hn ho
   exact paftG_keep us t _ _ G1 P1 n1 o1
end
def BoxG (g : Nat) (w : World) (v : Value) : Prop := w.heap[g]? = some (.cells #[v] 30 (0,0))
structure AfK (c : Cfg) (a : Option Addr) (capl : Nat) (l : List Ins3) (g2 g3 bt : Nat) (w : World) : Prop where
 h2 : w.heap[g2]? = some (.cells #[.slice a l.length capl] 24 (0,0))
 h3 : w.heap[g3]? = some (.cells c.arr 28 (0,0))
 ins : IsIns w a l
 sz : SzAt bt w
def AfO (a : Option Addr) (l : List Ins3) (g2 g3 bt k : Nat) : Prop := k = g2 ∨ k = g3 ∨ k = 0 ∨ k = bt ∨ (l ≠ [] ∧ leads a k)
section
variable {c : Cfg} {a : Option Addr} {capl : Nat} {l : List Ins3} {g2 g3 bt : Nat} {w w' : World}
theorem AfK.keep {S : Nat → Prop} (h : AfK c a capl l g2 g3 bt w) (t : Turned S w w') (n : ∀ k,AfO a l g2 g3 bt k → ¬ S k) : AfK c a capl l g2 g3 bt w' :=
 ⟨(t.block _ (lt_of_heap h.h2) (n _ (.inl rfl))).trans h.h2,(t.block _ (lt_of_heap h.h3) (n _ (.inr (.inl rfl)))).trans h.h3,h.ins.keepN t (fun e k hk => n k (.inr (.inr (.inr (.inr ⟨e,hk⟩))))),h.sz.keep t (n _ (.inr (.inr (.inl rfl)))) (n _ (.inr (.inr (.inr (.inl rfl)))))⟩
theorem AfK.lt (h : AfK c a capl l g2 g3 bt w) {k : Nat} (hk : AfO a l g2 g3 bt k) : k < w.heap.size := by
 rcases hk with rfl | rfl | rfl | rfl | ⟨e,hk⟩
 · exact lt_of_heap h.h2
 · exact lt_of_heap h.h3
 · exact h.sz.lt0
 · exact h.sz.lt
 · exact h.ins.lt e k hk
end
theorem AfK.at {c : Cfg} {s o capl : Nat} {l : List Ins3} {g2 g3 bt : Nat} {w : World} (h : AfK c (some ⟨s,o,none⟩) capl l g2 g3 bt w) {j : Nat} {t : Ins3} (hj : l[j]? = some t) : w.cell? ⟨s,o + j * 3,none⟩ = some (.int .i64 t.1) ∧ w.cell? ⟨s,o + j * 3 + 1,none⟩ = some (.int .i64 t.2.1) ∧ w.cell? ⟨s,o + j * 3 + 2,none⟩ = some (.int .i64 t.2.2) := by
 rcases h.ins with e | ⟨s',o',e,_,hc⟩
 · rw [e] at hj; simp at hj
 · simp at e
   obtain ⟨rfl,rfl⟩ := e
   exact hc j t hj
def AfY (c : Cfg) (a : Option Addr) (capl : Nat) (l : List Ins3) (g1 g2 g3 bt : Nat) (w : World) : Prop := AfK c a capl l g2 g3 bt w ∧ ∃ v,BoxG g1 w v
def AfX (b g1 : Nat) (bs : List Int) (w : World) : Prop := ∃ v,BoxG g1 w v ∧ Rw b w v bs
theorem MidV.rowT {W wr w2 : World} {F S F' : Nat → Prop} {p n : Nat} {kn : Int → Option Int} {D : List KV} {v : Value} {bs : List Int} {b : Nat} (h : MidV W wr F S p kn n D F') (O : OwnR b F' wr v bs) (hb : W.heap.size ≤ b) (t : Turned (fun k => v.ownBlock = some k) wr w2) : MidV W w2 F S p kn n D F' :=
 ⟨h.view.keepS t (fun k q e => (O.2 k e).1 q) (fun k es cl e q => by
     rcases O.1.2 with ⟨rfl,_⟩ | ⟨g,cap,cur,rfl,_,hg,_⟩
     · cases e
     · have : g = k := by simpa [Value.ownBlock] using e
       subst this
       rw [hg] at q; cases q),h.from',turned_own h.turn t (fun k q => .inr (by have := (O.2 k q).2.1; omega)),h.inv⟩
theorem OwnR.set' {b g : Nat} {F : Nat → Prop} {w w' : World} {v : Value} {xs : List Int} (h : Rw b w v xs) (t : Turned (fun q => q = g) w w') (n : ∀ q,v.ownBlock = some q → ¬ F q ∧ q ≠ g) : OwnR b F w' v xs :=
 ⟨h.keepT t (fun q hq e => (n q hq).2 e),fun q hq => ⟨(n q hq).1,(h.own hq).1,Nat.lt_of_lt_of_le (h.own hq).2 t.size⟩⟩
theorem af_clo {c : Cfg} (R : c.Ok) {n : Nat} (H : HdIn c.pg c.st n) (hn : n ≤ 10000) (F : Nat → Prop) (p g1 g2 g3 bt : Nat) (kn : Int → Option Int) (a : Option Addr) (capl : Nat) (l : List Ins3) (hll : l.length ≤ 1000) (bsF : List Int) (W0 : World) (hv : ViewAt W0 F p kn []) (hk : OkK kn) (hY : AfY c a capl l g1 g2 g3 bt W0) (nF : ∀ k,AfO a l g2 g3 bt k → ¬ F k) (n1 : ¬ F g1) (ne : ∀ k,AfO a l g2 g3 bt k → k ≠ g1)
   (ht : ∀ z D,paftG c.us c.pg c.st l [] kn [] = .ok z D → z = bsF) :
   Calls Tryz.prog 25 #[.pointer (some ⟨p,0,none⟩),.pointer (some ⟨g1,0,none⟩),.pointer (some ⟨g2,0,none⟩),.pointer (some ⟨g3,0,none⟩)] W0 (WentY W0 F (fun b => b = g1) (fun w' => AfY c a capl l g1 g2 g3 bt w') (fun w' => AfX W0.heap.size g1 bsF w') p kn (ranOf (paftG c.us c.pg c.st l [] kn []))) := by
 obtain ⟨Rr,hR⟩ : ∃ Rr,paftG c.us c.pg c.st l [] kn [] = Rr := ⟨_,rfl⟩
 rw [hR] at ht ⊢
 obtain ⟨hK,v0,h1⟩ := hY
 have l1 := lt_of_heap h1
 have HK := hQQ hk
 have HR := hQQ R
 have HH := hQQ H
 have HN := hQQ hn
 have KT : Hid (∀ wr,Turned (fun b => F b ∨ b = g1) W0 wr → AfK c a capl l g2 g3 bt wr) := hQQ fun wr t => hK.keep t (fun k q => by rintro (z | z); exact nF k q z; exact ne k q z)
 have N1 : Hid (∀ wr D' F',MidV W0 wr F (fun b => b = g1) p kn n D' F' → ¬ F' g1) := hQQ fun wr D' F' h => h.off l1 n1
 have NZ : Hid (∀ wr D' F',MidV W0 wr F (fun b => b = g1) p kn n D' F' → ¬ F' 0 ∧ ¬ F' bt) := hQQ fun wr D' F' h => ⟨h.off (hK.lt (.inr (.inr (.inl rfl)))) (nF _ (.inr (.inr (.inl rfl)))),h.off (hK.lt (.inr (.inr (.inr (.inl rfl))))) (nF _ (.inr (.inr (.inr (.inl rfl)))))⟩
 have NEED : Hid (∀ x w2,Rr = .need x → DeadAt w2 p x → Turned (fun b => F b ∨ b = g1) W0 w2 → (∃ v,BoxG g1 w2 v) → WentY W0 F (fun b => b = g1) (fun w' => AfY c a capl l g1 g2 g3 bt w') (fun w' => AfX W0.heap.size g1 bsF w') p kn (ranOf Rr) (.panicked (endOf p)) w2) := hQQ fun x w2 e hd' ht' q =>
   wy_need (ranOf_need e) hd' ht' ⟨KT.out _ ht',q⟩
 have DONE : Hid (∀ x w2 D F' v,Rr = .ok x D → MidV W0 w2 F (fun b => b = g1) p kn n D F' → BoxG g1 w2 v → Rw W0.heap.size w2 v x → WentY W0 F (fun b => b = g1) (fun w' => AfY c a capl l g1 g2 g3 bt w') (fun w' => AfX W0.heap.size g1 bsF w') p kn (ranOf Rr) (.returned (.tuple #[])) w2) := hQQ fun x w2 D F' v e h b r => by
   have := ht x D e
   subst this
   exact wy_done h (ranOf_ok e) ⟨KT.out _ h.turn,_,b⟩ ⟨_,b,r⟩
 have US : Hid (∀ W,Calls Tryz.prog 23 #[.agg c.arr] W (Gives W (.int .i64 c.us))) := hQQ fun W => xuser HR.out W
 have M0 : Hid (MidV W0 W0 F (fun b => b = g1) p kn n [] F) := hQQ (MidV.begin hv (invD_nil n))
 have HL := hQQ hll
 have HRr := hQQ hR
 have B0 : Hid (BoxG g1 W0 v0) := hQQ h1
 obtain ⟨c1,f1,k1⟩ := box_cells h1
 obtain ⟨w1,e1⟩ : ∃ w1,W0.setCell ⟨g1,0,none⟩ (.slice none 0 0) = w1 := ⟨_,rfl⟩
 have M1 : Hid (MidV W0 w1 F (fun b => b = g1) p kn n [] F) := hQQ (by rw [← e1]; exact M0.out.box (fun _ => rfl) (N1.out _ _ _ M0.out) _ B0.out)
 have B1 : Hid (BoxG g1 w1 (.slice none 0 0)) := hQQ (by rw [← e1]; exact setCell_one B0.out _)
 clear hv hk R H hR ht h1 hK nF n1 hn hll
 go_enter Tryz.func25,Tryz.ntmps25
 go_wp2_with fail
 clear c1 f1 k1 e1 B0
 go_loopw [5] (fun i wr => ∃ (j : Nat) (v : Value) (bs : List Int) (D : List KV) (F' : Nat → Prop),i = .int .i64 (j : Int) ∧ j ≤ l.length ∧ bs.length ≤ j ∧ MidV W0 wr F (fun b => b = g1) p kn n D F' ∧ BoxG g1 wr v ∧ OwnR W0.heap.size F' wr v bs ∧ paftG c.us c.pg c.st (l.drop j) bs kn D = Rr) (fun i _ => l.length - (intOf i).toNat)
 case atStart => exact ⟨0,_,[],[],F,rfl,Nat.zero_le _,by simp,M1.out,B1.out,OwnR.nil _ _ _,by simpa using HRr.out⟩
 case round =>
   obtain ⟨j,v,bs,D1,F1,rfl,hj,hbl,M1',B1',O1',E1'⟩ := hrel
   clear M0 M1 B1 HRr
   have M1 := hQQ M1'
   have B1 := hQQ B1'
   have O1 := hQQ O1'
   have KK := hQQ (KT.out _ M1'.turn)
   obtain ⟨av,cv,rfl,_⟩ := O1'.1.reads
   have c2 := (box_cells KK.out.h2).1
   have hbl1 := hbl
   have HBL := hQQ hbl
   clear M1' B1' O1'
   by_cases hlt : j < l.length
   · have d1 : decide ((j : Int) < (l.length : Int)) = true := by simp; omega
     obtain ⟨⟨kind,k,m⟩,hjt⟩ : ∃ t,l[j]? = some t := ⟨_,List.getElem?_eq_getElem hlt⟩
     rw [drop_at4 hjt] at E1'
     obtain ⟨ad,had⟩ : ∃ ad,atV c.us bs kind m = ad := ⟨_,rfl⟩
     have E2 := hQQ (show bindP (gdoneP c.us c.pg c.st kind k ad) (fun x => paftG c.us c.pg c.st (l.drop (j + 1)) (nextB kind x ad bs)) kn D1 = Rr from by rw [← had]; exact E1')
     obtain ⟨s,o,ha,hs,_⟩ := KK.out.ins.resolve_left (by intro q; rw [q] at hlt; simp at hlt)
     subst ha
     obtain ⟨y0,y1,y2⟩ := KK.out.at hjt
     simp only at y0 y1 y2
     have CAT := hQQ (fun W (hW : More wr W) => by
       have := l11_at c.us bs kind k m W0.heap.size _ W (O1.out.1.more hW) (by have := HL.out; omega)
       rw [had] at this
       exact this)
     have C3 := hQQ (fun W (hW : More wr W) => And.intro (hW.cell y0) (And.intro (hW.cell y1) (hW.cell y2)))
     have c1 := (box_cells B1.out).1
     have HJ := hQQ hjt
     have hjx : (j : Int) < (l.length : Int) := by omega
     have hjy : (0 : Int) ≤ (j : Int) := by omega
     clear E1' hjt had y0 y1 y2
     go_wp2_with fail
     refine wp_region_more (by kernel_rfl) (by kernel_rfl) ?_
     iterate 1
       with_reducible refine wpQuiet_step (fun K hK => ?_)
       go_simp
       first
       | (refine hK _ ?_; clear hK K)
       | (apply Exists.intro
          refine ⟨fun W hW => ?_,hK _ ?_⟩
          first
          | (have c1' := hW.cell c1; go_simp; try rfl)
          clear hK K)
     refine wpQuiet_load_row rfl 28 _ rfl _ rfl 28 _ _ _ (fun W hW => hW.block KK.out.h3) Tryz.underlying28 rfl (by kernel_rfl) ?_
     iterate 1
       with_reducible refine wpQuiet_step (fun K hK => ?_)
       go_simp
       first
       | (refine hK _ ?_; clear hK K)
       | (apply Exists.intro
          refine ⟨fun W hW => ?_,hK _ ?_⟩
          first
          | (go_at_call 23; exact Calls.more hW (US.out W))
          | (go_simp; try rfl)
          clear hK K)
     iterate 3
       with_reducible refine wpQuiet_step (fun K hK => ?_)
       go_simp
       first
       | (refine hK _ ?_; clear hK K)
       | (apply Exists.intro
          refine ⟨fun W hW => ?_,hK _ ?_⟩
          first
          | (have c2' := hW.cell c2; go_simp; try rfl)
          clear hK K)
     refine wpQuiet_ld3 rfl 61 _ rfl s (o + j * 3) rfl _ _ _ _ (fun W hW => C3.out W hW) Tryz.underlying61 rfl (by kernel_rfl) ?_
     iterate 1
       with_reducible refine wpQuiet_step (fun K hK => ?_)
       go_simp
       first
       | (refine hK _ ?_; clear hK K)
       | (apply Exists.intro
          refine ⟨fun W hW => ?_,hK _ ?_⟩
          first
          | (go_at_call 26; exact Calls.more hW (CAT.out W hW))
          | (go_simp; try rfl)
          clear hK K)
     iterate 1
       with_reducible refine wpQuiet_step (fun K hK => ?_)
       go_simp
       first
       | (refine hK _ ?_; clear hK K)
       | (apply Exists.intro
          refine ⟨fun W hW => ?_,hK _ ?_⟩
          first
          | (go_simp; try rfl)
          clear hK K)
     refine wpQuiet_nil ?_
     intro w2 m2
     have M2 : Hid (MidV W0 w2 F (fun b => b = g1) p kn n D1 F1 ∧ BoxG g1 w2 (.slice av bs.length cv) ∧ OwnR W0.heap.size F1 w2 (.slice av bs.length cv) bs) := hQQ ⟨M1.out.more m2,m2.block B1.out,O1.out.more m2⟩
     have KC : Hid (∀ W D' F',MidV W0 W F (fun b => b = g1) p kn n D' F' ∧ BoxG g1 W (.slice av bs.length cv) ∧ OwnR W0.heap.size F' W (.slice av bs.length cv) bs → AfK c (some ⟨s,o,none⟩) capl l g2 g3 bt W) := hQQ fun W D' F' h => KT.out _ h.1.turn
     clear m2 c1 c2 M1 B1 O1 KK CAT C3
     go_wp2_with fail
     refine wp_region_anyC (fun W => AfK c (some ⟨s,o,none⟩) capl l g2 g3 bt W) (by kernel_rfl) ?_
     have MR : Hid (MidV W0 (w2.drewN 1) F (fun b => b = g1) p kn n D1 F1 ∧ BoxG g1 (w2.drewN 1) (.slice av bs.length cv) ∧ OwnR W0.heap.size F1 (w2.drewN 1) (.slice av bs.length cv) bs) := hQQ ⟨M2.out.1.more ((More.refl w2).drewN 1),((More.refl w2).drewN 1).block M2.out.2.1,M2.out.2.2.more ((More.refl w2).drewN 1)⟩
     change anyC _ _ _ _ _ _ _ _ (w2.drewN 1)
     generalize w2.drewN 1 = wq at MR ⊢
     generalize hA : Act.mk _ _ = A
     have HF : AG 76 A [(0,.pointer (some ⟨p,0,none⟩)),(2,.pointer (some ⟨g2,0,none⟩)),(3,.pointer (some ⟨g3,0,none⟩)),(5,.int .i64 (j : Int)),(6,.int .i64 ad)] := by
       rw [← hA]
       refine ⟨⟨Nat.le_of_ble_eq_true rfl,rfl⟩,?_⟩
       intro z hz; simp only [List.mem_cons,List.not_mem_nil,or_false] at hz; rcases hz with rfl | rfl | rfl | rfl | rfl <;> rfl
     refine anyC_start (fun a W => ∃ (u22 u23 u24 u25 u26 u27 u28 u29 : Value) (gy : Nat) (x9 : V4) (D9 : List KV) (F9 : Nat → Prop),a = (Act.put (Act.put (Act.put (Act.put (Act.put (Act.put (Act.put (Act.put (Act.put (Act.put A (some 22) u22) (some 23) u23) (some 24) u24) (some 25) u25) (some 26) u26) (some 27) u27) (some 28) u28) (some 29) u29) (some 7) (.pointer (some ⟨gy,0,none⟩))) none undef) ∧ (MidV W0 W F (fun b => b = g1) p kn n D9 F9 ∧ BoxG g1 W (.slice av bs.length cv) ∧ OwnR W0.heap.size F9 W (.slice av bs.length cv) bs) ∧ Box4 gy W x9 ∧ paftG c.us c.pg c.st (l.drop (j + 1)) (nextB kind x9 ad bs) kn D9 = Rr) (fun W => WentY W0 F (fun b => b = g1) (fun w' => AfY c (some ⟨s,o,none⟩) capl l g1 g2 g3 bt w') (fun w' => AfX W0.heap.size g1 bsF w') p kn (ranOf Rr) (.panicked (endOf p)) W) (endOf p) (fun a W hd h => ⟨hd,h⟩) (fun _ _ _ _ _ h => h) ?_ ?_
     · skip
       rintro a9 w9 ⟨u22,u23,u24,u25,u26,u27,u28,u29,gy,x9,D9,F9,rfl,MS,hX9,hR9⟩
       rw [← hA]
       have M9 := hQQ MS
       have R9 := hQQ hR9
       have K9 := hQQ (KC.out _ _ _ MS)
       have c1 := (box_cells MS.2.1).1
       have c2 := (box_cells K9.out.h2).1
       have c5 := (K9.out.at HJ.out).1
       simp only at c5
       have c6 : w9.cell? ⟨gy,0,none⟩ = some (.int .i64 x9.1) := cell_more (j:=0) hX9 (More.refl _) rfl
       have c7 : w9.cell? ⟨gy,1,none⟩ = some (.int .i64 x9.2.1) := cell_more (j:=1) hX9 (More.refl _) rfl
       have hl0 := HL.out
       clear MS hX9 hR9 HF hA MR
       go_simp
       by_cases k01 : kind = 0 ∨ kind = 1
       · have e0 : decide (0 ≤ kind) = true := by simp; omega
         have e1 : decide (kind < 2) = true := by simp; omega
         have e2 : decide (2 ≤ kind) = false := by simp; omega
         by_cases a1 : x9.2.1 = 1
         · have b1 : (x9.2.1 == 1) = true := by simp [a1]
           have E9 := hQQ (show paftG c.us c.pg c.st (l.drop (j + 1)) (bs ++ [x9.1]) kn D9 = Rr from by have := R9.out; rw [show nextB kind x9 ad bs = bs ++ [x9.1] from by unfold nextB; rw [if_pos k01,if_pos a1]] at this; exact this)
           clear a1 k01 R9
           go_wp2_with (at_builtin; refine wpList_pushW _ rfl _ _ rfl rfl M9.out.2.2.1 (by have := M9.out.1.size; omega) (by omega) rfl ?_; intro g' cap' w10 hr10 ht10 hor10; have row10 := hQQ hr10; have OR10 := hQQ hor10; have L9 := hQQ (lt_of_heap M9.out.2.1); have NG1 : (Value.slice av bs.length cv).ownBlock ≠ some g1 := (fun q => by have := (M9.out.2.2.2 _ q).2.1; omega); have b10 : Hid (BoxG g1 w10 (.slice av bs.length cv)) := hQQ ((ht10.block _ L9.out NG1).trans M9.out.2.1); have M10 := hQQ (M9.out.1.rowT M9.out.2.2 (Nat.le_refl _) ht10); obtain ⟨cb,fb,lb⟩ := box_cells b10.out; obtain ⟨w11,e11⟩ : ∃ w11,w10.setCell ⟨g1,0,none⟩ (.slice (some ⟨g',0,none⟩) (bs.length + 1) cap') = w11 := ⟨_,rfl⟩; have M11 : Hid (MidV W0 w11 F (fun b => b = g1) p kn n D9 F9) := hQQ (by rw [← e11]; exact M10.out.box (fun _ => rfl) (N1.out _ _ _ M10.out) _ b10.out); have B11 : Hid (BoxG g1 w11 (.slice (some ⟨g',0,none⟩) (bs.length + 1) cap')) := hQQ (by rw [← e11]; exact setCell_one b10.out _); have T11 : Turned (fun q => q = g1) w10 w11 := (by rw [← e11]; exact Turned.setCell (Turned.refl _ w10) _ _ (fun _ => rfl)); have O11 : Hid (OwnR W0.heap.size F9 w11 (.slice (some ⟨g',0,none⟩) (bs.length + 1) cap') (bs ++ [x9.1])) := hQQ (OwnR.set' row10.out T11 (fun q hq => by have hq' : g' = q := (by simpa [Value.ownBlock] using hq); subst hq'; rcases OR10.out with z | z; exact ⟨(M9.out.2.2.2 _ z).1,fun e => NG1 (e ▸ z)⟩; exact ⟨fun q => (by have := M9.out.1.view.lt _ q; omega),fun e => (by have := L9.out; omega)⟩)); clear hr10 ht10 hor10)
           go_roundw
           case rel => exact ⟨j + 1,_,bs ++ [x9.1],D9,F9,by go_num,by omega,by simp; omega,M11.out,B11.out,O11.out,E9.out⟩
           case measure => simp [intOf]; omega
         · have b1 : (x9.2.1 == 1) = false := by simp [a1]
           have E9 := hQQ (show paftG c.us c.pg c.st (l.drop (j + 1)) bs kn D9 = Rr from by have := R9.out; rw [show nextB kind x9 ad bs = bs from (by unfold nextB; rw [if_pos k01,if_neg a1])] at this; exact this)
           clear R9 a1 k01
           go_wp2_with fail
           go_roundw
           case rel => exact ⟨j + 1,_,bs,D9,F9,by go_num,by omega,by omega,M9.out.1,M9.out.2.1,M9.out.2.2,E9.out⟩
           case measure => simp [intOf]; omega
       · by_cases k23 : kind = 2 ∨ kind = 3
         · have e0 : decide (0 ≤ kind) = true := by simp; omega
           have e1 : decide (kind < 2) = false := by simp; omega
           have e2 : decide (2 ≤ kind) = true := by simp; omega
           have e3 : decide (kind < 4) = true := by simp; omega
           by_cases a1 : x9.1 = 1
           · have b1 : (x9.1 == 1) = true := by simp [a1]
             have E9 := hQQ (show paftG c.us c.pg c.st (l.drop (j + 1)) (bs.filter fun b => b != ad) kn D9 = Rr from by have := R9.out; rw [show nextB kind x9 ad bs = bs.filter (fun b => b != ad) from by unfold nextB; rw [if_neg k01,if_pos k23,if_pos a1]] at this; exact this)
             clear a1 k01 k23 R9
             go_wp2_with fail
             refine (l11_without bs ad W0.heap.size _ w9 M9.out.2.2.1 (by omega)).mono ?_
             rintro e w10 ⟨vv,rfl,hr10,m10⟩
             have L9 := hQQ (lt_of_heap M9.out.2.1)
             have row10 := hQQ (hr10.mono M9.out.1.size)
             have RO := hQQ (fun q (hq : vv.ownBlock = some q) => (hr10.own hq).1)
             have b10 : Hid (BoxG g1 w10 (.slice av bs.length cv)) := hQQ (m10.block M9.out.2.1)
             have M10 := hQQ (M9.out.1.more m10)
             obtain ⟨cb,fb,lb⟩ := box_cells b10.out
             obtain ⟨w11,e11⟩ : ∃ w11,w10.setCell ⟨g1,0,none⟩ vv = w11 := ⟨_,rfl⟩
             have M11 : Hid (MidV W0 w11 F (fun b => b = g1) p kn n D9 F9) := hQQ (by rw [← e11]; exact M10.out.box (fun _ => rfl) (N1.out _ _ _ M10.out) _ b10.out)
             have B11 : Hid (BoxG g1 w11 vv) := hQQ (by rw [← e11]; exact setCell_one b10.out _)
             have T11 : Turned (fun q => q = g1) w10 w11 := by rw [← e11]; exact Turned.setCell (Turned.refl _ w10) _ _ (fun _ => rfl)
             have O11 : Hid (OwnR W0.heap.size F9 w11 vv (bs.filter fun b => b != ad)) := hQQ (OwnR.set' row10.out T11 (fun q hq => ⟨fun z => by have := M9.out.1.view.lt _ z; have := RO.out q hq; omega,fun e => by have := L9.out; have := RO.out q hq; omega⟩))
             have hfl := List.length_filter_le (fun b => b != ad) bs
             obtain ⟨a3,c3,rfl,_⟩ := row10.out.reads
             clear hr10 m10
             go_wp2_with fail
             go_roundw
             case rel => exact ⟨j + 1,_,bs.filter fun b => b != ad,D9,F9,by go_num,by omega,by omega,M11.out,B11.out,O11.out,E9.out⟩
             case measure => simp [intOf]; omega
           · have b1 : (x9.1 == 1) = false := by simp [a1]
             have E9 := hQQ (show paftG c.us c.pg c.st (l.drop (j + 1)) bs kn D9 = Rr from by have := R9.out; rw [show nextB kind x9 ad bs = bs from (by unfold nextB; rw [if_neg k01,if_pos k23,if_neg a1])] at this; exact this)
             clear R9 a1 k01 k23
             go_wp2_with fail
             go_roundw
             case rel => exact ⟨j + 1,_,bs,D9,F9,by go_num,by omega,by omega,M9.out.1,M9.out.2.1,M9.out.2.2,E9.out⟩
             case measure => simp [intOf]; omega
         · by_cases kneg : kind < 0
           · have e0 : decide (0 ≤ kind) = false := by simp; omega
             have e2 : decide (2 ≤ kind) = false := by simp; omega
             have E9 := hQQ (show paftG c.us c.pg c.st (l.drop (j + 1)) bs kn D9 = Rr from by have := R9.out; rw [show nextB kind x9 ad bs = bs from (by unfold nextB; rw [if_neg k01,if_neg k23])] at this; exact this)
             clear R9 k01 k23 kneg
             go_wp2_with fail
             go_roundw
             case rel => exact ⟨j + 1,_,bs,D9,F9,by go_num,by omega,by omega,M9.out.1,M9.out.2.1,M9.out.2.2,E9.out⟩
             case measure => simp [intOf]; omega
           · have e0 : decide (0 ≤ kind) = true := by simp; omega
             have e1 : decide (kind < 2) = false := by simp; omega
             have e2 : decide (2 ≤ kind) = true := by simp; omega
             have e3 : decide (kind < 4) = false := by simp; omega
             have E9 := hQQ (show paftG c.us c.pg c.st (l.drop (j + 1)) bs kn D9 = Rr from by have := R9.out; rw [show nextB kind x9 ad bs = bs from (by unfold nextB; rw [if_neg k01,if_neg k23])] at this; exact this)
             clear R9 k01 k23 kneg
             go_wp2_with fail
             go_roundw
             case rel => exact ⟨j + 1,_,bs,D9,F9,by go_num,by omega,by omega,M9.out.1,M9.out.2.1,M9.out.2.2,E9.out⟩
             case measure => simp [intOf]; omega
     intro QQ FINE FIND FINQ
     clear hA
     refine anyC_takeD (i:=0) (v:=.pointer (some ⟨p,0,none⟩)) (some 22) rfl rfl (by kernel_rfl) (by kernel_rfl) (by kernel_rfl) (fun c a w => FINQ c a _ _ w) (KC.out _ _ _ MR.out) (by exact yieldsC_moveG (wanted_none rfl) _ rfl (HF.get 0 rfl)) ?_
     replace HF := HF.put 22 (.pointer (some ⟨p,0,none⟩)) (by decide) rfl
     generalize hB1_22 : Act.put _ _ _ = A at HF ⊢
     refine anyC_takeD (i:=1) (v:=.agg c.arr) (some 23) rfl rfl (by kernel_rfl) (by kernel_rfl) (by kernel_rfl) (fun c a w => FINQ c a _ _ w) (KC.out _ _ _ MR.out) (by exact yieldsC_row (C:=(fun W => AfK c (some ⟨s,o,none⟩) capl l g2 g3 bt W)) (wanted_none rfl) 28 _ rfl g3 (HF.get 3 rfl) 28 _ _ _ (fun W hW => hW.h3) Tryz.underlying28 rfl (by kernel_rfl)) ?_
     replace HF := HF.put 23 (.agg c.arr) (by decide) rfl
     generalize hB2_23 : Act.put _ _ _ = A at HF ⊢
     refine anyC_takeD (i:=2) (v:=.slice (some ⟨s,o,none⟩) l.length capl) (some 24) rfl rfl (by kernel_rfl) (by kernel_rfl) (by kernel_rfl) (fun c a w => FINQ c a _ _ w) (KC.out _ _ _ MR.out) (by exact yieldsC_cell (C:=(fun W => AfK c (some ⟨s,o,none⟩) capl l g2 g3 bt W)) (wanted_none rfl) 24 _ rfl (g2) 0 (HF.get 3 rfl) (.slice (some ⟨s,o,none⟩) l.length capl) _ Tryz.underlying24 rfl (fun W hW => (box_cells hW.h2).1)) ?_
     replace HF := HF.put 24 (.slice (some ⟨s,o,none⟩) l.length capl) (by decide) rfl
     generalize hB3_24 : Act.put _ _ _ = A at HF ⊢
     refine anyC_takeD (i:=3) (v:=.int .i64 (j : Int)) (some 25) rfl rfl (by kernel_rfl) (by kernel_rfl) (by kernel_rfl) (fun c a w => FINQ c a _ _ w) (KC.out _ _ _ MR.out) (by exact yieldsC_moveG (wanted_none rfl) _ rfl (HF.get 6 rfl)) ?_
     replace HF := HF.put 25 (.int .i64 (j : Int)) (by decide) rfl
     generalize hB4_25 : Act.put _ _ _ = A at HF ⊢
     refine anyC_takeD (i:=4) (v:=.pointer (some ⟨s,o + j * 3,none⟩)) (some 26) rfl rfl (by kernel_rfl) (by kernel_rfl) (by kernel_rfl) (fun c a w => FINQ c a _ _ w) (KC.out _ _ _ MR.out) (by exact (Or.inl ⟨(wanted_none rfl),fun W hW => by have h5 := (HF.getD 1 rfl); have h6 := (HF.getD 0 rfl); go_simp⟩)) ?_
     replace HF := HF.put 26 (.pointer (some ⟨s,o + j * 3,none⟩)) (by decide) rfl
     generalize hB5_26 : Act.put _ _ _ = A at HF ⊢
     refine anyC_takeD (i:=5) (v:=.agg #[.int .i64 kind,.int .i64 k,.int .i64 m]) (some 27) rfl rfl (by kernel_rfl) (by kernel_rfl) (by kernel_rfl) (fun c a w => FINQ c a _ _ w) (KC.out _ _ _ MR.out) (by exact yieldsC_3 (C:=(fun W => AfK c (some ⟨s,o,none⟩) capl l g2 g3 bt W)) (wanted_none rfl) 61 _ rfl s (o + j * 3) (HF.get 0 rfl) _ _ _ _ (fun W hW => hW.at HJ.out) Tryz.underlying61 rfl (by kernel_rfl)) ?_
     replace HF := HF.put 27 (.agg #[.int .i64 kind,.int .i64 k,.int .i64 m]) (by decide) rfl
     generalize hB6_27 : Act.put _ _ _ = A at HF ⊢
     refine anyC_takeD (i:=6) (v:=.int .i64 ad) (some 28) rfl rfl (by kernel_rfl) (by kernel_rfl) (by kernel_rfl) (fun c a w => FINQ c a _ _ w) (KC.out _ _ _ MR.out) (by exact yieldsC_moveG (wanted_none rfl) _ rfl (HF.get 10 rfl)) ?_
     replace HF := HF.put 28 (.int .i64 ad) (by decide) rfl
     generalize hB7_28 : Act.put _ _ _ = A at HF ⊢
     refine anyC_two (i:=7) (j:=8) (some 29) (some 7) (by kernel_rfl) rfl rfl (wanted_none rfl) (wanted_none rfl) rfl rfl (fun K hK => ?_) (fun K hK => ?_)
     · refine wp_call4 (v0:=.pointer (some ⟨p,0,none⟩)) (v1:=.agg c.arr) (v2:=.agg #[.int .i64 kind,.int .i64 k,.int .i64 m]) (v3:=.int .i64 ad) rfl (HF.get 6 rfl) (HF.get 5 rfl) (HF.get 1 rfl) (HF.get 0 rfl) (enters_of Tryz.func27 (by kernel_rfl) rfl) ?_
       refine (g_done HR.out HH.out HN.out F1 p kn D1 kind k m ad wq MR.out.1.view HK.out MR.out.1.inv bt (KC.out _ _ _ MR.out).sz (NZ.out _ _ _ MR.out.1).1 (NZ.out _ _ _ MR.out.1).2).mono ?_
       intro e w7 he
       rcases MR.out.1.step (More.refl _) HK.out (good_gdone HH.out _ _ _ _) he with ⟨a',hE,rfl,hd',ht',hk6⟩ | ⟨x6,D6,F6,hE,rfl,M6',hq6,hk6,hf6⟩
       · exact FIND _ _ HF.1.2 (NEED.out a' w7 (E2.out.symm.trans (bindP_need hE)) hd' ht' ⟨_,hk6 _ _ (N1.out _ _ _ MR.out.1) MR.out.2.1⟩)
       have R6 := hQQ ((bindP_ok hE).symm.trans E2.out)
       have M6 : Hid (MidV W0 w7 F (fun b => b = g1) p kn n D6 F6 ∧ BoxG g1 w7 (.slice av bs.length cv) ∧ OwnR W0.heap.size F6 w7 (.slice av bs.length cv) bs) := hQQ ⟨M6',hk6 _ _ (N1.out _ _ _ MR.out.1) MR.out.2.1,MR.out.2.2.went hk6 hf6⟩
       clear he hE hk6 hf6 hq6
       refine hK _ _ (KC.out _ _ _ M6.out) ?_
       clear hK K
       replace HF := HF.put 29 (val4 x6) (by decide) rfl
       generalize hB8_29 : Act.put _ _ _ = A at HF ⊢
       refine anyC_oneK (i:=8) (some 7) (by kernel_rfl) rfl (wanted_none rfl) rfl (fun K hK => ?_)
       refine wp_alloc4 rfl ?_
       obtain ⟨w8,e8⟩ : ∃ w8,w7.alloc (.cells #[.int .i64 0,.int .i64 0,.int .i64 0,.int .i64 0] 52) = w8 := ⟨_,rfl⟩
       have hb : w8.heap[w7.heap.size]? = some (.cells #[.int .i64 0,.int .i64 0,.int .i64 0,.int .i64 0] 52 (0,0)) := by rw [← e8]; exact row_new _ _ _
       have m8 : More w7 w8 := by rw [← e8]; exact (More.refl _).alloc _
       rw [e8]
       clear e8
       have nb : ¬ F6 w7.heap.size := fun z => by have := M6.out.1.view.lt _ z; omega
       have lb := M6.out.1.size
       have ob : ∀ q,(Value.slice av bs.length cv).ownBlock = some q → q ≠ w7.heap.size := fun q hq => by have := (M6.out.2.2.2 q hq).2.2; omega
       have l1 : g1 ≠ w7.heap.size := by have := lt_of_heap M6.out.2.1; omega
       have M8 : Hid (MidV W0 w8 F (fun b => b = g1) p kn n D6 F6 ∧ BoxG g1 w8 (.slice av bs.length cv) ∧ OwnR W0.heap.size F6 w8 (.slice av bs.length cv) bs) := hQQ ⟨M6.out.1.more m8,m8.block M6.out.2.1,M6.out.2.2.more m8⟩
       refine hK _ _ (KC.out _ _ _ M8.out) ?_
       clear hK K
       replace HF := HF.put 7 (.pointer (some ⟨w7.heap.size,0,none⟩)) (by decide) rfl
       generalize hB9_7 : Act.put _ _ _ = A at HF ⊢
       refine anyC_last (i:=9) (by kernel_rfl) (by kernel_rfl) rfl (wanted_none rfl) (fun K hK => ?_)
       refine wp_store_row 52 _ _ rfl (w7.heap.size) (row4 x6) (HF.get 0 rfl) (show _ = Value.agg (row4 x6) from (HF.get 1 rfl)) 52 #[.int .i64 0,.int .i64 0,.int .i64 0,.int .i64 0] hb (by kernel_rfl) rfl (by simp [row4,Value.oneCell']) ?_
       have MS := M8.out.1.row (b:=w7.heap.size) (fun q => by omega) nb (row4 x6) hb
       have HS1 := setRow_heap _ (w7.heap.size) _ (row4 x6) _ _ hb
       have HS2 := setRow_oth (cs:=row4 x6) M8.out.2.1 (show g1 ≠ w7.heap.size from l1)
       have TS : Turned (fun q => q = w7.heap.size) w8 (w8.setRow (w7.heap.size) (row4 x6)) := Turned.setRow (Turned.refl _ w8) (w7.heap.size) (row4 x6) (fun _ => rfl)
       have HO : OwnR W0.heap.size F6 _ (.slice av bs.length cv) bs := ⟨M8.out.2.2.1.keepT TS (fun q hq e => ob q hq e),fun q hq => ⟨(M8.out.2.2.2 q hq).1,(M8.out.2.2.2 q hq).2.1,by have := (M8.out.2.2.2 q hq).2.2; have := TS.size; omega⟩⟩
       refine hK _ _ (KC.out _ _ _ ⟨MS,HS2,HO⟩) (FINE _ _ ⟨(.pointer (some ⟨p,0,none⟩)),(.agg c.arr),(.slice (some ⟨s,o,none⟩) l.length capl),(.int .i64 (j : Int)),(.pointer (some ⟨s,o + j * 3,none⟩)),(.agg #[.int .i64 kind,.int .i64 k,.int .i64 m]),(.int .i64 ad),(val4 x6),w7.heap.size,x6,D6,F6,?_,⟨MS,HS2,HO⟩,HS1,R6.out⟩)
       rw [← hB9_7,← hB8_29,← hB7_28,← hB6_27,← hB5_26,← hB4_25,← hB3_24,← hB2_23,← hB1_22]; rfl
     · refine wp_alloc4 rfl ?_
       obtain ⟨w7,e7⟩ : ∃ w7,wq.alloc (.cells #[.int .i64 0,.int .i64 0,.int .i64 0,.int .i64 0] 52) = w7 := ⟨_,rfl⟩
       have hb : w7.heap[wq.heap.size]? = some (.cells #[.int .i64 0,.int .i64 0,.int .i64 0,.int .i64 0] 52 (0,0)) := by rw [← e7]; exact row_new _ _ _
       have m7 : More wq w7 := by rw [← e7]; exact (More.refl _).alloc _
       rw [e7]
       clear e7
       have nb : ¬ F1 wq.heap.size := fun z => by have := MR.out.1.view.lt _ z; omega
       have lb := MR.out.1.size
       have ob : ∀ q,(Value.slice av bs.length cv).ownBlock = some q → q ≠ wq.heap.size := fun q hq => by have := (MR.out.2.2.2 q hq).2.2; omega
       have l1 : g1 ≠ wq.heap.size := by have := lt_of_heap MR.out.2.1; omega
       have M7 : Hid (MidV W0 w7 F (fun b => b = g1) p kn n D1 F1 ∧ BoxG g1 w7 (.slice av bs.length cv) ∧ OwnR W0.heap.size F1 w7 (.slice av bs.length cv) bs) := hQQ ⟨MR.out.1.more m7,m7.block MR.out.2.1,MR.out.2.2.more m7⟩
       refine hK _ _ (KC.out _ _ _ M7.out) ?_
       clear hK K
       replace HF := HF.put 7 (.pointer (some ⟨wq.heap.size,0,none⟩)) (by decide) rfl
       generalize hB8_7 : Act.put _ _ _ = A at HF ⊢
       refine anyC_oneK (i:=7) (some 29) (by kernel_rfl) rfl (wanted_none rfl) rfl (fun K hK => ?_)
       refine wp_call4 (v0:=.pointer (some ⟨p,0,none⟩)) (v1:=.agg c.arr) (v2:=.agg #[.int .i64 kind,.int .i64 k,.int .i64 m]) (v3:=.int .i64 ad) rfl (HF.get 7 rfl) (HF.get 6 rfl) (HF.get 2 rfl) (HF.get 1 rfl) (enters_of Tryz.func27 (by kernel_rfl) rfl) ?_
       refine (g_done HR.out HH.out HN.out F1 p kn D1 kind k m ad w7 M7.out.1.view HK.out M7.out.1.inv bt (KC.out _ _ _ M7.out).sz (NZ.out _ _ _ M7.out.1).1 (NZ.out _ _ _ M7.out.1).2).mono ?_
       intro e w8 he
       rcases M7.out.1.step (More.refl _) HK.out (good_gdone HH.out _ _ _ _) he with ⟨a',hE,rfl,hd',ht',hk6⟩ | ⟨x6,D6,F6,hE,rfl,M6',hq6,hk6,hf6⟩
       · exact FIND _ _ HF.1.2 (NEED.out a' w8 (E2.out.symm.trans (bindP_need hE)) hd' ht' ⟨_,hk6 _ _ (N1.out _ _ _ M7.out.1) M7.out.2.1⟩)
       have R6 := hQQ ((bindP_ok hE).symm.trans E2.out)
       have M6 : Hid (MidV W0 w8 F (fun b => b = g1) p kn n D6 F6 ∧ BoxG g1 w8 (.slice av bs.length cv) ∧ OwnR W0.heap.size F6 w8 (.slice av bs.length cv) bs) := hQQ ⟨M6',hk6 _ _ (N1.out _ _ _ M7.out.1) M7.out.2.1,M7.out.2.2.went hk6 hf6⟩
       have hb7 := hb
       replace hb := hk6 _ _ nb hb
       have nb8 : ¬ F6 wq.heap.size := fun z => by rcases hf6 _ z with q | q; exact nb q; have := lt_of_heap hb7; omega
       clear he hE hk6 hf6 hq6
       refine hK _ _ (KC.out _ _ _ M6.out) ?_
       clear hK K
       replace HF := HF.put 29 (val4 x6) (by decide) rfl
       generalize hB9_29 : Act.put _ _ _ = A at HF ⊢
       refine anyC_last (i:=9) (by kernel_rfl) (by kernel_rfl) rfl (wanted_none rfl) (fun K hK => ?_)
       refine wp_store_row 52 _ _ rfl (wq.heap.size) (row4 x6) (HF.get 1 rfl) (show _ = Value.agg (row4 x6) from (HF.get 0 rfl)) 52 #[.int .i64 0,.int .i64 0,.int .i64 0,.int .i64 0] hb (by kernel_rfl) rfl (by simp [row4,Value.oneCell']) ?_
       have MS := M6.out.1.row (b:=wq.heap.size) (fun q => by omega) nb8 (row4 x6) hb
       have HS1 := setRow_heap _ (wq.heap.size) _ (row4 x6) _ _ hb
       have HS2 := setRow_oth (cs:=row4 x6) M6.out.2.1 (show g1 ≠ wq.heap.size from l1)
       have TS : Turned (fun q => q = wq.heap.size) w8 (w8.setRow (wq.heap.size) (row4 x6)) := Turned.setRow (Turned.refl _ w8) (wq.heap.size) (row4 x6) (fun _ => rfl)
       have HO : OwnR W0.heap.size F6 _ (.slice av bs.length cv) bs := ⟨M6.out.2.2.1.keepT TS (fun q hq e => ob q hq e),fun q hq => ⟨(M6.out.2.2.2 q hq).1,(M6.out.2.2.2 q hq).2.1,by have := (M6.out.2.2.2 q hq).2.2; have := TS.size; omega⟩⟩
       refine hK _ _ (KC.out _ _ _ ⟨MS,HS2,HO⟩) (FINE _ _ ⟨(.pointer (some ⟨p,0,none⟩)),(.agg c.arr),(.slice (some ⟨s,o,none⟩) l.length capl),(.int .i64 (j : Int)),(.pointer (some ⟨s,o + j * 3,none⟩)),(.agg #[.int .i64 kind,.int .i64 k,.int .i64 m]),(.int .i64 ad),(val4 x6),wq.heap.size,x6,D6,F6,?_,⟨MS,HS2,HO⟩,HS1,R6.out⟩)
       rw [← hB9_29,← hB8_7,← hB7_28,← hB6_27,← hB5_26,← hB4_25,← hB3_24,← hB2_23,← hB1_22,put_com (i:=7) (j:=29) (by decide)]; rfl
   · have d1 : decide ((j : Int) < (l.length : Int)) = false := by simp; omega
     have hjl : j = l.length := by omega
     have E2 := hQQ (show Res.ok bs D1 = Rr from by rw [hjl,List.drop_length] at E1'; exact E1')
     clear E1' hjl
     go_wp2_with fail
     go_end0
     exact DONE.out bs _ D1 F1 _ E2.out.symm M1.out B1.out O1.out.1
theorem results_cttt1 {P : Program} {fn : Func} {p q u r : Tmp} {tp : TypeId} (h : fn.results = #[.cell p tp,.tmp q,.tmp u,.tmp r]) (tmps : Array Value) (w : World) (g : Nat) (v : Value) (hp : tmps.getD p undef = .pointer (some ⟨g,0,none⟩))
   (h1 : (loadVar tp ⟨g,0,none⟩).run P w = .ok v w) : (results fn tmps).run P w = .ok (.tuple #[v,tmps.getD q undef,tmps.getD u undef,tmps.getD r undef]) w := by
 have hp' : tmps[p]?.getD undef = .pointer (some ⟨g,0,none⟩) := by simpa using hp
 simp [results,h,asAddr,hp',h1,Sem.run_bind,Result.andThen]
theorem rows2c (w : World) (x1 x2 y1 y2 : Array Value) (t1 t2 : TypeId) : ∃ W,(((w.alloc (.cells x1 t1)).alloc (.cells x2 t2)).setRow w.heap.size y1).setRow (w.heap.size + 1) y2 = W ∧
   ((w.alloc (.cells x1 t1)).alloc (.cells x2 t2)).heap[w.heap.size]? = some (.cells x1 t1 (0,0)) ∧ (((w.alloc (.cells x1 t1)).alloc (.cells x2 t2)).setRow w.heap.size y1).heap[w.heap.size + 1]? = some (.cells x2 t2 (0,0)) ∧
   W.heap[w.heap.size]? = some (.cells y1 t1 (0,0)) ∧ W.heap[w.heap.size + 1]? = some (.cells y2 t2 (0,0)) ∧ More w W ∧ W.heap.size = w.heap.size + 2 := by
 obtain ⟨W,e,h1,h2,h3,h4,h5⟩ := rows2 w x1 x2 y1 y2 t1 t2
 exact ⟨W,e,h1,h2,h3,by rw [← e]; exact setRow_heap _ _ _ _ _ _ h2,h4,by rw [← e]; simp⟩
theorem AG.skip3 {m : Nat} {a : Act} {L : List (Nat × Value)} (h : AG m a L) (v : Value) : AG m (a.put none v) L := h
def After11 (w : World) (d : Cfg) (n : Nat) (zs bs : List Int) (e : Ending) (w' : World) : Prop :=
 ∃ gz cz vb,e = .returned (.tuple #[.agg d.arr,.slice (some ⟨gz,0,none⟩) n cz,vb,.bool true]) ∧ Ws w' gz cz zs ∧ Rw w.heap.size w' vb bs ∧ w.heap.size ≤ gz ∧ More w w'
theorem af_call {c : Cfg} (R : c.Ok) (zs : List Int) (H : HdIn c.pg c.st zs.length) (hlen : zs.length ≤ 1000) (hz : OkW zs) (w : World) (g1 g2 g3 bt : Nat) (a : Option Addr) (cap : Nat) (al : Option Addr) (capl : Nat) (l : List Ins3) (hll : l.length ≤ 1000) (hY : AfY c al capl l g1 g2 g3 bt w) (ne : ∀ k,AfO al l g2 g3 bt k → k ≠ g1) (hw : IsWords w a zs) :
   Calls Tryz.prog 12 #[.slice a zs.length cap,.func (.func 25) #[] #[.pointer (some ⟨g1,0,none⟩),.pointer (some ⟨g2,0,none⟩),.pointer (some ⟨g3,0,none⟩)]] w (fun e w' => ∃ v1 v2 b,e = .returned (.tuple #[v1,v2,.int .i64 0]) ∧ Rw w.heap.size w' v1 (paftGV c.us c.pg c.st l [] zs).2 ∧ Turned (fun k => k = g1) w w' ∧ AfK c al capl l g2 g3 bt w' ∧ w.heap.size ≤ b ∧ AfX b g1 (paftGV c.us c.pg c.st l [] zs).1 w') := by
 have lo : ∀ k,AfO al l g2 g3 bt k → k < w.heap.size := fun k hk => hY.1.lt hk
 have l1 : g1 < w.heap.size := by obtain ⟨v,h⟩ := hY.2; exact lt_of_heap h
 have G := good_paftG H c.us l []
 obtain ⟨D,hD,ha,hi⟩ := flat_paftG H c.us l [] zs [] rfl hz (invD_nil _)
 have e0 : applyD zs [] = zs := rfl
 rw [e0] at hD ha
 obtain ⟨K',hK',hd⟩ := doP_run (sound_paftG c.us c.pg c.st l []) G hz hD (zs.length + 1) [] (okKn_nil _) (by simp)
 rw [ha] at hd
 generalize hI : (paftGV c.us c.pg c.st l [] zs).1 = bsF at hD
 generalize (paftGV c.us c.pg c.st l [] zs).2 = xs at hd ⊢
 have M := doX_ok a cap zs (fun K => ranOf (paftG c.us c.pg c.st l [] (look K) [])) (some (xs,K')) zs.length w hw hlen hz (fine_of G hz (by omega)) (by omega) hd 25 #[.pointer (some ⟨g1,0,none⟩),.pointer (some ⟨g2,0,none⟩),.pointer (some ⟨g3,0,none⟩)] (fun k => k = g1)
   (fun w' => AfY c al capl l g1 g2 g3 bt w') (fun b w' => AfX b g1 bsF w') (fun k q => by subst q; exact l1)
   (fun w' w'' y t => by obtain ⟨y1,v,y2⟩ := y; exact ⟨y1.keep t (fun k hk q => by have := lo k hk; omega),v,(t.block g1 (lt_of_heap y2) (by omega)).trans y2⟩)
   (fun b w' w'' hb x t => by obtain ⟨v,x1,x2⟩ := x; exact ⟨v,(t.block g1 (lt_of_heap x1) (by omega)).trans x1,x2.keepT t (fun k hk q => by have := (x2.own hk).1; omega)⟩) hY (enters_of Tryz.func25 (by kernel_rfl) rfl)
   (fun K hK W F p t yy hv hF => af_clo R H (by omega) F p g1 g2 g3 bt (look K) al capl l hll bsF W hv (okK_of hK hz) yy (fun k hk q => by have := hF _ q; have := lo k hk; omega) (fun q => by have := hF _ q; omega) ne
     (fun z D' e => (sound_same (sound_paftG _ _ _ _ _) hK hD e).1))
 refine M.mono ?_
 rintro e w' ⟨v1,v2,b,rfl,r1,_,t,y,hb,x⟩
 exact ⟨v1,v2,b,rfl,r1,t,y.1,hb,x⟩
def AftG (d : Cfg) (g1 g2 : Nat) (vb : Value) (W : World) : Prop := W.heap[g1]? = some (.cells d.arr 28 (0,0)) ∧ W.heap[g2]? = some (.cells #[vb] 30 (0,0))
theorem ag_ok (y0 y1 y2 y3 y4 y5 y6 y7 y8 y9 y10 : Int) (f0 : (Lit.int .i64 y0).wf = true) (f1 : (Lit.int .i64 y1).wf = true) (f2 : (Lit.int .i64 y2).wf = true) (f3 : (Lit.int .i64 y3).wf = true) (f4 : (Lit.int .i64 y4).wf = true) (f5 : (Lit.int .i64 y5).wf = true) (f6 : (Lit.int .i64 y6).wf = true) (f7 : (Lit.int .i64 y7).wf = true) (f8 : (Lit.int .i64 y8).wf = true) (f9 : (Lit.int .i64 y9).wf = true) (f10 : (Lit.int .i64 y10).wf = true) (l : List Ins3) (hll : l.length ≤ 1000) :
   ∃ (d : Cfg) (n : Nat) (G : Int → List Int) (zs bs : List Int),d.Small ∧ (n : Int) = d.words ∧ zs.length = n ∧ OkW zs ∧ PgW d.pg d.st G zs ∧ Hid (∀ (a : Option Addr) (capl : Nat) (w : World),Sizes w → IsIns w a l → Calls Tryz.prog 5 #[.agg #[.int .i64 y0,.int .i64 y1,.int .i64 y2,.int .i64 y3,.int .i64 y4,.int .i64 y5,.int .i64 y6,.int .i64 y7,.int .i64 y8,.int .i64 y9,.int .i64 y10],.slice a l.length capl] w (After11 w d n zs bs)) := by
 obtain ⟨d,S,BEG⟩ := begin_at y0 y1 y2 y3 y4 y5 y6 y7 y8 y9 y10 f0 f1 f2 f3 f4 f5 f6 f7 f8 f9 f10
 have wds := S.words
 obtain ⟨n,hn⟩ : ∃ n : Nat,(n : Int) = d.words := ⟨d.words.toNat,by omega⟩
 have H := pg_hdin S hn
 have hz := zeros_len n
 obtain ⟨G,P,hl,okw⟩ := paftG_keep H d.us l [] (zeros n) _ (pgw_zeros H) hz (okW_zeros n)
 have ok := fun (w : World) (g1 g2 g3 bt : Nat) (a : Option Addr) (cap : Nat) (al : Option Addr) (capl : Nat) => af_call (c:=d) S.ok (zeros n) (by rw [hz]; exact H) (by rw [hz]; omega) (okW_zeros n) w g1 g2 g3 bt a cap al capl l hll
 refine ⟨d,n,G,_,(paftGV d.us d.pg d.st l [] (zeros n)).1,S,hn,hl,okw,P,hQQ fun a capl w hsz hli => ?_⟩
 have EL := hQQ hl
 have OK := hQQ ok
 have HZ := hQQ hz
 obtain ⟨bt,hs⟩ := hsz
 have HS : Hid (SzAt bt w) := hQQ hs
 have sz0 := HS.out.lt0
 have szb := HS.out.lt
 clear f0 f1 f2 f3 f4 f5 f6 f7 f8 f9 f10 okw ok hz H P hl hs
 generalize (paftGV d.us d.pg d.st l [] (zeros n)).1 = bsF at OK ⊢
 generalize (paftGV d.us d.pg d.st l [] (zeros n)).2 = xs at EL OK ⊢
 obtain ⟨w3,e3,ha,hb,hc,m3,s3⟩ := entry3 w (.cells #[.int .i64 y0,.int .i64 y1,.int .i64 y2,.int .i64 y3,.int .i64 y4,.int .i64 y5,.int .i64 y6,.int .i64 y7,.int .i64 y8,.int .i64 y9,.int .i64 y10] 23) (.cells #[.slice a l.length capl] 24) (.cells zero24 28)
 have HA := hQQ ha
 have HB := hQQ hb
 have HC := hQQ hc
 have M3 := hQQ m3
 have HL := hQQ (hli.more m3)
 have LA : l ≠ [] → ∀ k,leads a k → k < w.heap.size := fun ne => hli.lt ne
 clear ha hb hc m3 hli
 go_enter Tryz.func5,Tryz.ntmps5
 go_wp2_with (refine wpList_load_row rfl 23 _ rfl w.heap.size rfl 23 _ _ _ HA.out Tryz.underlying23 rfl (by kernel_rfl) ?_)
 clear e3
 refine (BEG.out _).mono ?_
 rintro e w5 ⟨g,n',hn',rfl,hrw,m5⟩
 obtain rfl : n' = n := by omega
 obtain ⟨w6,e6,b1,b2,b3,b4,m6,s6⟩ := rows2c w5 zero24 zero11 d.arr d.cells 28 56
 have wz : Ws w5 g n' (zeros n') := Ws.of_rw (base:=w3.heap.size) (by rw [HZ.out]; exact hrw)
 have B1 := hQQ b1
 have B2 := hQQ b2
 have m36 := m5.trans m6
 obtain ⟨w9,e9,hb9,m69,s9⟩ := entry1 w6 (.cells #[.slice none 0 0] 30)
 have RC := hQQ (m69.block (m36.block HC.out))
 have LC := hQQ (m69.block b3)
 have WZ := hQQ ((wz.more m6).more m69)
 have M9 := hQQ ((M3.out.trans m36).trans m69)
 have HL9 := hQQ ((HL.out.more m36).more m69)
 have h35 := m5.size
 have h6s : w5.heap.size + 2 ≤ w6.heap.size := by omega
 have h3s : w.heap.size + 3 ≤ w3.heap.size := by omega
 have DO := OK.out w9 w6.heap.size (w.heap.size + 1) w5.heap.size bt (some ⟨g,0,none⟩) n' a capl ⟨⟨m69.block (m36.block HB.out),LC.out,HL9.out,HS.out.more M9.out⟩,_,hb9⟩ (by
   rintro k (rfl | rfl | rfl | rfl | ⟨ne,hk⟩)
   · omega
   · omega
   · omega
   · omega
   · have := LA ne k hk; omega) WZ.out.words
 rw [HZ.out] at DO
 have DO := hQQ DO
 clear b1 b2 b3 b4 hrw wz m5 m6 m36 BEG OK HA HB HC HL hb9 m69 s6 s3
 go_wp2_with (first
   | (refine wpList_store_row rfl 28 _ _ rfl w5.heap.size _ rfl rfl 28 zero24 B1.out (by kernel_rfl) rfl (arr_one d) ?_)
   | (refine wpList_store_row rfl 56 _ _ rfl (w5.heap.size + 1) _ rfl rfl 56 zero11 B2.out (by kernel_rfl) rfl (cells_one d) ?_))
 clear e6 e9
 refine DO.out.mono ?_
 rintro e w10 ⟨v1,v2,b,rfl,hr,t10,hC,hbb,⟨vb,hx1,hx2⟩⟩
 have t10s := t10.size
 obtain ⟨av,cv,rfl,hrd⟩ := hr.reads
 obtain ⟨gz,rfl,hb1,hb2,_⟩ := hrd 0 (by rw [EL.out]; omega)
 have NW := hQQ (Ws.of_rw hr)
 rw [EL.out]
 have LC7 := hQQ hC.h3
 have RC7 := hQQ ((t10.block _ (lt_of_heap RC.out) (by omega)).trans RC.out)
 have M10 : Hid (More w w10) := hQQ (Turned.mono (turned_own (F:=fun _ => False) M9.out t10 (fun b e => .inr (by omega))) (fun _ _ q => q))
 have h9w : w.heap.size + 3 ≤ w9.heap.size := by omega
 have XI : Hid (Rw (w.heap.size + 3) w10 vb bsF) := hQQ (hx2.mono (by omega))
 have HX := hQQ hx1
 have hgz : w.heap.size ≤ gz := by omega
 have hgz2 : w9.heap.size ≤ gz := hb1
 have lr := lt_of_heap RC.out
 clear hr hrd hb1 hb2 DO hx1 hx2 t10 hC
 have e1 : ((n' : Int) == (n' : Int)) = true := by simp
 go_wp2_with fail
 have KC : Hid (∀ W,More w10 W → AftG d w5.heap.size w6.heap.size vb W) := hQQ fun W m => ⟨m.block LC7.out,m.block HX.out⟩
 have KS : Hid (∀ W,More w10 W → AftG d w5.heap.size w6.heap.size vb (W.setRow (w.heap.size + 2) d.arr)) := hQQ fun W m => ⟨(setRow_other _ _ _ _ (by omega)).trans (m.block LC7.out),(setRow_other _ _ _ _ (by omega)).trans (m.block HX.out)⟩
 refine wp_region_anyC (AftG d w5.heap.size w6.heap.size vb) (by kernel_rfl) ?_
 change anyC _ _ _ _ _ _ _ _ (w10.drewN 1)
 have MR := hQQ ((More.refl w10).drewN 1)
 generalize w10.drewN 1 = wr at MR ⊢
 generalize hA : Act.mk _ _ = A
 have HF : AG 40 A [(4,.pointer (some ⟨w.heap.size + 2,0,none⟩)),(8,.pointer (some ⟨w5.heap.size,0,none⟩)),(11,.pointer (some ⟨w6.heap.size,0,none⟩)),(12,.slice (some ⟨gz,0,none⟩) n' cv),(14,.int .i64 0),(10,.slice (some ⟨g,0,none⟩) n' n')] := by
   rw [← hA]
   refine ⟨⟨Nat.le_of_ble_eq_true rfl,rfl⟩,?_⟩
   intro z hz; simp only [List.mem_cons,List.not_mem_nil,or_false] at hz; rcases hz with rfl | rfl | rfl | rfl | rfl | rfl <;> rfl
 refine anyC_start (fun a W => ∃ (u28 u29 u30 u31 u32 u33 u34 u35 u36 u37 u38 u39 : Value) (w11 : World),a = (Act.put (Act.put (Act.put (Act.put (Act.put (Act.put (Act.put (Act.put (Act.put (Act.put (Act.put (Act.put (Act.put (Act.put (Act.put (Act.put A (some 28) u28) (some 29) u29) (some 30) u30) (some 31) u31) (some 32) u32) (some 33) u33) (some 34) u34) (some 35) u35) (some 36) u36) (some 37) u37) (some 38) u38) (some 39) u39) none undef) (some 5) (.slice (some ⟨gz,0,none⟩) n' cv)) (some 6) (vb)) (some 7) (.bool true)) ∧ More w10 w11 ∧ W = w11.setRow (w.heap.size + 2) d.arr) (fun _ => False) [] (fun a W hd h => h.elim) (fun _ _ _ _ _ h => h) ?_ ?_
 · skip
   rintro a wb ⟨u28,u29,u30,u31,u32,u33,u34,u35,u36,u37,u38,u39,w11,rfl,m11,rfl⟩
   rw [← hA]
   have RC8 := hQQ (m11.block RC7.out)
   have N8 := hQQ (NW.out.more m11)
   have I8 := hQQ (XI.out.more m11)
   have M11 := hQQ (M10.out.trans m11)
   clear m11 HF hA MR
   go_simp
   go_wp2_with fail
   have tR := Turned.setRow (S:=fun b => b = w.heap.size + 2) (Turned.refl _ w11) (w.heap.size + 2) d.arr (fun _ => rfl)
   refine bodyPost_ret (results_cttt1 Tryz.results5 _ _ (w.heap.size + 2) (.agg d.arr) rfl (run_loadVar_row _ _ _ _ _ _ _ (setRow_heap _ _ _ _ _ _ RC8.out) Tryz.underlying28 rfl (by kernel_rfl))) rfl ⟨gz,cv,_,rfl,N8.out.keep tR (by omega),(I8.out.keepT tR (fun q hq => by have := (I8.out.own hq).1; omega)).mono (by omega),hgz,?_⟩
   exact Turned.mono (turned_own (F:=fun _ => False) M11.out tR (fun b q => .inr (by omega))) (fun _ _ q => q)
 intro QQ FINE FIND FINQ
 clear hA
 refine anyC_takeD (i:=0) (v:=.agg d.arr) (some 28) rfl rfl (by kernel_rfl) (by kernel_rfl) (by kernel_rfl) (fun c a w => FINQ c a _ _ w) (KC.out wr MR.out) (by exact yieldsC_row (C:=(AftG d w5.heap.size w6.heap.size vb)) (wanted_none rfl) 28 _ rfl w5.heap.size (HF.get 1 rfl) 28 _ _ _ (fun W hW => hW.1) Tryz.underlying28 rfl (by kernel_rfl)) ?_
 replace HF := HF.put 28 (.agg d.arr) (by decide) rfl
 generalize hB1_28 : Act.put _ _ _ = A at HF ⊢
 refine anyC_takeD (i:=1) (v:=.slice (some ⟨gz,0,none⟩) n' cv) (some 29) rfl rfl (by kernel_rfl) (by kernel_rfl) (by kernel_rfl) (fun c a w => FINQ c a _ _ w) (KC.out wr MR.out) (by exact yieldsC_moveG (wanted_none rfl) _ rfl (HF.get 4 rfl)) ?_
 replace HF := HF.put 29 (.slice (some ⟨gz,0,none⟩) n' cv) (by decide) rfl
 generalize hB2_29 : Act.put _ _ _ = A at HF ⊢
 refine anyC_takeD (i:=2) (v:=vb) (some 30) rfl rfl (by kernel_rfl) (by kernel_rfl) (by kernel_rfl) (fun c a w => FINQ c a _ _ w) (KC.out wr MR.out) (by exact yieldsC_cell (C:=(AftG d w5.heap.size w6.heap.size vb)) (wanted_none rfl) 30 _ rfl (w6.heap.size) 0 (HF.get 4 rfl) (vb) _ Tryz.underlying30 rfl (fun W hW => (box_cells hW.2).1)) ?_
 replace HF := HF.put 30 (vb) (by decide) rfl
 generalize hB3_30 : Act.put _ _ _ = A at HF ⊢
 refine anyC_takeD (i:=3) (v:=.int .i64 0) (some 31) rfl rfl (by kernel_rfl) (by kernel_rfl) (by kernel_rfl) (fun c a w => FINQ c a _ _ w) (KC.out wr MR.out) (by exact yieldsC_moveG (wanted_none rfl) _ rfl (HF.get 7 rfl)) ?_
 replace HF := HF.put 31 (.int .i64 0) (by decide) rfl
 generalize hB4_31 : Act.put _ _ _ = A at HF ⊢
 refine anyC_takeD (i:=4) (v:=.bool true) (some 32) rfl rfl (by kernel_rfl) (by kernel_rfl) (by kernel_rfl) (fun c a w => FINQ c a _ _ w) (KC.out wr MR.out) (by exact (Or.inl ⟨(wanted_none rfl),fun W hW => by have h5 := (HF.getD 0 rfl); go_simp⟩)) ?_
 replace HF := HF.put 32 (.bool true) (by decide) rfl
 generalize hB5_32 : Act.put _ _ _ = A at HF ⊢
 refine anyC_takeD (i:=5) (v:=.bool true) (some 33) rfl rfl (by kernel_rfl) (by kernel_rfl) (by kernel_rfl) (fun c a w => FINQ c a _ _ w) (KC.out wr MR.out) (by exact yieldsC_moveG (wanted_none rfl) _ rfl (HF.get 0 rfl)) ?_
 replace HF := HF.put 33 (.bool true) (by decide) rfl
 generalize hB6_33 : Act.put _ _ _ = A at HF ⊢
 refine anyC_takeD (i:=6) (v:=.slice (some ⟨gz,0,none⟩) n' cv) (some 34) rfl rfl (by kernel_rfl) (by kernel_rfl) (by kernel_rfl) (fun c a w => FINQ c a _ _ w) (KC.out wr MR.out) (by exact yieldsC_moveG (wanted_g 5 true 33 rfl rfl (HF.at (by decide) 0 rfl)) _ rfl (HF.get 9 rfl)) ?_
 replace HF := HF.put 34 (.slice (some ⟨gz,0,none⟩) n' cv) (by decide) rfl
 generalize hB7_34 : Act.put _ _ _ = A at HF ⊢
 refine anyC_takeD (i:=7) (v:=.int .i64 (n' : Int)) (some 35) rfl rfl (by kernel_rfl) (by kernel_rfl) (by kernel_rfl) (fun c a w => FINQ c a _ _ w) (KC.out wr MR.out) (by exact (Or.inl ⟨(wanted_g 5 true 33 rfl rfl (HF.at (by decide) 1 rfl)),fun W hW => by have h5 := (HF.getD 0 rfl); go_simp⟩)) ?_
 replace HF := HF.put 35 (.int .i64 (n' : Int)) (by decide) rfl
 generalize hB8_35 : Act.put _ _ _ = A at HF ⊢
 refine anyC_takeD (i:=8) (v:=.slice (some ⟨g,0,none⟩) n' n') (some 36) rfl rfl (by kernel_rfl) (by kernel_rfl) (by kernel_rfl) (fun c a w => FINQ c a _ _ w) (KC.out wr MR.out) (by exact yieldsC_moveG (wanted_g 5 true 33 rfl rfl (HF.at (by decide) 2 rfl)) _ rfl (HF.get 13 rfl)) ?_
 replace HF := HF.put 36 (.slice (some ⟨g,0,none⟩) n' n') (by decide) rfl
 generalize hB9_36 : Act.put _ _ _ = A at HF ⊢
 refine anyC_takeD (i:=9) (v:=.int .i64 (n' : Int)) (some 37) rfl rfl (by kernel_rfl) (by kernel_rfl) (by kernel_rfl) (fun c a w => FINQ c a _ _ w) (KC.out wr MR.out) (by exact (Or.inl ⟨(wanted_g 5 true 33 rfl rfl (HF.at (by decide) 3 rfl)),fun W hW => by have h5 := (HF.getD 0 rfl); go_simp⟩)) ?_
 replace HF := HF.put 37 (.int .i64 (n' : Int)) (by decide) rfl
 generalize hB10_37 : Act.put _ _ _ = A at HF ⊢
 refine anyC_takeD (i:=10) (v:=.bool true) (some 38) rfl rfl (by kernel_rfl) (by kernel_rfl) (by kernel_rfl) (fun c a w => FINQ c a _ _ w) (KC.out wr MR.out) (by exact yieldsC_eqI (wanted_g 5 true 33 rfl rfl (HF.at (by decide) 4 rfl)) rfl (HF.get 2 rfl) (HF.get 0 rfl) true (by simp)) ?_
 replace HF := HF.put 38 (.bool true) (by decide) rfl
 generalize hB11_38 : Act.put _ _ _ = A at HF ⊢
 refine anyC_takeD (i:=11) (v:=.bool true) (some 39) rfl rfl (by kernel_rfl) (by kernel_rfl) (by kernel_rfl) (fun c a w => FINQ c a _ _ w) (KC.out wr MR.out) (by exact yieldsC_pickT (wanted_none rfl) rfl (HF.get 5 rfl) (HF.get 0 rfl)) ?_
 replace HF := HF.put 39 (.bool true) (by decide) rfl
 generalize hB12_39 : Act.put _ _ _ = A at HF ⊢
 refine anyC_oneK (i:=12) none (by kernel_rfl) rfl (wanted_none rfl) rfl (fun K hK => ?_)
 refine wp_store_row 28 _ _ rfl (w.heap.size + 2) _ (HF.get 12 rfl) (HF.get 11 rfl) 28 zero24 (MR.out.block RC7.out) (by kernel_rfl) rfl (arr_one d) ?_
 have CS := KS.out wr MR.out
 refine hK _ _ CS ?_
 clear hK K
 replace HF := HF.skip3 undef
 generalize hBN : Act.put _ _ _ = A at HF ⊢
 refine anyC_takeD (i:=13) (v:=.slice (some ⟨gz,0,none⟩) n' cv) (some 5) rfl rfl (by kernel_rfl) (by kernel_rfl) (by kernel_rfl) (fun c a w => FINQ c a _ _ w) CS (by exact yieldsC_assign (wanted_none rfl) _ rfl (HF.get 10 rfl)) ?_
 replace HF := HF.put 5 (.slice (some ⟨gz,0,none⟩) n' cv) (by decide) rfl
 generalize hB13_5 : Act.put _ _ _ = A at HF ⊢
 refine anyC_takeD (i:=14) (v:=vb) (some 6) rfl rfl (by kernel_rfl) (by kernel_rfl) (by kernel_rfl) (fun c a w => FINQ c a _ _ w) CS (by exact yieldsC_assign (wanted_none rfl) _ rfl (HF.get 10 rfl)) ?_
 replace HF := HF.put 6 (vb) (by decide) rfl
 generalize hB14_6 : Act.put _ _ _ = A at HF ⊢
 refine anyC_takeD (i:=15) (v:=.bool true) (some 7) rfl rfl (by kernel_rfl) (by kernel_rfl) (by kernel_rfl) (fun c a w => FINQ c a _ _ w) CS (by exact yieldsC_assign (wanted_none rfl) _ rfl (HF.get 2 rfl)) ?_
 replace HF := HF.put 7 (.bool true) (by decide) rfl
 generalize hB15_7 : Act.put _ _ _ = A at HF ⊢
 exact anyC_done (by kernel_rfl) (FINE _ _ ⟨(.agg d.arr),(.slice (some ⟨gz,0,none⟩) n' cv),(vb),(.int .i64 0),(.bool true),(.bool true),(.slice (some ⟨gz,0,none⟩) n' cv),(.int .i64 (n' : Int)),(.slice (some ⟨g,0,none⟩) n' n'),(.int .i64 (n' : Int)),(.bool true),(.bool true),wr,by rw [← hB15_7,← hB14_6,← hB13_5,← hBN,← hB12_39,← hB11_38,← hB10_37,← hB9_36,← hB8_35,← hB7_34,← hB6_33,← hB5_32,← hB4_31,← hB3_30,← hB2_29,← hB1_28],MR.out,rfl⟩)
structure BkK (c : Cfg) (g1 g2 bt : Nat) (k : Int) (w : World) : Prop where
 h1 : w.heap[g1]? = some (.cells c.arr 28 (0,0))
 h2 : w.heap[g2]? = some (.cells #[.int .i64 k] 3 (0,0))
 sz : SzAt bt w
def BkO (g1 g2 bt k : Nat) : Prop := k = g1 ∨ k = g2 ∨ k = 0 ∨ k = bt
theorem BkK.keep {c : Cfg} {g1 g2 bt : Nat} {k : Int} {S : Nat → Prop} {w w' : World} (h : BkK c g1 g2 bt k w) (t : Turned S w w') (n : ∀ b,BkO g1 g2 bt b → ¬ S b) : BkK c g1 g2 bt k w' :=
 ⟨(t.block _ (lt_of_heap h.h1) (n _ (.inl rfl))).trans h.h1,(t.block _ (lt_of_heap h.h2) (n _ (.inr (.inl rfl)))).trans h.h2,h.sz.keep t (n _ (.inr (.inr (.inl rfl)))) (n _ (.inr (.inr (.inr rfl))))⟩
theorem BkK.lt {c : Cfg} {g1 g2 bt : Nat} {k : Int} {w : World} (h : BkK c g1 g2 bt k w) {b : Nat} (hb : BkO g1 g2 bt b) : b < w.heap.size := by
 rcases hb with rfl | rfl | rfl | rfl
 · exact lt_of_heap h.h1
 · exact lt_of_heap h.h2
 · exact h.sz.lt0
 · exact h.sz.lt
abbrev FuA := Bool × Int × Bool
def fuP (us pg st k : Int) : Prg FuA := bindP (roomP pg st k) fun r => bindP (grabP us pg st k) fun x => pureP (r,x.1,x.2)
theorem sound_fu (us pg st k : Int) : Sound (fuP us pg st k) := sound_bind (sound_room _ _ _) fun r => sound_bind (sound_grab _ _ _ _) fun x => sound_pure _
def fuV (us pg st k : Int) (ws : List Int) : FuA × List Int := ((roomV pg st k ws,(grabV us pg st k ws).1.1,(grabV us pg st k ws).1.2),(grabV us pg st k ws).2)
section
variable {pg st : Int} {n : Nat} (H : HdIn pg st n)
include H
theorem good_fu (us k : Int) : Good n (fun _ => True) (fuP us pg st k) := good_bind (good_roomP H _) fun _ _ => good_bind (good_grab H _ _) fun _ _ => good_pure n trivial
theorem flat_fu (us k : Int) : Flat n (fuP us pg st k) (fuV us pg st k) := flat_eq (flat_bind (flat_room H k) fun r => flat_bind (flat_grab H us k) fun x => flat_pure n _) fun ws _ => rfl
end
def BoxFi (g : Nat) (w : World) (x : Int) : Prop := w.heap[g]? = some (.cells #[.int .i64 x] 3 (0,0))
structure FuY (c : Cfg) (g1 g2 g3 g4 g5 bt : Nat) (k : Int) (w : World) : Prop where
 k : BkK c g1 g2 bt k w
 b : (∃ x,BoxB g3 w x) ∧ (∃ x,BoxFi g4 w x) ∧ ∃ x,BoxB g5 w x
def FuX (g3 g4 g5 : Nat) (x : FuA) (w : World) : Prop := BoxB g3 w x.1 ∧ BoxFi g4 w x.2.1 ∧ BoxB g5 w x.2.2
theorem set_oth5 {w : World} {g b : Nat} {v : Value} {o : Obj} (h : w.heap[b]? = some o) (hne : b ≠ g) : (w.setCell ⟨g,0,none⟩ v).heap[b]? = some o :=
 ((Turned.setCell (S:=fun k => k = g) (Turned.refl _ w) ⟨g,0,none⟩ v (fun _ => rfl)).block b (lt_of_heap h) hne).trans h
theorem fu_clo {c : Cfg} (R : c.Ok) {n : Nat} (H : HdIn c.pg c.st n) (hn : n ≤ 10000) (F : Nat → Prop) (p g1 g2 g3 g4 g5 bt : Nat) (kn : Int → Option Int) (k : Int) (W0 : World) (hv : ViewAt W0 F p kn []) (hk : OkK kn) (hY : FuY c g1 g2 g3 g4 g5 bt k W0) (nF : ∀ b,BkO g1 g2 bt b → ¬ F b) (n3 : ¬ F g3) (n4 : ¬ F g4) (n5 : ¬ F g5) (ne : ∀ b,BkO g1 g2 bt b → b ≠ g3 ∧ b ≠ g4 ∧ b ≠ g5) (hd : g3 ≠ g4 ∧ g3 ≠ g5 ∧ g4 ≠ g5) (ans : FuA)
   (ht : ∀ z D,fuP c.us c.pg c.st k kn [] = .ok z D → z = ans) :
   Calls Tryz.prog 13 #[.pointer (some ⟨p,0,none⟩),.pointer (some ⟨g1,0,none⟩),.pointer (some ⟨g2,0,none⟩),.pointer (some ⟨g3,0,none⟩),.pointer (some ⟨g4,0,none⟩),.pointer (some ⟨g5,0,none⟩)] W0 (WentY W0 F (fun b => b = g3 ∨ b = g4 ∨ b = g5) (fun w' => FuY c g1 g2 g3 g4 g5 bt k w') (fun w' => FuX g3 g4 g5 ans w') p kn (ranOf (fuP c.us c.pg c.st k kn []))) := by
 obtain ⟨Rr,hR⟩ : ∃ Rr,fuP c.us c.pg c.st k kn [] = Rr := ⟨_,rfl⟩
 rw [hR] at ht ⊢
 obtain ⟨hK,⟨z3,h3⟩,⟨z4,h4⟩,⟨z5,h5⟩⟩ := hY
 have l3 := lt_of_heap h3
 have l4 := lt_of_heap h4
 have l5 := lt_of_heap h5
 have HK := hQQ hk
 have HR := hQQ R
 have HH := hQQ H
 have HN := hQQ hn
 have HT := hQQ ht
 have KT : Hid (∀ wr,Turned (fun b => F b ∨ (b = g3 ∨ b = g4 ∨ b = g5)) W0 wr → BkK c g1 g2 bt k wr) := hQQ fun wr t => hK.keep t (fun b q => by
   obtain ⟨e3,e4,e5⟩ := ne b q
   rintro (z | z | z | z); exact nF b q z; exact e3 z; exact e4 z; exact e5 z)
 have N3 : Hid (∀ wr D' F',MidV W0 wr F (fun b => b = g3 ∨ b = g4 ∨ b = g5) p kn n D' F' → ¬ F' g3 ∧ ¬ F' g4 ∧ ¬ F' g5) := hQQ fun wr D' F' h => ⟨h.off l3 n3,h.off l4 n4,h.off l5 n5⟩
 have NZ : Hid (∀ wr D' F',MidV W0 wr F (fun b => b = g3 ∨ b = g4 ∨ b = g5) p kn n D' F' → ¬ F' 0 ∧ ¬ F' bt) := hQQ fun wr D' F' h => ⟨h.off (hK.lt (.inr (.inr (.inl rfl)))) (nF _ (.inr (.inr (.inl rfl)))),h.off (hK.lt (.inr (.inr (.inr rfl)))) (nF _ (.inr (.inr (.inr rfl))))⟩
 have NEED : Hid (∀ x w2,Rr = .need x → DeadAt w2 p x → Turned (fun b => F b ∨ (b = g3 ∨ b = g4 ∨ b = g5)) W0 w2 → ((∃ x,BoxB g3 w2 x) ∧ (∃ x,BoxFi g4 w2 x) ∧ ∃ x,BoxB g5 w2 x) → WentY W0 F (fun b => b = g3 ∨ b = g4 ∨ b = g5) (fun w' => FuY c g1 g2 g3 g4 g5 bt k w') (fun w' => FuX g3 g4 g5 ans w') p kn (ranOf Rr) (.panicked (endOf p)) w2) := hQQ fun x w2 e hd' ht' q =>
   wy_need (ranOf_need e) hd' ht' ⟨KT.out _ ht',q⟩
 have M0 : Hid (MidV W0 W0 F (fun b => b = g3 ∨ b = g4 ∨ b = g5) p kn n [] F) := hQQ (MidV.begin hv (invD_nil n))
 have B0 : Hid (BoxB g3 W0 z3 ∧ BoxFi g4 W0 z4 ∧ BoxB g5 W0 z5) := hQQ ⟨h3,h4,h5⟩
 have R0 := hQQ (show bindP (roomP c.pg c.st k) (fun r => bindP (grabP c.us c.pg c.st k) fun x => pureP (r,x.1,x.2)) kn [] = Rr from hR)
 have L0 := hQQ hK.h1
 have c20 := (box_cells hK.h2).1
 have K0 := hQQ hK
 have Z0 := hQQ (NZ.out _ _ _ M0.out)
 clear hv hk R H hR ht h3 h4 h5 hK nF n3 n4 n5 hn
 go_enter Tryz.func13,Tryz.ntmps13
 go_wp2_with (refine wpList_load_rowG rfl 28 _ rfl _ rfl 28 _ _ _ L0.out Tryz.underlying28 rfl (by kernel_rfl) ?_)
 refine (g_Room HR.out HH.out F p kn [] k W0 M0.out.view HK.out M0.out.inv bt K0.out.sz Z0.out.1 Z0.out.2).mono ?_
 intro e w1 he
 rcases M0.out.step (More.refl _) HK.out (good_roomP HH.out _) he with ⟨a',hE,rfl,hd',ht',hk'⟩ | ⟨x1,D1,F1,hE,rfl,M1',hq1,hk',hf'⟩
 · exact ⟨rfl,NEED.out a' w1 (R0.out.symm.trans (bindP_need hE)) hd' ht' ⟨⟨_,hk' _ _ (N3.out _ _ _ M0.out).1 B0.out.1⟩,⟨_,hk' _ _ (N3.out _ _ _ M0.out).2.1 B0.out.2.1⟩,⟨_,hk' _ _ (N3.out _ _ _ M0.out).2.2 B0.out.2.2⟩⟩⟩
 have B1 := hQQ (And.intro (hk' _ _ (N3.out _ _ _ M0.out).1 B0.out.1) (And.intro (hk' _ _ (N3.out _ _ _ M0.out).2.1 B0.out.2.1) (hk' _ _ (N3.out _ _ _ M0.out).2.2 B0.out.2.2)))
 have R1 := hQQ ((bindP_ok hE).symm.trans R0.out)
 have M1 := hQQ M1'
 clear he hE hk' hf' hq1 M1'
 obtain ⟨c3,f3,k3⟩ := box_cells B1.out.1
 obtain ⟨w2,e2⟩ : ∃ w2,w1.setCell ⟨g3,0,none⟩ (.bool x1) = w2 := ⟨_,rfl⟩
 have M2 : Hid (MidV W0 w2 F (fun b => b = g3 ∨ b = g4 ∨ b = g5) p kn n D1 F1) := hQQ (by rw [← e2]; exact M1.out.box (fun _ => .inl rfl) (N3.out _ _ _ M1.out).1 _ B1.out.1)
 have B2 : Hid (BoxB g3 w2 x1 ∧ BoxFi g4 w2 z4 ∧ BoxB g5 w2 z5) := hQQ (by rw [← e2]; exact ⟨setCell_one B1.out.1 _,set_oth5 B1.out.2.1 (Ne.symm hd.1),set_oth5 B1.out.2.2 (Ne.symm hd.2.1)⟩)
 have K2 := hQQ (KT.out _ M2.out.turn)
 have L2 := hQQ K2.out.h1
 have c22 := (box_cells K2.out.h2).1
 have Z2 := hQQ (NZ.out _ _ _ M2.out)
 clear c20 L0 M1 B1
 go_wp2_with (refine wpList_load_rowG rfl 28 _ rfl _ rfl 28 _ _ _ L2.out Tryz.underlying28 rfl (by kernel_rfl) ?_)
 clear c3 f3 k3 e2
 refine (g_Grab HR.out HH.out HN.out F1 p kn D1 k w2 M2.out.view HK.out M2.out.inv bt K2.out.sz Z2.out.1 Z2.out.2).mono ?_
 intro e w4 he
 rcases M2.out.step (More.refl _) HK.out (good_grab HH.out _ _) he with ⟨a',hE,rfl,hd',ht',hk'⟩ | ⟨x4,D4,F4,hE,rfl,M4',hq4,hk',hf'⟩
 · exact ⟨rfl,NEED.out a' w4 (R1.out.symm.trans (bindP_need hE)) hd' ht' ⟨⟨_,hk' _ _ (N3.out _ _ _ M2.out).1 B2.out.1⟩,⟨_,hk' _ _ (N3.out _ _ _ M2.out).2.1 B2.out.2.1⟩,⟨_,hk' _ _ (N3.out _ _ _ M2.out).2.2 B2.out.2.2⟩⟩⟩
 have B4 := hQQ (And.intro (hk' _ _ (N3.out _ _ _ M2.out).1 B2.out.1) (And.intro (hk' _ _ (N3.out _ _ _ M2.out).2.1 B2.out.2.1) (hk' _ _ (N3.out _ _ _ M2.out).2.2 B2.out.2.2)))
 have R4 := hQQ ((bindP_ok hE).symm.trans R1.out)
 have M4 := hQQ M4'
 clear he hE hk' hf' hq4 M4'
 obtain ⟨xa,xb⟩ := x4
 have hx : (x1,xa,xb) = ans := HT.out _ D4 R4.out.symm
 obtain ⟨c4,f4,k4⟩ := box_cells B4.out.2.1
 obtain ⟨w5,e5⟩ : ∃ w5,w4.setCell ⟨g4,0,none⟩ (.int .i64 xa) = w5 := ⟨_,rfl⟩
 have M5 : Hid (MidV W0 w5 F (fun b => b = g3 ∨ b = g4 ∨ b = g5) p kn n D4 F4) := hQQ (by rw [← e5]; exact M4.out.box (fun _ => .inr (.inl rfl)) (N3.out _ _ _ M4.out).2.1 _ B4.out.2.1)
 have B5 : Hid (BoxB g3 w5 x1 ∧ BoxFi g4 w5 xa ∧ BoxB g5 w5 z5) := hQQ (by rw [← e5]; exact ⟨set_oth5 B4.out.1 hd.1,setCell_one B4.out.2.1 _,set_oth5 B4.out.2.2 (Ne.symm hd.2.2)⟩)
 obtain ⟨c5,f5,k5⟩ := box_cells B5.out.2.2
 obtain ⟨w6,e6⟩ : ∃ w6,w5.setCell ⟨g5,0,none⟩ (.bool xb) = w6 := ⟨_,rfl⟩
 have M6 : Hid (MidV W0 w6 F (fun b => b = g3 ∨ b = g4 ∨ b = g5) p kn n D4 F4) := hQQ (by rw [← e6]; exact M5.out.box (fun _ => .inr (.inr rfl)) (N3.out _ _ _ M5.out).2.2 _ B5.out.2.2)
 have B6 : Hid (BoxB g3 w6 x1 ∧ BoxFi g4 w6 xa ∧ BoxB g5 w6 xb) := hQQ (by rw [← e6]; exact ⟨set_oth5 B5.out.1 hd.2.1,set_oth5 B5.out.2.1 hd.2.2,setCell_one B5.out.2.2 _⟩)
 have FIN : Hid (WentY W0 F (fun b => b = g3 ∨ b = g4 ∨ b = g5) (fun w' => FuY c g1 g2 g3 g4 g5 bt k w') (fun w' => FuX g3 g4 g5 ans w') p kn (ranOf Rr) (.returned (.tuple #[])) w6) := hQQ (by
   subst hx
   exact wy_done M6.out (ranOf_ok R4.out.symm) ⟨KT.out _ M6.out.turn,⟨_,B6.out.1⟩,⟨_,B6.out.2.1⟩,⟨_,B6.out.2.2⟩⟩ B6.out)
 clear hx c22 L2
 go_wp2_with fail
 go_end0
 exact FIN.out
theorem fu_do {c : Cfg} (R : c.Ok) (zs : List Int) (H : HdIn c.pg c.st zs.length) (hlen : zs.length ≤ 1000) (hz : OkW zs) (k : Int) (w : World) (g1 g2 g3 g4 g5 bt : Nat) (a : Option Addr) (cap : Nat) (hY : FuY c g1 g2 g3 g4 g5 bt k w) (ne : ∀ b,BkO g1 g2 bt b → b ≠ g3 ∧ b ≠ g4 ∧ b ≠ g5) (hd : g3 ≠ g4 ∧ g3 ≠ g5 ∧ g4 ≠ g5) (hw : IsWords w a zs) :
   Calls Tryz.prog 12 #[.slice a zs.length cap,.func (.func 13) #[] #[.pointer (some ⟨g1,0,none⟩),.pointer (some ⟨g2,0,none⟩),.pointer (some ⟨g3,0,none⟩),.pointer (some ⟨g4,0,none⟩),.pointer (some ⟨g5,0,none⟩)]] w (fun e w' => ∃ v1 v2,e = .returned (.tuple #[v1,v2,.int .i64 0]) ∧ FuX g3 g4 g5 (fuV c.us c.pg c.st k zs).1 w' ∧ Turned (fun b => b = g3 ∨ b = g4 ∨ b = g5) w w') := by
 have lo : ∀ b,BkO g1 g2 bt b → b < w.heap.size := fun b hb => hY.k.lt hb
 have l3 : g3 < w.heap.size := by obtain ⟨v,h⟩ := hY.b.1; exact lt_of_heap h
 have l4 : g4 < w.heap.size := by obtain ⟨v,h⟩ := hY.b.2.1; exact lt_of_heap h
 have l5 : g5 < w.heap.size := by obtain ⟨v,h⟩ := hY.b.2.2; exact lt_of_heap h
 have G := good_fu H c.us k
 obtain ⟨K',hK',_,hans⟩ := flat_do (sound_fu c.us c.pg c.st k) G hz (flat_fu H c.us k)
 have M := doY_ok a cap zs (fun K => ranOf (fuP c.us c.pg c.st k (look K) [])) (some ((fuV c.us c.pg c.st k zs).2,K')) zs.length w hw hlen hz (fine_of G hz (by omega)) (by omega) hK' 13 #[.pointer (some ⟨g1,0,none⟩),.pointer (some ⟨g2,0,none⟩),.pointer (some ⟨g3,0,none⟩),.pointer (some ⟨g4,0,none⟩),.pointer (some ⟨g5,0,none⟩)] (fun b => b = g3 ∨ b = g4 ∨ b = g5)
   (fun w' => FuY c g1 g2 g3 g4 g5 bt k w') (fun w' => FuX g3 g4 g5 (fuV c.us c.pg c.st k zs).1 w')
   (fun b q => by rcases q with rfl | rfl | rfl; exact l3; exact l4; exact l5)
   (fun w' w'' y t => ⟨y.k.keep t (fun b hb q => by have := lo b hb; omega),by obtain ⟨⟨x3,h3⟩,⟨x4,h4⟩,⟨x5,h5⟩⟩ := y.b; exact ⟨⟨x3,(t.block g3 (lt_of_heap h3) (by omega)).trans h3⟩,⟨x4,(t.block g4 (lt_of_heap h4) (by omega)).trans h4⟩,⟨x5,(t.block g5 (lt_of_heap h5) (by omega)).trans h5⟩⟩⟩)
   (fun w' w'' y t => ⟨(t.block g3 (lt_of_heap y.1) (by omega)).trans y.1,(t.block g4 (lt_of_heap y.2.1) (by omega)).trans y.2.1,(t.block g5 (lt_of_heap y.2.2) (by omega)).trans y.2.2⟩) hY (enters_of Tryz.func13 (by kernel_rfl) rfl)
   (fun K hK W F p t yy hv hF => fu_clo R H (by omega) F p g1 g2 g3 g4 g5 bt (look K) k W hv (okK_of hK hz) yy (fun b hb q => by have := hF _ q; have := lo b hb; omega) (fun q => by have := hF _ q; omega) (fun q => by have := hF _ q; omega) (fun q => by have := hF _ q; omega) ne hd _
     (fun z D e => hans K hK z D e))
 refine M.mono ?_
 rintro e w' ⟨v1,v2,rfl,_,_,t,_,x⟩
 exact ⟨v1,v2,rfl,x,t⟩
theorem pt_rd {w : World} {g cap : Nat} {zs : List Int} (h : Ws w g cap zs) {i : Int} (h0 : 0 ≤ i) (h1 : i < zs.length) : w.cell? ⟨g,i.toNat,none⟩ = some (.int .i64 (wAt zs i)) := by
 obtain ⟨cur,hg,_,_,_,hc⟩ := h
 have := hc i.toNat (by omega)
 rw [World.cell?]
 simp only [hg]
 simpa [wAt,Array.getElem?_toList] using this
theorem pg_noop {w : World} {g : Nat} {v : Value} {t : TypeId} {fr : Nat × Nat} (h : w.heap[g]? = some (.cells #[v] t fr)) : w.setCell ⟨g,0,none⟩ v = w := by
 unfold World.setCell
 have e : (w.heap.modify g fun x => match x with | .cells c elem frozen => .cells (if ((none : Option Nat)).isSome then c else c.setIfInBounds 0 v) elem frozen | o => o) = w.heap := by
   apply Array.ext
   · simp
   · intro i h1 h2
     rw [Array.getElem_modify]
     split
     · rename_i q
       subst q
       have : w.heap[g] = .cells #[v] t fr := by rw [Array.getElem?_eq_getElem h2] at h; simpa using h
       rw [this]
       simp
     · rfl
 show World.mk _ _ _ _ _ = _
 exact congrArg (fun h => World.mk h w.tape w.drawn w.os w.output) e
end Go.Proofs.YtmafllcmkhgidaaGreatDoor
