/-
  The document's own functions of lists, over a row of words that hold lists.
-/
import Derived.Test.YtflihdcliknggaaGreatDoorPpAp
import Derived.Test.YtflihdcliknggaaGreatDoorPpAq
import Derived.Test.YtflihdcliknggaaGreatDoorPpAm
import Derived.Test.YtflihdcliknggaaGreatDoorPpAl
import Derived.Test.YtflihdcliknggaaGreatDoorPpAh
import Derived.Test.YtflihdcliknggaaGreatDoorPpAj
set_option maxRecDepth 100000
set_option maxHeartbeats 8000000
set_option linter.unusedVariables false
set_option linter.unusedSimpArgs false
set_option linter.unusedSectionVars false
namespace Go.Proofs.YtflihdcliknggaaGreatDoor
open Go.RowKit Go.Sort Go.Maps Go.Shelf
theorem y_rhead {c : Cfg} (R : c.Ok) (w : World) (k f : Int) : Calls Tryz.prog 150 #[.agg c.cells,.int .i64 k,.int .i64 f] w (Gives w (.int .i64 (headV c.pg c.st k f))) := rhead c.wk c.cp c.pg c.st c.tr c.wt c.ck c.pr c.ca c.bi c.ba w k f R
theorem y_rnext {c : Cfg} (R : c.Ok) (w : World) (k : Int) : Calls Tryz.prog 117 #[.agg c.cells,.int .i64 k] w (Gives w (.int .i64 (pageV c.pg c.st 3 k))) := rnext c.wk c.cp c.pg c.st c.tr c.wt c.ck c.pr c.ca c.bi c.ba w k R
theorem y_rprev {c : Cfg} (R : c.Ok) (w : World) (k : Int) : Calls Tryz.prog 118 #[.agg c.cells,.int .i64 k] w (Gives w (.int .i64 (pageV c.pg c.st 4 k))) := rprev c.wk c.cp c.pg c.st c.tr c.wt c.ck c.pr c.ca c.bi c.ba w k R
theorem r10_there {c : Cfg} (R : c.Ok) (q k f : Int) (w : World) : Calls Tryz.prog 116 #[.agg c.cells,.int .i64 q,.int .i64 k,.int .i64 f] w (Gives w (.bool (isPage c.pg q && (headV c.pg c.st k f != 0)))) := by
 have hc := row_new w c.cells 30
 have HC := hQQ hc
 have x2 : (w.alloc (.cells c.cells 30)).cell? ⟨w.heap.size,2,none⟩ = some (.int .i64 c.pg) := cell_more hc (More.refl _) rfl
 have HM : Hid (More w (w.alloc (.cells c.cells 30))) := (More.refl w).alloc _
 have HR := hQQ R
 unfold isPage
 clear hc R
 by_cases a : 0 ≤ q
 · have d1 : decide (0 ≤ q) = true := by simpa using a
   by_cases b : q < c.pg
   · have d2 : decide (q < c.pg) = true := by simpa using b
     rw [d1,d2]
     simp only [Bool.true_and]
     clear a b
     go_enter Tryz.func116,Tryz.ntmps116
     go_wp2_with (refine wpList_load_rowG rfl 30 _ rfl _ rfl 30 _ _ _ HC.out Tryz.underlying30 rfl (by kernel_rfl) ?_)
     refine (y_rhead HR.out _ k f).mono ?_
     rintro e w1 ⟨rfl,h1⟩
     have HM1 := hQQ (HM.out.trans h1)
     clear h1
     go_wp2_with fail
     go_ret
     exact ⟨rfl,HM1.out⟩
   · have d2 : decide (q < c.pg) = false := by simpa using b
     rw [d1,d2]
     simp only [Bool.true_and,Bool.false_and]
     clear a b
     go_enter Tryz.func116,Tryz.ntmps116
     go_wp2_with fail
     go_ret
     exact ⟨rfl,HM.out⟩
 · have d1 : decide (0 ≤ q) = false := by simpa using a
   rw [d1]
   simp only [Bool.false_and]
   clear a
   go_enter Tryz.func116,Tryz.ntmps116
   go_wp2_with fail
   go_ret
   exact ⟨rfl,HM.out⟩
theorem nx_drop {l : List Int} (hd : l.Nodup) {k : Nat} (hk : k < l.length) : nxL l (l.getD k 0) = hd1 (l.drop (k + 1)) := by
 have hs : l = l.take k ++ l.getD k 0 :: l.drop (k + 1) := by
   rw [List.getD_eq_getElem?_getD,List.getElem?_eq_getElem hk]; simp
 have hnd : l.getD k 0 ∉ l.take k := by
   have hh := hd
   rw [hs] at hh
   intro q
   exact (List.nodup_append.1 hh).2.2 _ q _ (by simp) rfl
 have h1 := nxL_at (l.take k) (l.drop (k + 1)) _ hnd
 rw [← hs] at h1
 exact h1
theorem drop_cons {l : List Int} {k : Nat} (hk : k < l.length) : l.drop k = l.getD k 0 :: l.drop (k + 1) := by
 rw [List.drop_eq_getElem_cons hk,List.getD_eq_getElem?_getD,List.getElem?_eq_getElem hk]; rfl
theorem take_snoc {l : List Int} {k : Nat} (hk : k < l.length) : l.take (k + 1) = l.take k ++ [l.getD k 0] := by
 rw [List.take_add_one,List.getElem?_eq_getElem hk,List.getD_eq_getElem?_getD,List.getElem?_eq_getElem hk]; rfl
def GaveL (w : World) (xs : List Int) (e : Ending) (w' : World) : Prop := ∃ v,e = .returned v ∧ Rw w.heap.size w' v xs ∧ More w w' ∧ (xs = [] → v = .slice none 0 0)
def listG (pg st : Int) (G : Int → List Int) (k f : Int) : List Int := if headV pg st k f = 0 then [] else G (headV pg st k f)
theorem r10_List {c : Cfg} (R : c.Ok) (ws : List Int) (H : HdIn c.pg c.st ws.length) (hl : ws.length ≤ 1000) {G : Int → List Int} (L : Ln c.pg c.st G ws) (g cap : Nat) (k f : Int) (w : World) (hw : Ws w g cap ws) :
   Calls Tryz.prog 111 #[.agg c.cells,.slice (some ⟨g,0,none⟩) ws.length cap,.int .i64 k,.int .i64 f] w (GaveL w (listG c.pg c.st G k f)) := by
 have hc := row_new w c.cells 30
 have HC := hQQ hc
 have HM : Hid (More w (w.alloc (.cells c.cells 30))) := hQQ ((More.refl w).alloc _)
 have HR := hQQ R
 have HW := hQQ hw
 by_cases hz : headV c.pg c.st k f = 0
 · have YH : Hid (∀ W,Calls Tryz.prog 150 #[.agg c.cells,.int .i64 k,.int .i64 f] W (Gives W (.int .i64 0))) := hQQ fun W => by have := y_rhead R W k f; rwa [hz] at this
   rw [show listG c.pg c.st G k f = [] from if_pos hz]
   clear hc R hw hz
   go_enter Tryz.func111,Tryz.ntmps111
   go_wp2_with (refine wpList_load_rowG rfl 30 _ rfl _ rfl 30 _ _ _ HC.out Tryz.underlying30 rfl (by kernel_rfl) ?_)
   refine (YH.out _).mono ?_
   rintro e w1 ⟨rfl,h1⟩
   have HM1 := hQQ (HM.out.trans h1)
   clear h1
   go_wp2_with fail
   go_ret
   exact ⟨_,rfl,Rw.nil _ _,HM1.out,fun _ => rfl⟩
 obtain ⟨ha,k0,k1,f0,f1⟩ := head_hd hz
 obtain ⟨b0,b1,_⟩ := hd_b H ha
 rw [show listG c.pg c.st G k f = G (headV c.pg c.st k f) from if_neg hz]
 have hz' : (headV c.pg c.st k f == 0) = false := by simpa using hz
 have hsh := short H (L.page _ ha) (L.nodup _ ha)
 have hhd := L.head _ ha
 have hpg := L.page _ ha
 have hnx := fun p hp => L.next _ p ha hp
 have hnd := L.nodup _ ha
 have YH : Hid (∀ W,Calls Tryz.prog 150 #[.agg c.cells,.int .i64 k,.int .i64 f] W (Gives W (.int .i64 (headV c.pg c.st k f)))) := hQQ fun W => y_rhead R W k f
 obtain ⟨a,hae⟩ : ∃ a,headV c.pg c.st k f = a := ⟨_,rfl⟩
 rw [hae] at b0 b1 hz' hsh hhd hpg hnx hnd YH
 rw [hae]
 obtain ⟨l,hle⟩ : ∃ l,G a = l := ⟨_,rfl⟩
 rw [hle] at hsh hhd hpg hnx hnd
 rw [hle]
 obtain ⟨m,rfl⟩ : ∃ m : Nat,a = (m : Int) := ⟨a.toNat,by omega⟩
 have hm : m < ws.length := by omega
 have CA : Hid (∀ W,More w W → W.cell? ⟨g,m,none⟩ = some (.int .i64 (hd1 l))) := hQQ fun W hW => by
   have := (hw.more hW).cell hm
   rw [this]
   have : ws.getD m 0 = hd1 l := hhd
   rw [this]
 have NX : Hid (∀ p,p ∈ l → ∃ b : Nat,nA c.pg c.st p = (b : Int) ∧ b < ws.length ∧ ∀ W,More w W → W.cell? ⟨g,b,none⟩ = some (.int .i64 (nxL l p))) := hQQ fun p hp => by
   obtain ⟨⟨q0,q1,_⟩,_⟩ := nv_b H (hpg p hp)
   obtain ⟨b,hb⟩ : ∃ b : Nat,nA c.pg c.st p = (b : Int) := ⟨(nA c.pg c.st p).toNat,by omega⟩
   refine ⟨b,hb,by omega,fun W hW => ?_⟩
   have h1 := (hw.more hW).cell (i:=b) (by omega)
   have h2 := hnx p hp
   rw [hb] at h2
   have h2 : ws.getD b 0 = nxL l p := h2
   rw [h1,h2]
 have HPG := hQQ hpg
 have HND := hQQ hnd
 have pg1 := R.pg1
 have pg2 := R.pg2
 have x2 : (w.alloc (.cells c.cells 30)).cell? ⟨w.heap.size,2,none⟩ = some (.int .i64 c.pg) := cell_more hc (More.refl _) rfl
 have X2 := hQQ x2
 clear hc R hw hz L ha k0 k1 f0 f1 b0 hhd hpg hnx hnd hae hle HW x2 b1
 go_enter Tryz.func111,Tryz.ntmps111
 go_wp2_with (refine wpList_load_rowG rfl 30 _ rfl _ rfl 30 _ _ _ HC.out Tryz.underlying30 rfl (by kernel_rfl) ?_)
 refine (YH.out _).mono ?_
 rintro e w1 ⟨rfl,h1⟩
 have M1 := hQQ (HM.out.trans h1)
 have ca := CA.out _ M1.out
 have HC1 := hQQ (h1.block HC.out)
 have X3 := hQQ (h1.cell X2.out)
 clear h1 YH CA HC X2
 go_wp2_with fail
 clear ca
 go_loopw [10,11,12] (fun v10 v11 v12 wr => ∃ j : Nat,v12 = .int .i64 (j : Int) ∧ j ≤ l.length ∧ v11 = .int .i64 (hd1 (l.drop j)) ∧ Rw w1.heap.size wr v10 (l.take j) ∧ More w1 wr ∧ (j = 0 → v10 = .slice none 0 0)) (fun _ _ v12 _ => l.length - (intOf v12).toNat)
 case atStart => exact ⟨0,rfl,by omega,rfl,Rw.nil _ _,More.refl _,fun _ => rfl⟩
 case round =>
   obtain ⟨j,rfl,hj,rfl,hr,ht,hv0⟩ := hrel
   have q1 : IntKind.i64.wrap ((j : Int) + 1) = (j : Int) + 1 := wrap_in (by omega) (by omega)
   have x3 := ht.cell X3.out
   by_cases hlt : j < l.length
   · have d1 : decide ((j : Int) < c.pg) = true := by simp; omega
     have hmem := getD_mem hlt
     obtain ⟨b,hb,hbl,cb⟩ := NX.out _ hmem
     have hP := isPage_iff.1 (HPG.out _ hmem)
     have P3 := (page3 (st:=c.st) (HPG.out _ hmem)).trans hb
     have hnext := nx_drop HND.out hlt
     have hts := take_snoc hlt
     rw [drop_cons hlt]
     obtain ⟨P,hPe⟩ : ∃ P,l.getD j 0 = P := ⟨_,rfl⟩
     rw [hPe] at hb cb hP P3 hnext hts ⊢
     rw [hnext] at cb
     have hd1e : hd1 (P :: l.drop (j + 1)) = P + 1 := rfl
     rw [hd1e]
     have d2 : decide ((0 : Int) < P + 1) = true := by simp; omega
     have q2 : IntKind.i64.wrap (P + 1 - 1) = P := by rw [show P + 1 - 1 = P by omega]; exact wrap_in (by omega) (by omega)
     have CB := hQQ cb
     have PP3 := hQQ P3
     have HRW := hQQ hr
     have HT := hQQ ht
     have HTS := hQQ hts
     have HX3 := hQQ x3
     clear hmem cb P3 hnext hts hPe hr ht hd1e hv0
     go_wp2_with (first | (at_builtin; refine wpList_push _ rfl _ _ rfl rfl HRW.out HT.out (by simp; omega) rfl ?_; intro v' w2 hr2 hm2; have HR2 := hQQ hr2; have HM2 := hQQ hm2; have HC2 := hQQ (hm2.block HC1.out); clear hr2 hm2) | (refine wpList_load_rowG rfl 30 _ rfl _ rfl 30 _ _ _ HC2.out Tryz.underlying30 rfl (by kernel_rfl) ?_))
     refine (y_rnext HR.out _ P).mono ?_
     rw [PP3.out]
     rintro e w3 ⟨rfl,h3⟩
     have HM3 := hQQ (HM2.out.trans h3)
     have HR3 := hQQ (HR2.out.more h3)
     have cb := CB.out _ (M1.out.trans HM3.out)
     clear h3
     go_wp2_with fail
     go_roundw
     case rel => exact ⟨j + 1,by go_num,by omega,rfl,by rw [HTS.out]; exact HR3.out,HM3.out,fun e => by omega⟩
     case measure => simp [intOf]; omega
   · obtain rfl : j = l.length := by omega
     rw [List.drop_length]
     rw [List.take_length] at hr
     have hd0 : hd1 [] = 0 := rfl
     rw [hd0]
     have FIN := hQQ (show GaveL w l (.returned _) wr from ⟨_,rfl,hr.mono M1.out.size,M1.out.trans ht,fun e => hv0 (by rw [e]; rfl)⟩)
     clear hr ht hv0
     by_cases hp : (l.length : Int) < c.pg
     · have d1 : decide ((l.length : Int) < c.pg) = true := by simpa using hp
       clear hp
       go_wp2_with fail
       go_ret
       exact FIN.out
     · have d1 : decide ((l.length : Int) < c.pg) = false := by simpa using hp
       clear hp
       go_wp2_with fail
       go_ret
       exact FIN.out
theorem fst_atR {pg st : Int} {n : Nat} (H : HdIn pg st n) {G : Int → List Int} {ws : List Int} (L : Ln pg st G ws) {q f : Int} (h0 : headV pg st q f ≠ 0) : plLeadV pg (headV pg st q f) ws = fst1 (G (headV pg st q f)) := by
 have ha := (head_hd h0).1
 exact lead_hd H (by have := (hd_b H ha).1; omega) (L.head _ ha) (L.page _ ha)
theorem r10_First {c : Cfg} (R : c.Ok) (ws : List Int) (H : HdIn c.pg c.st ws.length) (hl : ws.length ≤ 1000) {G : Int → List Int} (L : Ln c.pg c.st G ws) (g cap : Nat) (k : Int) (w : World) (hw : Ws w g cap ws) :
   Calls Tryz.prog 75 #[.agg c.cells,.slice (some ⟨g,0,none⟩) ws.length cap,.int .i64 k] w (Gives w (.int .i64 (plFirstV c.pg c.st k (slotsC k).toNat 1 ws))) := by
 have hc := row_new w c.cells 30
 have HC := hQQ hc
 have HM : Hid (More w (w.alloc (.cells c.cells 30))) := hQQ ((More.refl w).alloc _)
 have HR := hQQ R
 have HW := hQQ hw
 have HH := hQQ H
 have HLn := hQQ L
 obtain ⟨res,hres⟩ : ∃ res,plFirstV c.pg c.st k (slotsC k).toNat 1 ws = res := ⟨_,rfl⟩
 rw [hres]
 have HRES := hQQ hres
 have hsl := slotsC_b k
 obtain ⟨w1,e1⟩ : ∃ w1,w.alloc (.cells c.cells 30) = w1 := ⟨_,rfl⟩
 rw [e1] at HC HM
 clear hc R hw H L hres
 go_enter Tryz.func75,Tryz.ntmps75
 go_wp2_with fail
 clear e1
 go_loopw [7] (fun v7 wr => ∃ f : Int,v7 = .int .i64 f ∧ 1 ≤ f ∧ f ≤ 33 ∧ More w1 wr ∧ plFirstV c.pg c.st k (slotsC k + 1 - f).toNat f ws = res) (fun v7 _ => (33 - intOf v7).toNat)
 case atStart => exact ⟨1,rfl,by omega,by omega,More.refl _,by rw [show slotsC k + 1 - 1 = slotsC k by omega]; exact HRES.out⟩
 case round =>
   clear HRES
   obtain ⟨f,rfl,f1,f2,ht,hrest⟩ := hrel
   have MW := hQQ (HM.out.trans ht)
   have HC1 := hQQ (ht.block HC.out)
   have HT := hQQ ht
   have qf : IntKind.i64.wrap (f + 1) = f + 1 := wrap_in (by omega) (by omega)
   by_cases hf : f ≤ 32
   · have d1 : decide (f ≤ 32) = true := by simpa using hf
     have REST := hQQ hrest
     clear ht hrest
     go_wp2_with (refine wpList_load_rowG rfl 30 _ rfl _ rfl 30 _ _ _ HC1.out Tryz.underlying30 rfl (by kernel_rfl) ?_)
     refine (r10_List HR.out ws HH.out hl HLn.out g cap k f wr (HW.out.more MW.out)).mono ?_
     rintro e w2 ⟨v,rfl,hr,h2,_⟩
     have MW2 := hQQ (MW.out.trans h2)
     have HT2 := hQQ (HT.out.trans h2)
     obtain ⟨a1,c1,rfl,hrd⟩ := hr.reads
     clear h2
     have hcase : (listG c.pg c.st G k f = [] ∧ plFirstV c.pg c.st k (slotsC k + 1 - (f + 1)).toNat (f + 1) ws = res) ∨ (0 < (listG c.pg c.st G k f).length ∧ (listG c.pg c.st G k f).getD 0 0 = res) := by
       have hrest := REST.out
       by_cases hz : headV c.pg c.st k f = 0
       · refine .inl ⟨if_pos hz,?_⟩
         by_cases hm : f ≤ slotsC k
         · obtain ⟨m,hm2⟩ : ∃ m : Nat,(slotsC k + 1 - f).toNat = m + 1 := ⟨(slotsC k - f).toNat,by omega⟩
           rw [hm2] at hrest
           have hrest : (if plLeadV c.pg (headV c.pg c.st k f) ws = -1 then plFirstV c.pg c.st k m (f + 1) ws else plLeadV c.pg (headV c.pg c.st k f) ws) = res := hrest
           rw [hz] at hrest
           have h0 : plLeadV c.pg 0 ws = -1 := if_pos rfl
           rw [if_pos h0] at hrest
           rw [show (slotsC k + 1 - (f + 1)).toNat = m by omega]
           exact hrest
         · rw [show (slotsC k + 1 - f).toNat = 0 by omega] at hrest
           rw [show (slotsC k + 1 - (f + 1)).toNat = 0 by omega]
           exact hrest
       · obtain ⟨ha,k0,k1,_,f3⟩ := head_hd hz
         have hse := slotsC_eq ⟨k0,k1⟩
         obtain ⟨m,hm2⟩ : ∃ m : Nat,(slotsC k + 1 - f).toNat = m + 1 := ⟨(slotsC k - f).toNat,by omega⟩
         rw [hm2] at hrest
         have hrest : (if plLeadV c.pg (headV c.pg c.st k f) ws = -1 then plFirstV c.pg c.st k m (f + 1) ws else plLeadV c.pg (headV c.pg c.st k f) ws) = res := hrest
         rw [fst_atR HH.out HLn.out hz] at hrest
         rw [show listG c.pg c.st G k f = G (headV c.pg c.st k f) from if_neg hz]
         have hpg := HLn.out.page _ ha
         match G (headV c.pg c.st k f),hrest,hpg with
         | [],hrest,_ =>
           refine .inl ⟨rfl,?_⟩
           rw [show (slotsC k + 1 - (f + 1)).toNat = m by omega]
           simpa [fst1] using hrest
         | x :: l,hrest,hpg =>
           have hx := (isPage_iff.1 (hpg x (by simp))).1
           refine .inr ⟨by simp,?_⟩
           have hrest : (if x = -1 then plFirstV c.pg c.st k m (f + 1) ws else x) = res := hrest
           rw [if_neg (by omega)] at hrest
           exact hrest
     generalize listG c.pg c.st G k f = l at hcase hrd
     clear REST
     rcases hcase with ⟨h0,hn⟩ | ⟨h0,hn⟩
     · subst h0
       have HN := hQQ hn
       clear hn hrd hr
       go_wp2_with fail
       go_roundw
       case rel => exact ⟨f + 1,by go_num,by omega,by omega,HT2.out,HN.out⟩
       case measure => simp [intOf]; omega
     · obtain ⟨ga,rfl,_,_,hcell⟩ := hrd 0 h0
       have ca := hcell 0 h0
       rw [hn] at ca
       have d2 : decide ((0 : Int) < (l.length : Int)) = true := by simp; omega
       have d3 : decide (0 < l.length) = true := by simp; omega
       clear hn hrd hcell hr
       go_wp2_with fail
       go_ret
       exact ⟨rfl,MW2.out⟩
   · have d1 : decide (f ≤ 32) = false := by simpa using hf
     have hres : (-1 : Int) = res := by
       rw [← hrest,show (slotsC k + 1 - f).toNat = 0 by omega]; rfl
     subst hres
     clear hrest ht
     go_wp2_with fail
     go_ret
     exact ⟨rfl,MW.out⟩
theorem r10_lay {c : Cfg} (R : c.Ok) (ws : List Int) (H : HdIn c.pg c.st ws.length) (hl : ws.length ≤ 1000) (k f : Int) (hz : headV c.pg c.st k f ≠ 0) (ps : List Int) (hp : ∀ p ∈ ps,isPage c.pg p = true) (hpl : ps.length ≤ 1000) (g cap : Nat) (vp : Value) (bp : Nat) (w : World) (hw : Ws w g cap ws) (hr : Rw bp w vp ps) (hno : ∀ kk,vp.ownBlock = some kk → kk ≠ g) :
   Calls Tryz.prog 119 #[.agg c.cells,.slice (some ⟨g,0,none⟩) ws.length cap,.int .i64 k,.int .i64 f,vp] w (fun e w' => e = .returned (.tuple #[]) ∧ Ws w' g cap (layV c.pg c.st (headV c.pg c.st k f) ps ws) ∧ Turned (fun b => b = g) w w') := by
 have hc := row_new w c.cells 30
 have HR := hQQ R
 have hgl := hw.lt
 have HPG := hQQ hp
 have pg1 := R.pg1
 have pg2 := R.pg2
 obtain ⟨ha,_,_,_,_⟩ := head_hd hz
 obtain ⟨b0,b1,_⟩ := hd_b H ha
 have YH : Hid (∀ W,Calls Tryz.prog 150 #[.agg c.cells,.int .i64 k,.int .i64 f] W (Gives W (.int .i64 (headV c.pg c.st k f)))) := hQQ fun W => y_rhead R W k f
 obtain ⟨h,hhe⟩ : ∃ h,headV c.pg c.st k f = h := ⟨_,rfl⟩
 rw [hhe] at YH b0 b1 ha ⊢
 obtain ⟨m,hm⟩ : ∃ m : Nat,h = (m : Int) := ⟨h.toNat,by omega⟩
 have hml : m < ws.length := by omega
 have NV : Hid (∀ p,isPage c.pg p = true → ∃ b3 b4 : Nat,nA c.pg c.st p = (b3 : Int) ∧ vA c.pg c.st p = (b4 : Int) ∧ b3 < ws.length ∧ b4 < ws.length) := hQQ fun p hp => by
   obtain ⟨⟨q0,q1,_⟩,⟨q2,q3,_⟩⟩ := nv_b H hp
   exact ⟨(nA c.pg c.st p).toNat,(vA c.pg c.st p).toNat,by omega,by omega,by omega,by omega⟩
 obtain ⟨w1,e1⟩ : ∃ w1,w.alloc (.cells c.cells 30) = w1 := ⟨_,rfl⟩
 have m1 : More w w1 := by rw [← e1]; exact (More.refl w).alloc _
 rw [e1] at hc
 have KL : Hid (∀ wr,Turned (fun b => b = g) w1 wr → wr.heap[w.heap.size]? = some (.cells c.cells 30 (0,0)) ∧ Rw bp wr vp ps) := hQQ fun wr t => ⟨(t.block _ (lt_of_heap hc) (by omega)).trans hc,Rw.keepT (Rw.more hr m1) t (fun kk q => hno kk q)⟩
 obtain ⟨ap,cp,rfl,_⟩ := hr.reads
 have X1 := hQQ (hw.more m1)
 have T1 : Hid (Turned (fun b => b = g) w1 w1) := hQQ (Turned.refl _ _)
 have HC1 := hQQ hc
 have M1 := hQQ m1
 have HE := hQQ hhe
 have HMm := hQQ hm
 clear hc R hw hr hno hz H ha hp m1 b0 b1 hhe
 go_enter Tryz.func119,Tryz.ntmps119
 go_wp2_with (refine wpList_load_rowG rfl 30 _ rfl _ rfl 30 _ _ _ HC1.out Tryz.underlying30 rfl (by kernel_rfl) ?_)
 clear e1
 rw [hm] at YH
 refine (YH.out _).mono ?_
 rintro e w2 ⟨rfl,h2⟩
 have T2 : Hid (Turned (fun b => b = g) w1 w2) := hQQ (Turned.mono h2 (fun _ _ q => q.elim))
 have X2 := hQQ (X1.out.more h2)
 clear h2
 have c3 := X2.out.cell (i:=m) hml
 have f3 := X2.out.froz m
 have l3 := X2.out.lt
 obtain ⟨w3,e3⟩ : ∃ w3,World.setCell w2 ⟨g,m,none⟩ (.int .i64 0) = w3 := ⟨_,rfl⟩
 have X3 : Hid (Ws w3 g cap (ws.set m 0)) := hQQ (by rw [← e3]; exact X2.out.set hml _)
 have T3 : Hid (Turned (fun b => b = g) w1 w3) := hQQ (by rw [← e3]; exact Turned.setCell T2.out _ _ (fun _ => rfl))
 go_wp2_with fail
 clear c3 f3 l3 e3
 have START := hQQ (show Ws w3 g cap (layN c.pg c.st h ps 0 ws) from by
   have : layN c.pg c.st h ps 0 ws = ws.set m 0 := by unfold layN; rw [HMm.out]; rfl
   rw [this]; exact X3.out)
 go_loopw [10] (fun v10 wr => ∃ j : Nat,v10 = .int .i64 (j : Int) ∧ j ≤ ps.length ∧ Ws wr g cap (layN c.pg c.st h ps j ws) ∧ Turned (fun b => b = g) w1 wr) (fun v10 _ => ps.length - (intOf v10).toNat)
 case atStart => exact ⟨0,rfl,by omega,START.out,T3.out⟩
 case round =>
   clear START X3 T3 X2 T2 X1 T1
   obtain ⟨j,rfl,hj,hX,hT⟩ := hrel
   have X := hQQ hX
   have T := hQQ hT
   have q1 : IntKind.i64.wrap ((j : Int) + 1) = (j : Int) + 1 := wrap_in (by omega) (by omega)
   obtain ⟨hL,hR⟩ := KL.out _ hT
   by_cases hlt : j < ps.length
   · have d1 : decide ((j : Int) < (ps.length : Int)) = true := by simp; omega
     obtain ⟨ap',cp',e',hrd⟩ := hR.reads
     simp only [Value.slice.injEq] at e'
     obtain ⟨rfl,_,rfl⟩ := e'
     obtain ⟨gp,rfl,_,_,hcell⟩ := hrd j hlt
     have KR : Hid (∀ wx,Turned (fun b => b = g) w1 wx → ∀ i,i < ps.length → wx.cell? ⟨gp,i,none⟩ = some (.int .i64 (ps.getD i 0))) := hQQ fun wx t i hi => by
       obtain ⟨ap',cp',e',hrd'⟩ := (KL.out _ t).2.reads
       simp only [Value.slice.injEq] at e'
       obtain ⟨ea,_,_⟩ := e'
       obtain ⟨g2,e2,_,_,hc2⟩ := hrd' i hi
       rw [← ea] at e2
       simp only [Option.some.injEq,Addr.mk.injEq,and_true] at e2
       rw [e2]
       exact hc2 i hi
     have cP := hcell j hlt
     have HCELL := hQQ hcell
     clear hcell
     have hmem := getD_mem hlt
     obtain ⟨P,hPe⟩ : ∃ P,ps.getD j 0 = P := ⟨_,rfl⟩
     rw [hPe] at cP hmem
     obtain ⟨b3,b4,hb3,hb4,l3,l4⟩ := NV.out P (HPG.out P hmem)
     have P3 := hQQ ((page3 (st:=c.st) (HPG.out P hmem)).trans hb3)
     have P4 := hQQ ((page4 (st:=c.st) (HPG.out P hmem)).trans hb4)
     have HL := hQQ hL
     have hPp := isPage_iff.1 (HPG.out P hmem)
     have qP : IntKind.i64.wrap (P + 1) = P + 1 := wrap_in (by omega) (by omega)
     obtain ⟨xs,hxs⟩ : ∃ xs,layN c.pg c.st h ps j ws = xs := ⟨_,rfl⟩
     have hxl : xs.length = ws.length := by rw [← hxs]; exact layN_len _ _ _ _ _ _
     have hnext : layN c.pg c.st h ps (j + 1) ws = layC c.pg c.st h ps j (layB c.pg c.st h ps j ((xs.set b3 0).set b4 0)) := by
       show layC c.pg c.st h ps j (layB c.pg c.st h ps j (layA c.pg c.st h ps j (layN c.pg c.st h ps j ws))) = _
       rw [hxs]; unfold layA; rw [hPe,hb3,hb4]; rfl
     rw [hxs] at X
     clear hX hT hL hR hrd hxs
     go_wp2_with (refine wpList_load_rowG rfl 30 _ rfl _ rfl 30 _ _ _ HL.out Tryz.underlying30 rfl (by kernel_rfl) ?_)
     refine (y_rnext HR.out _ P).mono ?_
     rw [P3.out]
     rintro e wa ⟨rfl,ha⟩
     have Ta : Hid (Turned (fun b => b = g) w1 wa) := hQQ (T.out.trans (Turned.mono ha (fun _ _ q => q.elim)))
     have Xa := hQQ (X.out.more ha)
     clear ha
     have cb := Xa.out.cell (i:=b3) (by omega)
     have fb := Xa.out.froz b3
     have lb := Xa.out.lt
     obtain ⟨wb,eb⟩ : ∃ wb,World.setCell wa ⟨g,b3,none⟩ (.int .i64 0) = wb := ⟨_,rfl⟩
     have Xb : Hid (Ws wb g cap (xs.set b3 0)) := hQQ (by rw [← eb]; exact Xa.out.set (by omega) _)
     have Tb : Hid (Turned (fun b => b = g) w1 wb) := hQQ (by rw [← eb]; exact Turned.setCell Ta.out _ _ (fun _ => rfl))
     have HLb := hQQ (KL.out _ Tb.out).1
     clear cP
     go_wp2_with (refine wpList_load_rowG rfl 30 _ rfl _ rfl 30 _ _ _ HLb.out Tryz.underlying30 rfl (by kernel_rfl) ?_)
     clear cb fb lb eb
     refine (y_rprev HR.out _ P).mono ?_
     rw [P4.out]
     rintro e wc ⟨rfl,hc⟩
     have Tc : Hid (Turned (fun b => b = g) w1 wc) := hQQ (Tb.out.trans (Turned.mono hc (fun _ _ q => q.elim)))
     have Xc := hQQ (Xb.out.more hc)
     clear hc
     have cd := Xc.out.cell (i:=b4) (by simp; omega)
     have fd := Xc.out.froz b4
     have ld := Xc.out.lt
     obtain ⟨wd,ed⟩ : ∃ wd,World.setCell wc ⟨g,b4,none⟩ (.int .i64 0) = wd := ⟨_,rfl⟩
     have Xd : Hid (Ws wd g cap ((xs.set b3 0).set b4 0)) := hQQ (by rw [← ed]; exact Xc.out.set (by simp; omega) _)
     have Td : Hid (Turned (fun b => b = g) w1 wd) := hQQ (by rw [← ed]; exact Turned.setCell Tc.out _ _ (fun _ => rfl))
     have HLd := hQQ (KL.out _ Td.out).1
     by_cases hj0 : j = 0
     · have dj : ((j : Int) == 0) = true := by simp [hj0]
       have hB : layB c.pg c.st h ps j ((xs.set b3 0).set b4 0) = ((xs.set b3 0).set b4 0).set m (P + 1) := by unfold layB; rw [if_pos hj0,hPe,HMm.out]; rfl
       rw [hB] at hnext
       have HN := hQQ hnext
       clear hj0 hB hnext
       go_wp2_with (refine wpList_load_rowG rfl 30 _ rfl _ rfl 30 _ _ _ HLd.out Tryz.underlying30 rfl (by kernel_rfl) ?_)
       clear cd fd ld ed
       refine (YH.out _).mono ?_
       rintro e we ⟨rfl,he⟩
       have Te : Hid (Turned (fun b => b = g) w1 we) := hQQ (Td.out.trans (Turned.mono he (fun _ _ q => q.elim)))
       have Xe := hQQ (Xd.out.more he)
       clear he
       have ck := Xe.out.cell (i:=m) (by simp; omega)
       have fk := Xe.out.froz m
       have lk := Xe.out.lt
       obtain ⟨wk,ek⟩ : ∃ wk,World.setCell we ⟨g,m,none⟩ (.int .i64 (P + 1)) = wk := ⟨_,rfl⟩
       have Xk : Hid (Ws wk g cap (((xs.set b3 0).set b4 0).set m (P + 1))) := hQQ (by rw [← ek]; exact Xe.out.set (by simp; omega) _)
       have Tk : Hid (Turned (fun b => b = g) w1 wk) := hQQ (by rw [← ek]; exact Turned.setCell Te.out _ _ (fun _ => rfl))
       by_cases hlast : j + 1 < ps.length
       · have d8 : decide (((j : Int) + 1) < (ps.length : Int)) = true := by simp; omega
         have cz5 := KR.out _ Tk.out (j + 1) hlast
         obtain ⟨zv,hzv⟩ : ∃ zv,ps.getD (j + 1) 0 = zv := ⟨_,rfl⟩
         rw [hzv] at cz5
         have hzp := isPage_iff.1 (HPG.out zv (by rw [← hzv]; exact getD_mem hlast))
         have qz : IntKind.i64.wrap (zv + 1) = zv + 1 := wrap_in (by omega) (by omega)
         have hC : layC c.pg c.st h ps j ((((xs.set b3 0).set b4 0).set m (P + 1))) = ((((xs.set b3 0).set b4 0).set m (P + 1))).set b3 (zv + 1) := by unfold layC; rw [if_pos hlast,hPe,hb3,hzv]; rfl
         have HC' := hQQ hC
         have HL5 := hQQ (KL.out _ Tk.out).1
         have hjx : (j : Int) + 1 < (ps.length : Int) := by omega
         have hjy : (0 : Int) ≤ (j : Int) + 1 := by omega
         clear hC hlast hzv
         go_wp2_with fail
         refine wp_region_more_tail 11 (by kernel_rfl) (by kernel_rfl) ?_
         simp only [List.take_succ_cons,List.take_zero,List.drop_succ_cons,List.drop_zero]
         iterate 1
           with_reducible refine wpQuiet_step (fun K hK => ?_)
           go_simp
           first
           | (refine hK _ ?_; clear hK K)
           | (apply Exists.intro
              refine ⟨fun W hW => ?_,hK _ ?_⟩
              first
              | (go_simp; try rfl)
              clear hK K)
         refine wpQuiet_load_row rfl 30 _ rfl _ rfl 30 _ _ _ (fun W hW => hW.block HL5.out) Tryz.underlying30 rfl (by kernel_rfl) ?_
         iterate 9
           with_reducible refine wpQuiet_step (fun K hK => ?_)
           go_simp
           first
           | (refine hK _ ?_; clear hK K)
           | (apply Exists.intro
              refine ⟨fun W hW => ?_,hK _ ?_⟩
              first
              | (go_at_call 117; have := y_rnext HR.out W P; rw [P3.out] at this; exact Calls.more hW this)
              | (have cz' := hW.cell cz5; go_simp; try rfl)
              clear hK K)
         refine wpQuiet_nil ?_
         intro w6 m6
         have T6 : Hid (Turned (fun b => b = g) w1 w6) := hQQ (Tk.out.trans (Turned.mono m6 (fun _ _ q => q.elim)))
         have X6 := hQQ (Xk.out.more m6)
         clear m6
         have c7 := X6.out.cell (i:=b3) (by simp; omega)
         have f7 := X6.out.froz b3
         have l7 := X6.out.lt
         obtain ⟨w7,e7⟩ : ∃ w7,World.setCell w6 ⟨g,b3,none⟩ (.int .i64 (zv + 1)) = w7 := ⟨_,rfl⟩
         have X7 : Hid (Ws w7 g cap (((((xs.set b3 0).set b4 0).set m (P + 1))).set b3 (zv + 1))) := hQQ (by rw [← e7]; exact X6.out.set (by simp; omega) _)
         have T7 : Hid (Turned (fun b => b = g) w1 w7) := hQQ (by rw [← e7]; exact Turned.setCell T6.out _ _ (fun _ => rfl))
         go_wp2_with fail
         clear c7 f7 l7 e7
         go_roundw
         case rel => exact ⟨j + 1,by go_num,by omega,by rw [HN.out,HC'.out]; exact X7.out,T7.out⟩
         case measure => simp [intOf]; omega
       · have d8 : decide (((j : Int) + 1) < (ps.length : Int)) = false := by simp; omega
         have hC : layC c.pg c.st h ps j ((((xs.set b3 0).set b4 0).set m (P + 1))) = (((xs.set b3 0).set b4 0).set m (P + 1)) := by unfold layC; rw [if_neg hlast]
         have HC' := hQQ hC
         clear hC hlast
         go_wp2_with fail
         go_roundw
         case rel => exact ⟨j + 1,by go_num,by omega,by rw [HN.out,HC'.out]; exact Xk.out,Tk.out⟩
         case measure => simp [intOf]; omega
     · have dj : ((j : Int) == 0) = false := by simpa using hj0
       have dj2 : decide ((j : Int) = 0) = false := by simpa using hj0
       obtain ⟨j1,hj1⟩ : ∃ j1,j - 1 = j1 := ⟨_,rfl⟩
       have cy5 := KR.out _ Td.out j1 (by omega)
       obtain ⟨yv,hyv⟩ : ∃ yv,ps.getD j1 0 = yv := ⟨_,rfl⟩
       rw [hyv] at cy5
       have hyp := isPage_iff.1 (HPG.out yv (by rw [← hyv]; exact getD_mem (by omega)))
       have qy : IntKind.i64.wrap (yv + 1) = yv + 1 := wrap_in (by omega) (by omega)
       have qj1 : IntKind.i64.wrap ((j : Int) - 1) = (j1 : Int) := by rw [wrap_in (by omega) (by omega)]; omega
       have hj1x : (j1 : Int) < (ps.length : Int) := by omega
       have hj1n : j1 < ps.length := by omega
       have hB : layB c.pg c.st h ps j ((xs.set b3 0).set b4 0) = ((xs.set b3 0).set b4 0).set b4 (yv + 1) := by unfold layB; rw [if_neg hj0,hPe,hb4,hj1,hyv]; rfl
       rw [hB] at hnext
       have HN := hQQ hnext
       clear hj0 hB hnext hj1 hyv
       go_wp2_with fail
       clear cd fd ld ed
       refine wp_region_more_tail 11 (by kernel_rfl) (by kernel_rfl) ?_
       simp only [List.take_succ_cons,List.take_zero,List.drop_succ_cons,List.drop_zero]
       iterate 1
         with_reducible refine wpQuiet_step (fun K hK => ?_)
         go_simp
         first
         | (refine hK _ ?_; clear hK K)
         | (apply Exists.intro
            refine ⟨fun W hW => ?_,hK _ ?_⟩
            first
            | (go_simp; try rfl)
            clear hK K)
       refine wpQuiet_load_row rfl 30 _ rfl _ rfl 30 _ _ _ (fun W hW => hW.block HLd.out) Tryz.underlying30 rfl (by kernel_rfl) ?_
       iterate 9
         with_reducible refine wpQuiet_step (fun K hK => ?_)
         go_simp
         first
         | (refine hK _ ?_; clear hK K)
         | (apply Exists.intro
            refine ⟨fun W hW => ?_,hK _ ?_⟩
            first
            | (go_at_call 118; have := y_rprev HR.out W P; rw [P4.out] at this; exact Calls.more hW this)
            | (have cy' := hW.cell cy5; go_simp; try rfl)
            clear hK K)
       refine wpQuiet_nil ?_
       intro we me
       have Te : Hid (Turned (fun b => b = g) w1 we) := hQQ (Td.out.trans (Turned.mono me (fun _ _ q => q.elim)))
       have Xe := hQQ (Xd.out.more me)
       clear me cy5
       have ck := Xe.out.cell (i:=b4) (by simp; omega)
       have fk := Xe.out.froz b4
       have lk := Xe.out.lt
       obtain ⟨wk,ek⟩ : ∃ wk,World.setCell we ⟨g,b4,none⟩ (.int .i64 (yv + 1)) = wk := ⟨_,rfl⟩
       have Xk : Hid (Ws wk g cap (((xs.set b3 0).set b4 0).set b4 (yv + 1))) := hQQ (by rw [← ek]; exact Xe.out.set (by simp; omega) _)
       have Tk : Hid (Turned (fun b => b = g) w1 wk) := hQQ (by rw [← ek]; exact Turned.setCell Te.out _ _ (fun _ => rfl))
       by_cases hlast : j + 1 < ps.length
       · have d8 : decide (((j : Int) + 1) < (ps.length : Int)) = true := by simp; omega
         have cz5 := KR.out _ Tk.out (j + 1) hlast
         obtain ⟨zv,hzv⟩ : ∃ zv,ps.getD (j + 1) 0 = zv := ⟨_,rfl⟩
         rw [hzv] at cz5
         have hzp := isPage_iff.1 (HPG.out zv (by rw [← hzv]; exact getD_mem hlast))
         have qz : IntKind.i64.wrap (zv + 1) = zv + 1 := wrap_in (by omega) (by omega)
         have hC : layC c.pg c.st h ps j ((((xs.set b3 0).set b4 0).set b4 (yv + 1))) = ((((xs.set b3 0).set b4 0).set b4 (yv + 1))).set b3 (zv + 1) := by unfold layC; rw [if_pos hlast,hPe,hb3,hzv]; rfl
         have HC' := hQQ hC
         have HL5 := hQQ (KL.out _ Tk.out).1
         have hjx : (j : Int) + 1 < (ps.length : Int) := by omega
         have hjy : (0 : Int) ≤ (j : Int) + 1 := by omega
         clear hC hlast hzv
         go_wp2_with fail
         refine wp_region_more_tail 11 (by kernel_rfl) (by kernel_rfl) ?_
         simp only [List.take_succ_cons,List.take_zero,List.drop_succ_cons,List.drop_zero]
         iterate 1
           with_reducible refine wpQuiet_step (fun K hK => ?_)
           go_simp
           first
           | (refine hK _ ?_; clear hK K)
           | (apply Exists.intro
              refine ⟨fun W hW => ?_,hK _ ?_⟩
              first
              | (go_simp; try rfl)
              clear hK K)
         refine wpQuiet_load_row rfl 30 _ rfl _ rfl 30 _ _ _ (fun W hW => hW.block HL5.out) Tryz.underlying30 rfl (by kernel_rfl) ?_
         iterate 9
           with_reducible refine wpQuiet_step (fun K hK => ?_)
           go_simp
           first
           | (refine hK _ ?_; clear hK K)
           | (apply Exists.intro
              refine ⟨fun W hW => ?_,hK _ ?_⟩
              first
              | (go_at_call 117; have := y_rnext HR.out W P; rw [P3.out] at this; exact Calls.more hW this)
              | (have cz' := hW.cell cz5; go_simp; try rfl)
              clear hK K)
         refine wpQuiet_nil ?_
         intro w6 m6
         have T6 : Hid (Turned (fun b => b = g) w1 w6) := hQQ (Tk.out.trans (Turned.mono m6 (fun _ _ q => q.elim)))
         have X6 := hQQ (Xk.out.more m6)
         clear m6
         have c7 := X6.out.cell (i:=b3) (by simp; omega)
         have f7 := X6.out.froz b3
         have l7 := X6.out.lt
         obtain ⟨w7,e7⟩ : ∃ w7,World.setCell w6 ⟨g,b3,none⟩ (.int .i64 (zv + 1)) = w7 := ⟨_,rfl⟩
         have X7 : Hid (Ws w7 g cap (((((xs.set b3 0).set b4 0).set b4 (yv + 1))).set b3 (zv + 1))) := hQQ (by rw [← e7]; exact X6.out.set (by simp; omega) _)
         have T7 : Hid (Turned (fun b => b = g) w1 w7) := hQQ (by rw [← e7]; exact Turned.setCell T6.out _ _ (fun _ => rfl))
         go_wp2_with fail
         clear c7 f7 l7 e7
         go_roundw
         case rel => exact ⟨j + 1,by go_num,by omega,by rw [HN.out,HC'.out]; exact X7.out,T7.out⟩
         case measure => simp [intOf]; omega
       · have d8 : decide (((j : Int) + 1) < (ps.length : Int)) = false := by simp; omega
         have hC : layC c.pg c.st h ps j ((((xs.set b3 0).set b4 0).set b4 (yv + 1))) = (((xs.set b3 0).set b4 0).set b4 (yv + 1)) := by unfold layC; rw [if_neg hlast]
         have HC' := hQQ hC
         clear hC hlast
         go_wp2_with fail
         go_roundw
         case rel => exact ⟨j + 1,by go_num,by omega,by rw [HN.out,HC'.out]; exact Xk.out,Tk.out⟩
         case measure => simp [intOf]; omega
   · obtain rfl : j = ps.length := by omega
     have d1 : decide ((ps.length : Int) < (ps.length : Int)) = false := by simp
     have FIN := hQQ (And.intro hX (Turned.trans (Turned.mono M1.out (fun _ _ q => q.elim)) hT))
     clear hX hT hL hR
     go_wp2_with fail
     go_end0
     exact ⟨rfl,FIN.out.1,FIN.out.2⟩
theorem RowP.turn {w w1 w2 : World} {g : Nat} (m : More w w1) (t : Turned (fun b => b = g) w1 w2) : Turned (fun b => b = g) w w2 := (Turned.mono m (fun _ _ q => q.elim)).trans t
theorem wp_pushrow {o : Oper} {a : Act} {K : Act → World → Prop} {Q : Exit → Act → World → Prop} {w : World} {base b2 : Nat} {v v2 : Value} {xs ys : List Int} (s x : Operand)
   (ho : o.op = .call { callee := .builtin .append,args := #[s,x],argTypes := #[31,31] })
   (hs : a.eval s = v) (hn : Rw base w v xs) (hb : base ≤ w.heap.size) (hl : xs.length ≤ 1000000)
   (hx : a.eval x = v2) (hr : Rw b2 w v2 ys) (hy : 0 < ys.length ∧ ys.length ≤ 1000000)
   (h : ∀ v' w',Rw base w' v' (xs ++ ys) → Turned (fun k => v.ownBlock = some k) w w' → (∀ k,v'.ownBlock = some k → v.ownBlock = some k ∨ k = w.heap.size) → K (a.put o.dst v') w') : o.wp Tryz.prog a w K Q := by
 obtain ⟨i,i1,i2,i3,i4⟩ := int_info
 obtain ⟨ax,cx,rfl,hrd⟩ := hr.reads
 obtain ⟨gx,rfl,_,_,hc⟩ := hrd 0 hy.1
 refine wp_append_lies w s x 31 ho base 3 i _ 1 8 Tryz.underlying31 i1 i2 i3 i4 rfl (by omega) v xs.length _ hs hn ⟨gx,0,none⟩ ys.length cx (ys.map (Value.int .i64)) hx (by simp)
   (fun j u hu => ?_) (by intro u hu; obtain ⟨z,_,rfl⟩ := List.mem_map.1 hu; rfl) hy.1 (by simp only [maxLen]; omega) (by omega) hb _ rfl ?_
 · rw [List.getElem?_map] at hu
   by_cases hj : j < ys.length
   · rw [List.getElem?_eq_getElem hj] at hu
     simp only [Option.map_some,Option.some.injEq] at hu
     rw [addr_add,Nat.zero_add,hc j hj,← hu,List.getD_eq_getElem?_getD,List.getElem?_eq_getElem hj]; rfl
   · rw [List.getElem?_eq_none (by omega)] at hu; cases hu
 · intro g' cap w1 hown hgrow h4 _
   have ht : Turned (fun k => v.ownBlock = some k) w w1 := ⟨hgrow.os,hgrow.tape,hgrow.output,hgrow.size,fun k hk hne => hgrow.block k hk (fun e => hne e.symm)⟩
   refine h _ w1 ?_ ht (fun k q => ?_)
   · unfold Rw
     rw [List.length_append,List.map_append]
     exact hown
   · have : k = g' := by simpa [Value.ownBlock,eq_comm] using q
     subst this
     exact h4
theorem rw_oneR (w : World) (a : Int) : Rw 0 (w.alloc (.cells #[.int .i64 a] 3)) (.slice (some ⟨w.heap.size,0,none⟩) 1 1) [a] := by
 have h := heap_new w (.cells #[.int .i64 a] 3)
 exact Ws.rw' (base:=0) (zs:=[a]) (cap:=1) ⟨_,h,Nat.le_refl _,by unfold maxLen; omega,rfl,fun i hi => by
   match i,hi with
   | 0,_ => rfl⟩ (Nat.zero_le _)
theorem put_comm {a : Act} {i j : Nat} {x y : Value} (h : i ≠ j) : Act.put (Act.put a (some i) x) (some j) y = Act.put (Act.put a (some j) y) (some i) x := by
 simp only [Act.put,Act.mk.injEq,and_true]
 exact Array.setIfInBounds_comm _ _ h
theorem wp_push0 {o : Oper} {a : Act} {K : Act → World → Prop} {Q : Exit → Act → World → Prop} {w : World} {g n cap : Nat} (s x : Operand)
   (ho : o.op = .call { callee := .builtin .append,args := #[s,x],argTypes := #[31,31] })
   (hs : a.eval s = .slice (some ⟨g,0,none⟩) n cap) (hx : a.eval x = .slice none 0 0) (hn : n ≤ cap)
   (h : K (a.put o.dst (.slice (some ⟨g,0,none⟩) n cap)) w) : o.wp Tryz.prog a w K Q := by
 unfold Oper.wp execOp
 generalize a.eval = ρ at hs hx ⊢
 simp only [ho,resolve,invoke,builtin,Sem.run_bind,Sem.run_pure,Result.andThen_ok,List.map_toArray,List.map_cons,List.map_nil,hs,hx]
 go_simp
 exact h
theorem link_ok {c : Cfg} {ws : List Int} (H : HdIn c.pg c.st ws.length) {G : Int → List Int} (L : Ln c.pg c.st G ws) {q k f : Int} (hq : isPage c.pg q = true) (hz : headV c.pg c.st k f ≠ 0) (hf : ∀ a,isHd c.pg c.st a → q ∉ G a) : plLinkV c.pg c.st q k f ws = (true,layV c.pg c.st (headV c.pg c.st k f) (q :: listG c.pg c.st G k f) ws) := by
 have := link_same H L rfl hz hq hf
 rw [show listG c.pg c.st G k f = G (headV c.pg c.st k f) from if_neg hz,this]
 unfold plLinkV
 rw [if_pos ⟨hz,hq⟩]
theorem r10_Link {c : Cfg} (R : c.Ok) (ws : List Int) (H : HdIn c.pg c.st ws.length) (hl : ws.length ≤ 1000) {G : Int → List Int} (L : Ln c.pg c.st G ws) (q k f : Int) (hf : isPage c.pg q = true → ∀ a,isHd c.pg c.st a → q ∉ G a) (g cap : Nat) (w : World) (hw : Ws w g cap ws) :
   Calls Tryz.prog 84 #[.agg c.cells,.slice (some ⟨g,0,none⟩) ws.length cap,.int .i64 q,.int .i64 k,.int .i64 f] w (fun e w' => e = .returned (.bool (plLinkV c.pg c.st q k f ws).1) ∧ Ws w' g cap (plLinkV c.pg c.st q k f ws).2 ∧ Turned (fun b => b = g) w w') := by
 have hc := row_new w c.cells 30
 have HC := hQQ hc
 have HM : Hid (More w (w.alloc (.cells c.cells 30))) := hQQ ((More.refl w).alloc _)
 have HR := hQQ R
 have HW := hQQ hw
 have HH := hQQ H
 have HLn := hQQ L
 have hgl := hw.lt
 obtain ⟨w1,e1⟩ : ∃ w1,w.alloc (.cells c.cells 30) = w1 := ⟨_,rfl⟩
 rw [e1] at HC HM
 by_cases hth : isPage c.pg q = true ∧ headV c.pg c.st k f ≠ 0
 · obtain ⟨hq,hz⟩ := hth
   have hr := link_ok H L hq hz (hf hq)
   obtain ⟨ha,_,_,_,_⟩ := head_hd hz
   have hsh := short H (L.page _ ha) (L.nodup _ ha)
   have pg1 := R.pg1
   have pg2 := R.pg2
   have hll : (listG c.pg c.st G k f).length ≤ 256 := by rw [show listG c.pg c.st G k f = G (headV c.pg c.st k f) from if_neg hz]; omega
   have HPS : Hid (∀ p ∈ q :: listG c.pg c.st G k f,isPage c.pg p = true) := hQQ fun p hp => by
     rcases List.mem_cons.1 hp with rfl | hp
     · exact hq
     · rw [show listG c.pg c.st G k f = G (headV c.pg c.st k f) from if_neg hz] at hp
       exact L.page _ ha p hp
   have hcond : (isPage c.pg q && (headV c.pg c.st k f != 0)) = true := by simp [hq,hz]
   have YT : Hid (∀ W,Calls Tryz.prog 116 #[.agg c.cells,.int .i64 q,.int .i64 k,.int .i64 f] W (Gives W (.bool true))) := hQQ fun W => by have := r10_there R q k f W; rwa [hcond] at this
   have HRES := hQQ hr
   rw [e1] at hc
   have KC : Hid (∀ W,More w1 W → W.heap[w.heap.size]? = some (.cells c.cells 30 (0,0))) := hQQ fun W t => t.block hc
   have KT : Hid (∀ W,Turned (fun b => b = g) w1 W → W.heap[w.heap.size]? = some (.cells c.cells 30 (0,0))) := hQQ fun W t => (t.block _ (lt_of_heap hc) (by omega)).trans hc
   have HW1 := hQQ (HW.out.more HM.out)
   have s1 := HM.out.size
   have MM := HM
   clear hc R hw H L hf hr ha hsh pg1 pg2 hcond hq
   go_enter Tryz.func84,Tryz.ntmps84
   go_wp2_with (refine wpList_load_rowG rfl 30 _ rfl _ rfl 30 _ _ _ HC.out Tryz.underlying30 rfl (by kernel_rfl) ?_)
   clear e1
   refine (YT.out _).mono ?_
   rintro e w3 ⟨rfl,h3⟩
   have M3 := hQQ h3
   clear h3
   go_wp2_with fail
   clear HM HW HC
   refine wp_region_anyC (fun W => W.heap[w.heap.size]? = some (.cells c.cells 30 (0,0))) (by kernel_rfl) ?_
   have MR := hQQ (M3.out.trans ((More.refl w3).drewN 1))
   change anyC _ _ _ _ _ _ _ _ (w3.drewN 1)
   generalize w3.drewN 1 = wq at MR ⊢
   generalize hA : Act.mk _ _ = A
   have HF : AG 30 A [(1,.slice (some ⟨g,0,none⟩) ws.length cap),(2,.int .i64 q),(3,.int .i64 k),(4,.int .i64 f),(5,.pointer (some ⟨w.heap.size,0,none⟩))] := by
     rw [← hA]
     refine ⟨⟨Nat.le_of_ble_eq_true rfl,rfl⟩,?_⟩
     intro z hz; simp only [List.mem_cons,List.not_mem_nil,or_false] at hz; rcases hz with rfl | rfl | rfl | rfl | rfl <;> rfl
   refine anyC_start (fun a W => ∃ (u17 u18 u19 u20 u21 u23 u24 u25 u26 u22 u27 u28 u29 : Value),a = (Act.put (Act.put (Act.put (Act.put (Act.put (Act.put (Act.put (Act.put (Act.put (Act.put (Act.put (Act.put (Act.put A (some 17) u17) (some 18) u18) (some 19) u19) (some 20) u20) (some 21) u21) (some 23) u23) (some 24) u24) (some 25) u25) (some 26) u26) (some 22) u22) (some 27) u27) (some 28) u28) (some 29) u29) ∧ Ws W g cap (layV c.pg c.st (headV c.pg c.st k f) (q :: listG c.pg c.st G k f) ws) ∧ Turned (fun b => b = g) w1 W) (fun _ => False) [] (fun a W hd h => h.elim) (fun _ _ _ _ _ h => h) ?_ ?_
   · skip
     rintro a wa ⟨u17,u18,u19,u20,u21,u23,u24,u25,u26,u22,u27,u28,u29,rfl,hX,hT⟩
     rw [← hA]
     have FIN := hQQ (And.intro hX hT)
     clear HF hA MR hX hT
     go_simp
     go_wp2_with fail
     go_ret
     exact ⟨by rw [HRES.out]; rfl,by rw [HRES.out]; exact FIN.out.1,RowP.turn MM.out FIN.out.2⟩
   intro QQ FINE FIND FINQ
   clear hA
   refine anyC_takeD (i:=0) (v:=.agg c.cells) (some 17) rfl rfl (by kernel_rfl) (by kernel_rfl) (by kernel_rfl) (fun c a w => FINQ c a _ _ w) (KC.out _ MR.out) (by exact yieldsC_row (C:=(fun W => W.heap[w.heap.size]? = some (.cells c.cells 30 (0,0)))) (wanted_none rfl) 30 _ rfl w.heap.size (HF.get 4 rfl) 30 _ _ _ (fun W hW => hW) Tryz.underlying30 rfl (by kernel_rfl)) ?_
   replace HF := HF.put 17 (.agg c.cells) (by decide) rfl
   generalize hB1_17 : Act.put _ _ _ = A at HF ⊢
   refine anyC_takeD (i:=1) (v:=.slice (some ⟨g,0,none⟩) ws.length cap) (some 18) rfl rfl (by kernel_rfl) (by kernel_rfl) (by kernel_rfl) (fun c a w => FINQ c a _ _ w) (KC.out _ MR.out) (by exact yieldsC_moveG (wanted_none rfl) _ rfl (HF.get 1 rfl)) ?_
   replace HF := HF.put 18 (.slice (some ⟨g,0,none⟩) ws.length cap) (by decide) rfl
   generalize hB2_18 : Act.put _ _ _ = A at HF ⊢
   refine anyC_takeD (i:=2) (v:=.int .i64 k) (some 19) rfl rfl (by kernel_rfl) (by kernel_rfl) (by kernel_rfl) (fun c a w => FINQ c a _ _ w) (KC.out _ MR.out) (by exact yieldsC_moveG (wanted_none rfl) _ rfl (HF.get 4 rfl)) ?_
   replace HF := HF.put 19 (.int .i64 k) (by decide) rfl
   generalize hB3_19 : Act.put _ _ _ = A at HF ⊢
   refine anyC_takeD (i:=3) (v:=.int .i64 f) (some 20) rfl rfl (by kernel_rfl) (by kernel_rfl) (by kernel_rfl) (fun c a w => FINQ c a _ _ w) (KC.out _ MR.out) (by exact yieldsC_moveG (wanted_none rfl) _ rfl (HF.get 6 rfl)) ?_
   replace HF := HF.put 20 (.int .i64 f) (by decide) rfl
   generalize hB4_20 : Act.put _ _ _ = A at HF ⊢
   refine anyC_takeD (i:=4) (v:=.int .i64 q) (some 21) rfl rfl (by kernel_rfl) (by kernel_rfl) (by kernel_rfl) (fun c a w => FINQ c a _ _ w) (KC.out _ MR.out) (by exact yieldsC_moveG (wanted_none rfl) _ rfl (HF.get 5 rfl)) ?_
   replace HF := HF.put 21 (.int .i64 q) (by decide) rfl
   generalize hB5_21 : Act.put _ _ _ = A at HF ⊢
   refine anyC_takeD (i:=6) (v:=.agg c.cells) (some 23) rfl rfl (by kernel_rfl) (by kernel_rfl) (by kernel_rfl) (fun c a w => FINQ c a _ _ w) (KC.out _ MR.out) (by exact yieldsC_row (C:=(fun W => W.heap[w.heap.size]? = some (.cells c.cells 30 (0,0)))) (wanted_none rfl) 30 _ rfl w.heap.size (HF.get 9 rfl) 30 _ _ _ (fun W hW => hW) Tryz.underlying30 rfl (by kernel_rfl)) ?_
   replace HF := HF.put 23 (.agg c.cells) (by decide) rfl
   generalize hB6_23 : Act.put _ _ _ = A at HF ⊢
   refine anyC_takeD (i:=7) (v:=.slice (some ⟨g,0,none⟩) ws.length cap) (some 24) rfl rfl (by kernel_rfl) (by kernel_rfl) (by kernel_rfl) (fun c a w => FINQ c a _ _ w) (KC.out _ MR.out) (by exact yieldsC_moveG (wanted_none rfl) _ rfl (HF.get 6 rfl)) ?_
   replace HF := HF.put 24 (.slice (some ⟨g,0,none⟩) ws.length cap) (by decide) rfl
   generalize hB7_24 : Act.put _ _ _ = A at HF ⊢
   refine anyC_takeD (i:=8) (v:=.int .i64 k) (some 25) rfl rfl (by kernel_rfl) (by kernel_rfl) (by kernel_rfl) (fun c a w => FINQ c a _ _ w) (KC.out _ MR.out) (by exact yieldsC_moveG (wanted_none rfl) _ rfl (HF.get 9 rfl)) ?_
   replace HF := HF.put 25 (.int .i64 k) (by decide) rfl
   generalize hB8_25 : Act.put _ _ _ = A at HF ⊢
   refine anyC_takeD (i:=9) (v:=.int .i64 f) (some 26) rfl rfl (by kernel_rfl) (by kernel_rfl) (by kernel_rfl) (fun c a w => FINQ c a _ _ w) (KC.out _ MR.out) (by exact yieldsC_moveG (wanted_none rfl) _ rfl (HF.get 11 rfl)) ?_
   replace HF := HF.put 26 (.int .i64 f) (by decide) rfl
   generalize hB9_26 : Act.put _ _ _ = A at HF ⊢
   refine anyC_two (i:=5) (j:=10) (some 22) (some 27) (by kernel_rfl) rfl rfl (wanted_none rfl) (wanted_none rfl) rfl rfl (fun K hK => ?_) (fun K hK => ?_)
   · refine wp_build1 rfl q (HF.get 4 rfl) ?_
     obtain ⟨w4,e4⟩ : ∃ w4,wq.alloc (.cells #[.int .i64 q] 3) = w4 := ⟨_,rfl⟩
     have m4 : More wq w4 := by rw [← e4]; exact (More.refl _).alloc _
     have RB : Hid (Rw 0 w4 (.slice (some ⟨wq.heap.size,0,none⟩) 1 1) [q]) := hQQ (by rw [← e4]; exact rw_oneR wq q)
     have M4 := hQQ (MR.out.trans m4)
     have hgb : w1.heap.size ≤ wq.heap.size := MR.out.size
     rw [e4]
     refine hK _ _ (KC.out _ M4.out) ?_
     clear hK K
     replace HF := HF.put 22 (.slice (some ⟨wq.heap.size,0,none⟩) 1 1) (by decide) rfl
     generalize hB10_22 : Act.put _ _ _ = A at HF ⊢
     refine anyC_oneK (i:=10) (some 27) (by kernel_rfl) rfl (wanted_none rfl) rfl (fun K hK => ?_)
     refine wp_call4 (v0:=.agg c.cells) (v1:=.slice (some ⟨g,0,none⟩) ws.length cap) (v2:=.int .i64 k) (v3:=.int .i64 f) rfl (HF.get 4 rfl) (HF.get 3 rfl) (HF.get 2 rfl) (HF.get 1 rfl) (enters_of Tryz.func111 (by kernel_rfl) rfl) ?_
     refine (r10_List HR.out ws HH.out hl HLn.out g cap k f w4 (HW1.out.more M4.out)).mono ?_
     rintro e w5 ⟨vl,rfl,hrl,m5,hnil⟩
     have RL := hQQ hrl
     have M5 := hQQ (M4.out.trans m5)
     have HNIL := hQQ hnil
     clear hrl hnil
     replace RB := hQQ (Rw.more RB.out m5)
     refine hK _ _ (KC.out _ M5.out) ?_
     clear hK K
     replace HF := HF.put 27 (vl) (by decide) rfl
     generalize hB11_27 : Act.put _ _ _ = A at HF ⊢
     by_cases hl0 : listG c.pg c.st G k f = []
     · have hv := HNIL.out hl0
       subst hv
       refine anyC_oneK (i:=11) (some 28) (by kernel_rfl) rfl (wanted_none rfl) rfl (fun K hK => ?_)
       refine wp_push0 _ _ rfl (HF.get 1 rfl) (HF.get 0 rfl) (Nat.le_refl _) ?_
       refine hK _ _ (KC.out _ M5.out) ?_
       clear hK K
       replace HF := HF.put 28 (.slice (some ⟨wq.heap.size,0,none⟩) 1 1) (by decide) rfl
       generalize hB12_28 : Act.put _ _ _ = A at HF ⊢
       have RP : Hid (Rw 0 w5 (.slice (some ⟨wq.heap.size,0,none⟩) 1 1) (q :: listG c.pg c.st G k f)) := hQQ (by rw [hl0]; exact RB.out)
       have NP : Hid (∀ kk,(Value.slice (some ⟨wq.heap.size,0,none⟩) 1 1).ownBlock = some kk → kk ≠ g) := hQQ (fun kk e => by have hh : kk = wq.heap.size := (by simpa [Value.ownBlock,eq_comm] using e); omega)
       have TP : Hid (Turned (fun b => b = g) w1 w5) := hQQ (Turned.mono M5.out (fun _ _ z => z.elim))
       refine anyC_oneK (i:=12) (some 29) (by kernel_rfl) rfl (wanted_none rfl) rfl (fun K hK => ?_)
       refine wp_call5 (v0:=.agg c.cells) (v1:=.slice (some ⟨g,0,none⟩) ws.length cap) (v2:=.int .i64 k) (v3:=.int .i64 f) (v4:=.slice (some ⟨wq.heap.size,0,none⟩) 1 1) rfl (HF.get 11 rfl) (HF.get 10 rfl) (HF.get 9 rfl) (HF.get 8 rfl) (HF.get 0 rfl) (enters_of Tryz.func119 (by kernel_rfl) rfl) ?_
       refine (r10_lay HR.out ws HH.out hl k f hz (q :: listG c.pg c.st G k f) HPS.out (by simp; omega) g cap _ 0 w5 (HW1.out.more M5.out) RP.out NP.out).mono ?_
       rintro e w8 ⟨rfl,hw8,ht8⟩
       have T8 := TP.out.trans ht8
       refine hK _ _ (KT.out _ T8) ?_
       clear hK K
       replace HF := HF.put 29 (.tuple #[]) (by decide) rfl
       generalize hB13_29 : Act.put _ _ _ = A at HF ⊢
       exact anyC_done (by kernel_rfl) (FINE _ _ ⟨(.agg c.cells),(.slice (some ⟨g,0,none⟩) ws.length cap),(.int .i64 k),(.int .i64 f),(.int .i64 q),(.agg c.cells),(.slice (some ⟨g,0,none⟩) ws.length cap),(.int .i64 k),(.int .i64 f),(.slice (some ⟨wq.heap.size,0,none⟩) 1 1),(.slice none 0 0),(.slice (some ⟨wq.heap.size,0,none⟩) 1 1),(.tuple #[]),by rw [← hB13_29,← hB12_28,← hB11_27,← hB10_22,← hB9_26,← hB8_25,← hB7_24,← hB6_23,← hB5_21,← hB4_20,← hB3_19,← hB2_18,← hB1_17],hw8,T8⟩)
     · refine anyC_oneK (i:=11) (some 28) (by kernel_rfl) rfl (wanted_none rfl) rfl (fun K hK => ?_)
       refine wp_pushrow _ _ rfl (HF.get 1 rfl) RB.out (Nat.zero_le _) (by simp) (HF.get 0 rfl) RL.out ⟨List.length_pos_iff.2 hl0,by omega⟩ ?_
       intro vp wp hrp htp hvp
       have TP : Hid (Turned (fun b => b = g) w1 wp) := hQQ (turned_own (Turned.mono M5.out (fun _ _ z => z.elim)) htp (fun kk e => .inr (by have hh : kk = wq.heap.size := (by simpa [Value.ownBlock,eq_comm] using e); omega)))
       have RP : Hid (Rw 0 wp vp (q :: listG c.pg c.st G k f)) := hQQ hrp
       have hsz := M5.out.size
       have NP : Hid (∀ kk,vp.ownBlock = some kk → kk ≠ g) := hQQ (fun kk e => by
         rcases hvp kk e with z | z
         · have : kk = wq.heap.size := by simpa [Value.ownBlock,eq_comm] using z
           omega
         · omega)
       have HTP := hQQ htp
       have HGP : Hid (¬ (Value.slice (some ⟨wq.heap.size,0,none⟩) 1 1).ownBlock = some g) := hQQ (fun e => by have hh : g = wq.heap.size := (by simpa [Value.ownBlock,eq_comm] using e); omega)
       clear hrp htp hvp
       refine hK _ _ (KT.out _ TP.out) ?_
       clear hK K
       replace HF := HF.put 28 (vp) (by decide) rfl
       generalize hB12_28 : Act.put _ _ _ = A at HF ⊢
       refine anyC_oneK (i:=12) (some 29) (by kernel_rfl) rfl (wanted_none rfl) rfl (fun K hK => ?_)
       refine wp_call5 (v0:=.agg c.cells) (v1:=.slice (some ⟨g,0,none⟩) ws.length cap) (v2:=.int .i64 k) (v3:=.int .i64 f) (v4:=vp) rfl (HF.get 11 rfl) (HF.get 10 rfl) (HF.get 9 rfl) (HF.get 8 rfl) (HF.get 0 rfl) (enters_of Tryz.func119 (by kernel_rfl) rfl) ?_
       refine (r10_lay HR.out ws HH.out hl k f hz (q :: listG c.pg c.st G k f) HPS.out (by simp; omega) g cap _ 0 wp ((HW1.out.more M5.out).keep (Turned.mono HTP.out (fun _ _ z => z)) HGP.out) RP.out NP.out).mono ?_
       rintro e w8 ⟨rfl,hw8,ht8⟩
       have T8 := TP.out.trans ht8
       refine hK _ _ (KT.out _ T8) ?_
       clear hK K
       replace HF := HF.put 29 (.tuple #[]) (by decide) rfl
       generalize hB13_29 : Act.put _ _ _ = A at HF ⊢
       exact anyC_done (by kernel_rfl) (FINE _ _ ⟨(.agg c.cells),(.slice (some ⟨g,0,none⟩) ws.length cap),(.int .i64 k),(.int .i64 f),(.int .i64 q),(.agg c.cells),(.slice (some ⟨g,0,none⟩) ws.length cap),(.int .i64 k),(.int .i64 f),(.slice (some ⟨wq.heap.size,0,none⟩) 1 1),(vl),(vp),(.tuple #[]),by rw [← hB13_29,← hB12_28,← hB11_27,← hB10_22,← hB9_26,← hB8_25,← hB7_24,← hB6_23,← hB5_21,← hB4_20,← hB3_19,← hB2_18,← hB1_17],hw8,T8⟩)
   · refine wp_call4 (v0:=.agg c.cells) (v1:=.slice (some ⟨g,0,none⟩) ws.length cap) (v2:=.int .i64 k) (v3:=.int .i64 f) rfl (HF.get 3 rfl) (HF.get 2 rfl) (HF.get 1 rfl) (HF.get 0 rfl) (enters_of Tryz.func111 (by kernel_rfl) rfl) ?_
     refine (r10_List HR.out ws HH.out hl HLn.out g cap k f wq (HW1.out.more MR.out)).mono ?_
     rintro e w4 ⟨vl,rfl,hrl,m4,hnil⟩
     have RL := hQQ hrl
     have M4 := hQQ (MR.out.trans m4)
     have HNIL := hQQ hnil
     clear hrl hnil
     refine hK _ _ (KC.out _ M4.out) ?_
     clear hK K
     replace HF := HF.put 27 (vl) (by decide) rfl
     generalize hB10_27 : Act.put _ _ _ = A at HF ⊢
     refine anyC_oneK (i:=5) (some 22) (by kernel_rfl) rfl (wanted_none rfl) rfl (fun K hK => ?_)
     refine wp_build1 rfl q (HF.get 5 rfl) ?_
     obtain ⟨w5,e5⟩ : ∃ w5,w4.alloc (.cells #[.int .i64 q] 3) = w5 := ⟨_,rfl⟩
     have m5 : More w4 w5 := by rw [← e5]; exact (More.refl _).alloc _
     have RB : Hid (Rw 0 w5 (.slice (some ⟨w4.heap.size,0,none⟩) 1 1) [q]) := hQQ (by rw [← e5]; exact rw_oneR w4 q)
     have M5 := hQQ (M4.out.trans m5)
     have hgb : w1.heap.size ≤ w4.heap.size := M4.out.size
     rw [e5]
     replace RL := hQQ (Rw.more RL.out m5)
     refine hK _ _ (KC.out _ M5.out) ?_
     clear hK K
     replace HF := HF.put 22 (.slice (some ⟨w4.heap.size,0,none⟩) 1 1) (by decide) rfl
     generalize hB11_22 : Act.put _ _ _ = A at HF ⊢
     by_cases hl0 : listG c.pg c.st G k f = []
     · have hv := HNIL.out hl0
       subst hv
       refine anyC_oneK (i:=11) (some 28) (by kernel_rfl) rfl (wanted_none rfl) rfl (fun K hK => ?_)
       refine wp_push0 _ _ rfl (HF.get 0 rfl) (HF.get 1 rfl) (Nat.le_refl _) ?_
       refine hK _ _ (KC.out _ M5.out) ?_
       clear hK K
       replace HF := HF.put 28 (.slice (some ⟨w4.heap.size,0,none⟩) 1 1) (by decide) rfl
       generalize hB12_28 : Act.put _ _ _ = A at HF ⊢
       have RP : Hid (Rw 0 w5 (.slice (some ⟨w4.heap.size,0,none⟩) 1 1) (q :: listG c.pg c.st G k f)) := hQQ (by rw [hl0]; exact RB.out)
       have NP : Hid (∀ kk,(Value.slice (some ⟨w4.heap.size,0,none⟩) 1 1).ownBlock = some kk → kk ≠ g) := hQQ (fun kk e => by have hh : kk = w4.heap.size := (by simpa [Value.ownBlock,eq_comm] using e); omega)
       have TP : Hid (Turned (fun b => b = g) w1 w5) := hQQ (Turned.mono M5.out (fun _ _ z => z.elim))
       refine anyC_oneK (i:=12) (some 29) (by kernel_rfl) rfl (wanted_none rfl) rfl (fun K hK => ?_)
       refine wp_call5 (v0:=.agg c.cells) (v1:=.slice (some ⟨g,0,none⟩) ws.length cap) (v2:=.int .i64 k) (v3:=.int .i64 f) (v4:=.slice (some ⟨w4.heap.size,0,none⟩) 1 1) rfl (HF.get 11 rfl) (HF.get 10 rfl) (HF.get 9 rfl) (HF.get 8 rfl) (HF.get 0 rfl) (enters_of Tryz.func119 (by kernel_rfl) rfl) ?_
       refine (r10_lay HR.out ws HH.out hl k f hz (q :: listG c.pg c.st G k f) HPS.out (by simp; omega) g cap _ 0 w5 (HW1.out.more M5.out) RP.out NP.out).mono ?_
       rintro e w8 ⟨rfl,hw8,ht8⟩
       have T8 := TP.out.trans ht8
       refine hK _ _ (KT.out _ T8) ?_
       clear hK K
       replace HF := HF.put 29 (.tuple #[]) (by decide) rfl
       generalize hB13_29 : Act.put _ _ _ = A at HF ⊢
       exact anyC_done (by kernel_rfl) (FINE _ _ ⟨(.agg c.cells),(.slice (some ⟨g,0,none⟩) ws.length cap),(.int .i64 k),(.int .i64 f),(.int .i64 q),(.agg c.cells),(.slice (some ⟨g,0,none⟩) ws.length cap),(.int .i64 k),(.int .i64 f),(.slice (some ⟨w4.heap.size,0,none⟩) 1 1),(.slice none 0 0),(.slice (some ⟨w4.heap.size,0,none⟩) 1 1),(.tuple #[]),by rw [← hB13_29,← hB12_28,← hB11_22,← hB10_27,← hB9_26,← hB8_25,← hB7_24,← hB6_23,← hB5_21,← hB4_20,← hB3_19,← hB2_18,← hB1_17]; rw [put_comm (i:=27) (j:=22) (by decide)],hw8,T8⟩)
     · refine anyC_oneK (i:=11) (some 28) (by kernel_rfl) rfl (wanted_none rfl) rfl (fun K hK => ?_)
       refine wp_pushrow _ _ rfl (HF.get 0 rfl) RB.out (Nat.zero_le _) (by simp) (HF.get 1 rfl) RL.out ⟨List.length_pos_iff.2 hl0,by omega⟩ ?_
       intro vp wp hrp htp hvp
       have TP : Hid (Turned (fun b => b = g) w1 wp) := hQQ (turned_own (Turned.mono M5.out (fun _ _ z => z.elim)) htp (fun kk e => .inr (by have hh : kk = w4.heap.size := (by simpa [Value.ownBlock,eq_comm] using e); omega)))
       have RP : Hid (Rw 0 wp vp (q :: listG c.pg c.st G k f)) := hQQ hrp
       have hsz := M5.out.size
       have NP : Hid (∀ kk,vp.ownBlock = some kk → kk ≠ g) := hQQ (fun kk e => by
         rcases hvp kk e with z | z
         · have : kk = w4.heap.size := by simpa [Value.ownBlock,eq_comm] using z
           omega
         · omega)
       have HTP := hQQ htp
       have HGP : Hid (¬ (Value.slice (some ⟨w4.heap.size,0,none⟩) 1 1).ownBlock = some g) := hQQ (fun e => by have hh : g = w4.heap.size := (by simpa [Value.ownBlock,eq_comm] using e); omega)
       clear hrp htp hvp
       refine hK _ _ (KT.out _ TP.out) ?_
       clear hK K
       replace HF := HF.put 28 (vp) (by decide) rfl
       generalize hB12_28 : Act.put _ _ _ = A at HF ⊢
       refine anyC_oneK (i:=12) (some 29) (by kernel_rfl) rfl (wanted_none rfl) rfl (fun K hK => ?_)
       refine wp_call5 (v0:=.agg c.cells) (v1:=.slice (some ⟨g,0,none⟩) ws.length cap) (v2:=.int .i64 k) (v3:=.int .i64 f) (v4:=vp) rfl (HF.get 11 rfl) (HF.get 10 rfl) (HF.get 9 rfl) (HF.get 8 rfl) (HF.get 0 rfl) (enters_of Tryz.func119 (by kernel_rfl) rfl) ?_
       refine (r10_lay HR.out ws HH.out hl k f hz (q :: listG c.pg c.st G k f) HPS.out (by simp; omega) g cap _ 0 wp ((HW1.out.more M5.out).keep (Turned.mono HTP.out (fun _ _ z => z)) HGP.out) RP.out NP.out).mono ?_
       rintro e w8 ⟨rfl,hw8,ht8⟩
       have T8 := TP.out.trans ht8
       refine hK _ _ (KT.out _ T8) ?_
       clear hK K
       replace HF := HF.put 29 (.tuple #[]) (by decide) rfl
       generalize hB13_29 : Act.put _ _ _ = A at HF ⊢
       exact anyC_done (by kernel_rfl) (FINE _ _ ⟨(.agg c.cells),(.slice (some ⟨g,0,none⟩) ws.length cap),(.int .i64 k),(.int .i64 f),(.int .i64 q),(.agg c.cells),(.slice (some ⟨g,0,none⟩) ws.length cap),(.int .i64 k),(.int .i64 f),(.slice (some ⟨w4.heap.size,0,none⟩) 1 1),(vl),(vp),(.tuple #[]),by rw [← hB13_29,← hB12_28,← hB11_22,← hB10_27,← hB9_26,← hB8_25,← hB7_24,← hB6_23,← hB5_21,← hB4_20,← hB3_19,← hB2_18,← hB1_17]; rw [put_comm (i:=27) (j:=22) (by decide)],hw8,T8⟩)
 · have hcond : (isPage c.pg q && (headV c.pg c.st k f != 0)) = false := by
     cases e : isPage c.pg q with
     | false => rfl
     | true =>
       have : headV c.pg c.st k f = 0 := Classical.byContradiction fun z => hth ⟨e,z⟩
       simp [this]
   have YT : Hid (∀ W,Calls Tryz.prog 116 #[.agg c.cells,.int .i64 q,.int .i64 k,.int .i64 f] W (Gives W (.bool false))) := hQQ fun W => by have := r10_there R q k f W; rwa [hcond] at this
   have hr : plLinkV c.pg c.st q k f ws = (false,ws) := by unfold plLinkV; rw [if_neg (fun z => hth ⟨z.2,z.1⟩)]
   rw [hr]
   clear hc R hw H L hf hcond hth hr
   go_enter Tryz.func84,Tryz.ntmps84
   go_wp2_with (refine wpList_load_rowG rfl 30 _ rfl _ rfl 30 _ _ _ HC.out Tryz.underlying30 rfl (by kernel_rfl) ?_)
   clear e1
   refine (YT.out _).mono ?_
   rintro e w3 ⟨rfl,h3⟩
   have M3 := hQQ (HM.out.trans h3)
   clear h3
   go_wp2_with fail
   go_ret
   exact ⟨rfl,HW.out.more M3.out,Turned.mono M3.out (fun _ _ z => z.elim)⟩
theorem unl_yes {c : Cfg} {ws : List Int} (H : HdIn c.pg c.st ws.length) {G : Int → List Int} (L : Ln c.pg c.st G ws) {q k f : Int} (hz : headV c.pg c.st k f ≠ 0) {s t : List Int} (hG : G (headV c.pg c.st k f) = s ++ q :: t) (hs : q ∉ s) : plUnlinkV c.pg c.st q k f ws = (true,layV c.pg c.st (headV c.pg c.st k f) (s ++ t) ((ws.set (nA c.pg c.st q).toNat 0).set (vA c.pg c.st q).toNat 0)) := by
 rw [unlink_same H L rfl hz hG hs]
 exact Prod.ext (unlink_ln H L rfl hz hG hs).1 rfl
def restL (l : List Int) (q : Int) : List Int := l.filter (fun x => decide (x ≠ q))
theorem restL_take {l : List Int} {q : Int} {j : Nat} (hj : j < l.length) : restL (l.take (j + 1)) q = if l.getD j 0 = q then restL (l.take j) q else restL (l.take j) q ++ [l.getD j 0] := by
 rw [take_snoc hj]
 unfold restL
 rw [List.filter_append]
 by_cases e : l.getD j 0 = q
 · rw [if_pos e,e]; simp
 · rw [if_neg e]; simp only [List.filter_cons,List.filter_nil]
   have : decide (l.getD j 0 ≠ q) = true := by simpa using e
   rw [if_pos this]
theorem restL_le (l : List Int) (q : Int) : (restL l q).length ≤ l.length := List.length_filter_le _ _
theorem r10_Unlink {c : Cfg} (R : c.Ok) (ws : List Int) (H : HdIn c.pg c.st ws.length) (hl : ws.length ≤ 1000) {G : Int → List Int} (L : Ln c.pg c.st G ws) (q k f : Int) (g cap : Nat) (w : World) (hw : Ws w g cap ws) :
   Calls Tryz.prog 80 #[.agg c.cells,.slice (some ⟨g,0,none⟩) ws.length cap,.int .i64 q,.int .i64 k,.int .i64 f] w (fun e w' => e = .returned (.bool (plUnlinkV c.pg c.st q k f ws).1) ∧ Ws w' g cap (plUnlinkV c.pg c.st q k f ws).2 ∧ Turned (fun b => b = g) w w') := by
 have hc := row_new w c.cells 30
 have HC := hQQ hc
 have HM : Hid (More w (w.alloc (.cells c.cells 30))) := hQQ ((More.refl w).alloc _)
 have HR := hQQ R
 have HW := hQQ hw
 have HH := hQQ H
 have HLn := hQQ L
 have hgl := hw.lt
 obtain ⟨w1,e1⟩ : ∃ w1,w.alloc (.cells c.cells 30) = w1 := ⟨_,rfl⟩
 rw [e1] at HC HM
 by_cases hth : isPage c.pg q = true ∧ headV c.pg c.st k f ≠ 0
 · obtain ⟨hq,hz⟩ := hth
   obtain ⟨ha,_,_,_,_⟩ := head_hd hz
   have hsh := short H (L.page _ ha) (L.nodup _ ha)
   have pg1 := R.pg1
   have pg2 := R.pg2
   have hlG : listG c.pg c.st G k f = G (headV c.pg c.st k f) := if_neg hz
   have hll : (listG c.pg c.st G k f).length ≤ 256 := by rw [hlG]; omega
   have hcond : (isPage c.pg q && (headV c.pg c.st k f != 0)) = true := by simp [hq,hz]
   have YT : Hid (∀ W,Calls Tryz.prog 116 #[.agg c.cells,.int .i64 q,.int .i64 k,.int .i64 f] W (Gives W (.bool true))) := hQQ fun W => by have := r10_there R q k f W; rwa [hcond] at this
   rw [e1] at hc
   have hdec : (q ∉ G (headV c.pg c.st k f) ∧ restL (listG c.pg c.st G k f) q = listG c.pg c.st G k f ∧ plUnlinkV c.pg c.st q k f ws = (false,ws)) ∨
       ((restL (listG c.pg c.st G k f) q).length < (listG c.pg c.st G k f).length ∧ plUnlinkV c.pg c.st q k f ws = (true,layV c.pg c.st (headV c.pg c.st k f) (restL (listG c.pg c.st G k f) q) ((ws.set (nA c.pg c.st q).toNat 0).set (vA c.pg c.st q).toNat 0))) := by
     rw [hlG]
     by_cases hm : q ∈ G (headV c.pg c.st k f)
     · obtain ⟨s,t,hG,hs⟩ := split_mem hm
       have hnd := L.nodup _ ha
       rw [hG] at hnd
       have ht : q ∉ t := (List.nodup_cons.1 (List.nodup_append.1 hnd).2.1).1
       refine .inr ?_
       have hr : restL (G (headV c.pg c.st k f)) q = s ++ t := by rw [hG]; exact filt_split H hs ht
       rw [hr,unl_yes H L hz hG hs,hG]
       exact ⟨by simp,rfl⟩
     · exact .inl ⟨hm,List.filter_eq_self.2 (fun a h => by simp; rintro rfl; exact hm h),unlink_no H L (fun _ _ => hm)⟩
   have HPS : Hid (∀ p ∈ restL (listG c.pg c.st G k f) q,isPage c.pg p = true) := hQQ fun p hp => by
     have := (List.mem_filter.1 hp).1
     rw [hlG] at this
     exact L.page _ ha p this
   obtain ⟨⟨q0,q1,_⟩,⟨q2,q3,_⟩⟩ := nv_b H hq
   obtain ⟨b3,hb3⟩ : ∃ b : Nat,nA c.pg c.st q = (b : Int) := ⟨(nA c.pg c.st q).toNat,by omega⟩
   obtain ⟨b4,hb4⟩ : ∃ b : Nat,vA c.pg c.st q = (b : Int) := ⟨(vA c.pg c.st q).toNat,by omega⟩
   have l3 : b3 < ws.length := by omega
   have l4 : b4 < ws.length := by omega
   have P3 := hQQ ((page3 (st:=c.st) hq).trans hb3)
   have P4 := hQQ ((page4 (st:=c.st) hq).trans hb4)
   have HS : Hid ((ws.set (nA c.pg c.st q).toNat 0).set (vA c.pg c.st q).toNat 0 = (ws.set b3 0).set b4 0) := hQQ (by rw [hb3,hb4]; rfl)
   have KC : Hid (∀ W,Turned (fun b => b = g) w1 W → W.heap[w.heap.size]? = some (.cells c.cells 30 (0,0))) := hQQ fun W t => (t.block _ (lt_of_heap hc) (by omega)).trans hc
   have HW1 := hQQ (HW.out.more HM.out)
   have s1 := HM.out.size
   have MM := HM
   have HDEC := hQQ hdec
   clear hc R hw H L ha hsh pg1 pg2 hcond hq hdec hlG hb3 hb4 q0 q1 q2 q3
   go_enter Tryz.func80,Tryz.ntmps80
   go_wp2_with (refine wpList_load_rowG rfl 30 _ rfl _ rfl 30 _ _ _ HC.out Tryz.underlying30 rfl (by kernel_rfl) ?_)
   clear e1
   refine (YT.out _).mono ?_
   rintro e w3 ⟨rfl,h3⟩
   have M3 := hQQ h3
   have HC3 := hQQ (h3.block HC.out)
   clear h3
   go_wp2_with (refine wpList_load_rowG rfl 30 _ rfl _ rfl 30 _ _ _ HC3.out Tryz.underlying30 rfl (by kernel_rfl) ?_)
   refine (r10_List HR.out ws HH.out hl HLn.out g cap k f w3 (HW1.out.more M3.out)).mono ?_
   rintro e w4 ⟨vl,rfl,hrl,m4,_⟩
   have RL := hQQ hrl
   have M4 := hQQ (M3.out.trans m4)
   obtain ⟨l,hle⟩ : ∃ l,listG c.pg c.st G k f = l := ⟨_,rfl⟩
   rw [hle] at hll HDEC HPS RL
   obtain ⟨al,cl,rfl,hrd⟩ := RL.out.reads
   have HRD := hQQ hrd
   clear hrl m4 hle hrd HC HC3 HM HW
   go_wp2_with fail
   go_loopw [11,13] (fun v11 v13 wr => ∃ j : Nat,v13 = .int .i64 (j : Int) ∧ j ≤ l.length ∧ Rw w4.heap.size wr v11 (restL (l.take j) q) ∧ More w4 wr) (fun _ v13 _ => l.length - (intOf v13).toNat)
   case atStart => exact ⟨0,rfl,by omega,Rw.nil _ _,More.refl _⟩
   case round =>
     obtain ⟨j,rfl,hj,hr,ht⟩ := hrel
     have q1 : IntKind.i64.wrap ((j : Int) + 1) = (j : Int) + 1 := wrap_in (by omega) (by omega)
     have HRW := hQQ hr
     have HT := hQQ ht
     clear hr ht
     by_cases hlt : j < l.length
     · have d1 : decide ((j : Int) < (l.length : Int)) = true := by simp; omega
       obtain ⟨ga,rfl,_,_,hcell⟩ := HRD.out j hlt
       have ca := HT.out.cell (hcell j hlt)
       have hrt := restL_take (q:=q) hlt
       have hrl := restL_le (l.take j) q
       have hlx : (l.take j).length ≤ 256 := by simp; omega
       obtain ⟨y,hy⟩ : ∃ y,l.getD j 0 = y := ⟨_,rfl⟩
       rw [hy] at ca hrt
       have HRT := hQQ hrt
       have hjx : (j : Int) < (l.length : Int) := by omega
       clear hcell hy hrt
       by_cases e : y = q
       · have d2 : (y != q) = false := by simp [e]
         have HE := hQQ e
         clear e
         go_wp2_with fail
         go_roundw
         case rel => exact ⟨j + 1,by go_num,by omega,by rw [HRT.out,if_pos HE.out]; exact HRW.out,HT.out⟩
         case measure => simp [intOf]; omega
       · have d2 : (y != q) = true := by simpa using e
         have HE := hQQ e
         clear e
         go_wp2_with (first | (at_builtin; refine wpList_push _ rfl _ _ rfl rfl HRW.out HT.out (by omega) rfl ?_; intro v' w5 hr5 hm5; have HR5 := hQQ hr5; have HM5 := hQQ hm5; clear hr5 hm5))
         go_roundw
         case rel => exact ⟨j + 1,by go_num,by omega,by rw [HRT.out,if_neg HE.out]; exact HR5.out,HM5.out⟩
         case measure => simp [intOf]; omega
     · obtain rfl : j = l.length := by omega
       have d1 : decide ((l.length : Int) < (l.length : Int)) = false := by simp
       rw [List.take_length] at HRW
       obtain ⟨ax,cx,rfl,_⟩ := HRW.out.reads
       have FW := hQQ (HW1.out.more (M4.out.trans HT.out))
       have FT := hQQ (M4.out.trans HT.out)
       rcases HDEC.out with ⟨_,hre,hres⟩ | ⟨hre,hres⟩
       · rw [hre] at HRW ⊢
         have HRS := hQQ hres
         clear hre hres
         go_wp2_with fail
         go_ret
         exact ⟨by rw [HRS.out]; rfl,by rw [HRS.out]; exact FW.out,RowP.turn MM.out (Turned.mono FT.out (fun _ _ z => z.elim))⟩
       · have HRS := hQQ hres
         have d2 : (((restL l q).length : Int) == (l.length : Int)) = false := by simpa using (show ¬ ((restL l q).length : Int) = (l.length : Int) by omega)
         have d3 : ((restL l q).length == l.length) = false := by simpa using (show ¬ (restL l q).length = l.length by omega)
         have d4 : decide ((restL l q).length = l.length) = false := by simpa using (show ¬ (restL l q).length = l.length by omega)
         have hrl := restL_le l q
         obtain ⟨rs,hrs⟩ : ∃ rs,restL l q = rs := ⟨_,rfl⟩
         rw [hrs] at HRW d2 d3 d4 hrl HRS HPS
         rw [hrs]
         have T4 : Hid (Turned (fun b => b = g) w1 wr) := hQQ (Turned.mono FT.out (fun _ _ z => z.elim))
         have HL4 := hQQ (KC.out _ T4.out)
         have UR : Hid (Turned (fun b => b = g) wr wr) := hQQ (Turned.refl _ _)
         clear hre hres hrs
         go_wp2_with (refine wpList_load_rowG rfl 30 _ rfl _ rfl 30 _ _ _ HL4.out Tryz.underlying30 rfl (by kernel_rfl) ?_)
         refine (y_rnext HR.out _ q).mono ?_
         rw [P3.out]
         rintro e wa ⟨rfl,ha⟩
         have Ta : Hid (Turned (fun b => b = g) w1 wa) := hQQ (T4.out.trans (Turned.mono ha (fun _ _ q => q.elim)))
         have Ua : Hid (Turned (fun b => b = g) wr wa) := hQQ (UR.out.trans (Turned.mono ha (fun _ _ q => q.elim)))
         have Xa := hQQ (FW.out.more ha)
         clear ha
         have cb := Xa.out.cell (i:=b3) l3
         have fb := Xa.out.froz b3
         have lb := Xa.out.lt
         obtain ⟨wb,eb⟩ : ∃ wb,World.setCell wa ⟨g,b3,none⟩ (.int .i64 0) = wb := ⟨_,rfl⟩
         have Xb : Hid (Ws wb g cap (ws.set b3 0)) := hQQ (by rw [← eb]; exact Xa.out.set l3 _)
         have Tb : Hid (Turned (fun b => b = g) w1 wb) := hQQ (by rw [← eb]; exact Turned.setCell Ta.out _ _ (fun _ => rfl))
         have HLb := hQQ (KC.out _ Tb.out)
         have Ub : Hid (Turned (fun b => b = g) wr wb) := hQQ (by rw [← eb]; exact Turned.setCell Ua.out _ _ (fun _ => rfl))
         go_wp2_with (refine wpList_load_rowG rfl 30 _ rfl _ rfl 30 _ _ _ HLb.out Tryz.underlying30 rfl (by kernel_rfl) ?_)
         clear cb fb lb eb
         refine (y_rprev HR.out _ q).mono ?_
         rw [P4.out]
         rintro e wc ⟨rfl,hc⟩
         have Tc : Hid (Turned (fun b => b = g) w1 wc) := hQQ (Tb.out.trans (Turned.mono hc (fun _ _ q => q.elim)))
         have Uc : Hid (Turned (fun b => b = g) wr wc) := hQQ (Ub.out.trans (Turned.mono hc (fun _ _ q => q.elim)))
         have Xc := hQQ (Xb.out.more hc)
         clear hc
         have cd := Xc.out.cell (i:=b4) (by simp; omega)
         have fd := Xc.out.froz b4
         have ld := Xc.out.lt
         obtain ⟨wd,ed⟩ : ∃ wd,World.setCell wc ⟨g,b4,none⟩ (.int .i64 0) = wd := ⟨_,rfl⟩
         have Xd : Hid (Ws wd g cap ((ws.set b3 0).set b4 0)) := hQQ (by rw [← ed]; exact Xc.out.set (by simp; omega) _)
         have Td : Hid (Turned (fun b => b = g) w1 wd) := hQQ (by rw [← ed]; exact Turned.setCell Tc.out _ _ (fun _ => rfl))
         have HLd := hQQ (KC.out _ Td.out)
         have NP : Hid (∀ kk,(Value.slice ax rs.length cx).ownBlock = some kk → kk ≠ g ∧ w4.heap.size ≤ kk) := hQQ fun kk e => by
           have := (Rw.own HRW.out e).1
           have := M4.out.size
           omega
         have RD : Hid (Rw w4.heap.size wd (.slice ax rs.length cx) rs) := hQQ (by
           have t0 : Turned (fun b => b = g) wr wd := by
             rw [← ed]
             refine Turned.setCell ?_ _ _ (fun _ => rfl)
             exact Uc.out
           exact HRW.out.keepT t0 (fun kk e => (NP.out kk e).1))
         go_wp2_with (refine wpList_load_rowG rfl 30 _ rfl _ rfl 30 _ _ _ HLd.out Tryz.underlying30 rfl (by kernel_rfl) ?_)
         clear cd fd ld ed
         have lay := r10_lay HR.out ((ws.set b3 0).set b4 0) (by simpa using HH.out) (by simpa using hl) k f hz rs HPS.out (by omega) g cap _ _ wd Xd.out RD.out (fun kk e => (NP.out kk e).1)
         have hlen2 : ((ws.set b3 0).set b4 0).length = ws.length := by simp
         rw [hlen2] at lay
         refine lay.mono ?_
         rintro e w9 ⟨rfl,h9,t9⟩
         have F9 := hQQ h9
         have G9 := hQQ (Td.out.trans t9)
         clear h9 t9 lay
         go_wp2_with fail
         go_ret
         exact ⟨by rw [HRS.out]; rfl,by rw [HRS.out,HS.out]; exact F9.out,RowP.turn MM.out G9.out⟩
 · have hcond : (isPage c.pg q && (headV c.pg c.st k f != 0)) = false := by
     cases e : isPage c.pg q with
     | false => rfl
     | true =>
       have : headV c.pg c.st k f = 0 := Classical.byContradiction fun z => hth ⟨e,z⟩
       simp [this]
   have YT : Hid (∀ W,Calls Tryz.prog 116 #[.agg c.cells,.int .i64 q,.int .i64 k,.int .i64 f] W (Gives W (.bool false))) := hQQ fun W => by have := r10_there R q k f W; rwa [hcond] at this
   have hr := unlink_no H L (c:=k) (f:=f) (p:=q) (fun a b => absurd ⟨a,b⟩ hth)
   rw [hr]
   clear hc R hw H L hcond hth hr
   go_enter Tryz.func80,Tryz.ntmps80
   go_wp2_with (refine wpList_load_rowG rfl 30 _ rfl _ rfl 30 _ _ _ HC.out Tryz.underlying30 rfl (by kernel_rfl) ?_)
   clear e1
   refine (YT.out _).mono ?_
   rintro e w3 ⟨rfl,h3⟩
   have M3 := hQQ (HM.out.trans h3)
   clear h3
   go_wp2_with fail
   go_ret
   exact ⟨rfl,HW.out.more M3.out,Turned.mono M3.out (fun _ _ z => z.elim)⟩
theorem y_rchunks {c : Cfg} (R : c.Ok) (w : World) : Calls Tryz.prog 157 #[.agg c.cells] w (Gives w (.int .i64 (chunksV c.pg))) := rchunks c.wk c.cp c.pg c.st c.tr c.wt c.ck c.pr c.ca c.bi c.ba w R
theorem y_rtable {c : Cfg} (R : c.Ok) (k : Int) (w : World) : Calls Tryz.prog 167 #[.agg c.cells,.int .i64 k] w (Gives w (.int .i64 (tblV c.pg c.st k))) := rtbl c.wk c.cp c.pg c.st c.tr c.wt c.ck c.pr c.ca c.bi c.ba w k R
theorem r_of (p : Int) (h0 : -9223372036854775808 ≤ p) (h1 : p ≤ 9223372036854775807) (w : World) : Calls Tryz.prog 152 #[.int .i64 p] w fun e w' => e = .returned (.int .i64 (ofV p)) ∧ w' = w := by
 by_cases c : p < 0
 · rw [show ofV p = -1 from if_pos c]
   go_enter Tryz.func152,Tryz.ntmps152
   go_wp2_with fail
   go_ret
   exact ⟨rfl,rfl⟩
 · rw [show ofV p = p / 4 from if_neg c]
   have q2 : IntKind.i64.wrap (p.tdiv 4) = p / 4 := by rw [Int.tdiv_eq_ediv_of_nonneg (by omega)]; exact wrap_in (by omega) (by omega)
   have d0 : decide (p < 0) = false := by simp; omega
   go_enter Tryz.func152,Tryz.ntmps152
   go_wp2_with fail
   go_ret
   exact ⟨rfl,rfl⟩
theorem r_there {c : Cfg} (R : c.Ok) (k : Int) (w : World) : Calls Tryz.prog 166 #[.agg c.cells,.int .i64 k] w (Gives w (.bool (isChunk c.pg k))) := by
 have HC := hQQ (row_new w c.cells 30)
 have HM : Hid (More w (w.alloc (.cells c.cells 30))) := (More.refl w).alloc _
 by_cases h : 0 ≤ k
 · have d0 : decide (0 ≤ k) = true := by simp [h]
   have hk : isChunk c.pg k = decide (k < chunksV c.pg) := by unfold isChunk; rw [d0]; rfl
   rw [hk]
   go_enter Tryz.func166,Tryz.ntmps166
   go_wp2_with (refine wpList_load_rowG rfl 30 _ rfl _ rfl 30 _ _ _ HC.out Tryz.underlying30 rfl (by kernel_rfl) ?_)
   refine (y_rchunks R _).mono ?_
   rintro e w1 ⟨rfl,h1⟩
   go_wp2_with fail
   go_ret
   exact ⟨rfl,HM.out.trans h1⟩
 · have d0 : decide (0 ≤ k) = false := by simp [h]
   have hk : isChunk c.pg k = false := by unfold isChunk; rw [d0]; rfl
   rw [hk]
   go_enter Tryz.func166,Tryz.ntmps166
   go_wp2_with fail
   go_ret
   exact ⟨rfl,HM.out⟩
end Go.Proofs.YtflihdcliknggaaGreatDoor
