/-
  Layer 11's statement of any steps over the pages of any small layout.
-/
import Derived.Test.YtflihdcliknggaaGreatDoorPpAq
import Derived.Test.YtflihdcliknggaaGreatDoorPpAu
import Derived.Test.YtflihdcliknggaaGreatDoorPpAp
import Derived.Test.YtflihdcliknggaaGreatDoorPpAm
import Derived.Test.YtflihdcliknggaaGreatDoorPpAk
import Derived.ChangeKeysEq
import Derived.Test.YtflihdcliknggaaGreatDoorPpAa
import Derived.ProofKit
import Derived.Deep.Fields
set_option maxRecDepth 100000
set_option maxHeartbeats 8000000
set_option linter.unusedVariables false
set_option linter.unusedSimpArgs false
set_option linter.unusedSectionVars false
namespace Go.Proofs.YtflihdcliknggaaGreatDoor
open Go.RowKit Go.Sort Go.Maps Go.Shelf
theorem eq4 (x y z u : Int) (w : World) : (Op.equalIn 10000 39 (.agg #[.int .i64 x,.int .i64 y,.int .i64 z,.int .i64 u]) (.agg #[.int .i64 x,.int .i64 y,.int .i64 z,.int .i64 u])).run Tryz.prog w = .ok true w := by
 have hu : Tryz.prog.underlying 3 = some (.int .i64) := Tryz.underlying3
 have hc : Tryz.prog.cellsOf 3 = 1 := by kernel_rfl
 have hs : (Tryz.prog.info? 3).isSome = true := by kernel_rfl
 obtain ⟨i,hi⟩ := Option.isSome_iff_exists.1 hs
 have h3 := Tryz.underlying39
 rw [show (10000 : Nat) = 9999 + 1 from rfl,run_equalIn_array w 9999 _ _ h3 hi,hc]
 have e := fun v => run_equalIn_int (P:=Tryz.prog) (w:=w) 9998 3 .i64 .i64 v v hu
 simp only [List.range,List.range.loop,Op.eqItems,Sem.run_bind,Result.andThen_ok]
 have p : ∀ (k : Nat) (v : Value),(#[Value.int .i64 x,.int .i64 y,.int .i64 z,.int .i64 u])[k]? = some v → (part 3 #[.int .i64 x,.int .i64 y,.int .i64 z,.int .i64 u] (k * 1)).run Tryz.prog w = .ok v w := by
   intro k v h
   exact run_part_plain w (by kernel_rfl) (by simpa using h)
 simp [p 0 (.int .i64 x) rfl,p 1 (.int .i64 y) rfl,p 2 (.int .i64 z) rfl,p 3 (.int .i64 u) rfl,e]
theorem wp_alloc4 {o : Oper} {a : Act} {w : World} {K : Act → World → Prop} {Q : Exit → Act → World → Prop} (ho : o.op = .alloc 39) (h : K (a.put o.dst (.pointer (some ⟨w.heap.size,0,none⟩))) (w.alloc (.cells #[.int .i64 0,.int .i64 0,.int .i64 0,.int .i64 0] 39))) : Oper.wp Tryz.prog o a w K Q := by
 unfold Oper.wp Oper.upon execOp
 simp only [ho]
 go_simp
 exact h
theorem wp_alloc_i1 {o : Oper} {a : Act} {w : World} {K : Act → World → Prop} {Q : Exit → Act → World → Prop} (ho : o.op = .alloc 3) (h : K (a.put o.dst (.pointer (some ⟨w.heap.size,0,none⟩))) (w.alloc (.cells #[.int .i64 0] 3))) : Oper.wp Tryz.prog o a w K Q := by
 unfold Oper.wp Oper.upon execOp
 simp only [ho]
 go_simp
 exact h
theorem wp_store_i1 {o : Oper} {a : Act} {w : World} {K : Act → World → Prop} {Q : Exit → Act → World → Prop} {x y : Operand} (ho : o.op = .store 3 x y) (g : Nat) (hx : a.eval x = .pointer (some ⟨g,0,none⟩)) (z : Int) (hy : a.eval y = .int .i64 z) (v : Value) (hb : w.heap[g]? = some (.cells #[v] 3 (0,0))) (h : K (a.put o.dst undef) (w.setCell ⟨g,0,none⟩ (.int .i64 z))) : Oper.wp Tryz.prog o a w K Q := by
 obtain ⟨hc,hf,hl⟩ := box_cells hb
 unfold Oper.wp Oper.upon execOp
 simp only [ho,hx,hy]
 go_simp
 exact h
theorem reg_fin4 {w6 wz : World} {gw cw gy : Nat} {zs : List Int} (t : V4) (hT : Turned (fun b => b = gw) w6 wz) (hW : Ws wz gw cw zs) (hb : wz.heap[gy]? = some (.cells #[.int .i64 0,.int .i64 0,.int .i64 0,.int .i64 0] 39 (0,0))) (hg : w6.heap.size ≤ gy) (hgw : gw < w6.heap.size) :
   Box4 gy (wz.setRow gy (row4 t)) t ∧ Ws (wz.setRow gy (row4 t)) gw cw zs ∧ Turned (fun b => b = gw) w6 (wz.setRow gy (row4 t)) := by
 have tt : Turned (fun b => b = gy) wz (wz.setRow gy (row4 t)) := Turned.setRow (Turned.refl _ wz) _ _ (fun _ => rfl)
 exact ⟨setRow_heap _ _ _ _ _ _ hb,hW.keep tt (by omega),turned_own hT tt (fun b q => .inr (by omega))⟩
theorem wpList_pushW {ops : Array Oper} {rest : List Oper} {o : Oper} {a : Act} {Q : Exit → Act → World → Prop} {w : World} {b : Nat} {v : Value} {xs : List Int} (y : Int) (hgd : o.guard = none) (s x : Operand)
   (ho : o.op = .call { callee := .builtin .append,args := #[s,x],argTypes := #[34,34] })
   (hs : a.eval s = v) (hn : Rw b w v xs) (hb : b ≤ w.heap.size) (hl : xs.length ≤ 1000000)
   (hx : a.eval x = .slice (some ⟨w.heap.size,0,none⟩) 1 1)
   (h : ∀ g cap w',Rw b w' (.slice (some ⟨g,0,none⟩) (xs.length + 1) cap) (xs ++ [y]) → Turned (fun k => v.ownBlock = some k) w w' → (v.ownBlock = some g ∨ w.heap.size ≤ g) → wpList Tryz.prog ops Q rest (a.put o.dst (.slice (some ⟨g,0,none⟩) (xs.length + 1) cap)) w') : wpList Tryz.prog ops Q (o :: rest) a (w.alloc (.cells #[.int .i64 y] 3)) := by
 obtain ⟨i,i1,i2,i3,i4⟩ := int_info
 have hn' := hn.more ((More.refl w).alloc (.cells #[.int .i64 y] 3))
 have hB := heap_new w (.cells #[.int .i64 y] 3)
 have hW : More w (w.alloc (.cells #[.int .i64 y] 3)) := (More.refl w).alloc _
 refine wpList_append_lies _ hgd s x 34 ho b 3 i _ 1 8 Tryz.underlying34 i1 i2 i3 i4 rfl (by omega) v xs.length _ hs hn' ⟨w.heap.size,0,none⟩ 1 1 [.int .i64 y] hx (by simp)
   (fun j u hu => World.news_of_block hB j u (by simpa using hu)) (by intro u hu; simp at hu; subst hu; rfl) (by omega) (by simp only [maxLen]; omega) (by omega) (by have := hW.size; omega) _ rfl ?_
 intro g cap w1 hown hgrow hor _
 refine h g cap w1 ?_ ?_ (hor.imp id (fun q => by have := hW.size; omega))
 · unfold Rw
   rw [List.length_append,List.map_append]
   exact hown
 · exact ⟨hgrow.os.trans hW.os,hgrow.tape.trans hW.tape,hgrow.output.trans hW.output,Nat.le_trans hW.size hgrow.size,fun k hk hne => (hgrow.block k (Nat.lt_of_lt_of_le hk hW.size) (fun q => hne q.symm)).trans (Turned.block hW k hk (fun q => q))⟩
theorem pg_hdin {c : Cfg} (S : c.Small) {n : Nat} (hn : (n : Int) = c.words) : HdIn c.pg c.st n := by
 have h2 := userB S.ok; have h3 := S.ok.pg1
 have h5 : headsV c.st c.pg + 62 ≤ liveV c.cp c.pg c.st c.ca c.bi := by
   have := prod5B S.ok; have := S.ok.bi1
   unfold liveV binsV cachesV; omega
 have h6 : tableV c.st + chunksV c.pg + 5 * c.pg + 62 ≤ n := by
   rw [hn]
   show _ ≤ wordsV c.cp c.pg c.st c.ca c.bi
   unfold wordsV
   unfold headsV at h5
   omega
 exact { S.tbl hn with top5 := by omega,top62 := h6 }
def ApartB (vb : Value) (gw bl br ba gz gi : Nat) : Prop := ∀ q,vb.ownBlock = some q → q ≠ gw ∧ q ≠ bl ∧ q ≠ br ∧ q ≠ ba ∧ q ≠ gz ∧ q ≠ gi
structure PgI (w wr : World) (d : Cfg) (a : Option Addr) (capl : Nat) (l : List Ins3) (bl br ba n gw cw j : Nat) (zs : List Int) (gz cz gi : Nat) (vb : Value) (bs : List Int) : Prop where
 hj : j ≤ l.length
 hi : wr.heap[gi]? = some (.cells #[.int .i64 (j : Int)] 3 (0,0))
 len : zs.length = n
 ok : OkW zs
 pw : ∃ G,PgW d.pg d.st G zs
 z : Ws wr gz cz zs
 wnt : Ws wr gw cw zs
 lb : wr.heap[bl]? = some (.cells d.arr 28 (0,0))
 rb : wr.heap[br]? = some (.cells d.cells 30 (0,0))
 ab : wr.heap[ba]? = some (.cells #[.slice a l.length capl] 24 (0,0))
 n1 : gw ≠ gz
 n2 : gi ≠ gw ∧ gi ≠ gz ∧ gi ≠ bl ∧ gi ≠ br ∧ gi ≠ ba
 n3 : gw ≠ bl ∧ gw ≠ br ∧ gw ≠ ba
 more : More w wr
 lo : w.heap.size ≤ gi ∧ w.heap.size ≤ gw
 row : Rw w.heap.size wr vb bs
 bl' : bs.length ≤ j
 nb : ApartB vb gw bl br ba gz gi
def cellAt (w : World) : Value → Int
 | .pointer (some ad) => intOf ((w.cell? ad).getD undef)
 | _ => 0
theorem cellAt_of {w : World} {g : Nat} {z : Int} (h : w.cell? ⟨g,0,none⟩ = some (.int .i64 z)) : cellAt w (.pointer (some ⟨g,0,none⟩)) = z := by
 show intOf ((w.cell? ⟨g,0,none⟩).getD undef) = z
 rw [h]; rfl
theorem pg_walk (y0 y1 y2 y3 y4 y5 y6 y7 y8 y9 y10 : Int) (a : Option Addr) (capl : Nat) (l : List Ins3) (w : World) (hS : Sizes w) (f0 : (Lit.int .i64 y0).wf = true) (f1 : (Lit.int .i64 y1).wf = true) (f2 : (Lit.int .i64 y2).wf = true) (f3 : (Lit.int .i64 y3).wf = true) (f4 : (Lit.int .i64 y4).wf = true) (f5 : (Lit.int .i64 y5).wf = true) (f6 : (Lit.int .i64 y6).wf = true) (f7 : (Lit.int .i64 y7).wf = true) (f8 : (Lit.int .i64 y8).wf = true) (f9 : (Lit.int .i64 y9).wf = true) (f10 : (Lit.int .i64 y10).wf = true) (hl : IsIns w a l) (ho : OkP l) (hm : l.length ≤ 9223372036854775807) :
   Calls Tryz.prog 3 #[.agg #[.int .i64 y0,.int .i64 y1,.int .i64 y2,.int .i64 y3,.int .i64 y4,.int .i64 y5,.int .i64 y6,.int .i64 y7,.int .i64 y8,.int .i64 y9,.int .i64 y10],.slice a l.length capl] w (Gives w (.bool true)) := by
 obtain ⟨d,S,BEG⟩ := begin_at y0 y1 y2 y3 y4 y5 y6 y7 y8 y9 y10 f0 f1 f2 f3 f4 f5 f6 f7 f8 f9 f10
 obtain ⟨bt,hsz⟩ := hS
 have HSZ : Hid (SzAt bt w) := hQQ hsz
 have sz0 := HSZ.out.lt0
 have szb := HSZ.out.lt
 have SS := hQQ S
 have wds := S.words
 clear f0 f1 f2 f3 f4 f5 f6 f7 f8 f9 f10 S ho hsz
 obtain ⟨w2,e2,ha2,hb2,m2,hs2⟩ := entry2 w (.cells #[.int .i64 y0,.int .i64 y1,.int .i64 y2,.int .i64 y3,.int .i64 y4,.int .i64 y5,.int .i64 y6,.int .i64 y7,.int .i64 y8,.int .i64 y9,.int .i64 y10] 23) (.cells #[.slice a l.length capl] 24)
 have HA := hQQ ha2
 have HB := hQQ hb2
 have HM := hQQ m2
 have cb := (box_cells hb2).1
 clear ha2 hb2 m2
 by_cases hbig : 100 < l.length
 · have d0 : decide ((100 : Int) < (l.length : Int)) = true := by simp; omega
   clear HA HB BEG wds hs2
   go_enter Tryz.func3,Tryz.ntmps3
   go_wp2_with fail
   refine (lives11_ok bt _ (HSZ.out.more HM.out)).mono ?_
   rintro e w8 ⟨rfl,h8⟩
   have HM8 := hQQ (HM.out.trans h8)
   clear h8
   go_wp2_with fail
   go_ret
   exact ⟨rfl,HM8.out⟩
 · have d0 : decide ((100 : Int) < (l.length : Int)) = false := by simp; omega
   have HS2 := hQQ hs2
   clear hs2
   go_enter Tryz.func3,Tryz.ntmps3
   go_wp2_with (refine wpList_load_row rfl 23 _ rfl w.heap.size rfl 23 _ _ _ HA.out Tryz.underlying23 rfl (by kernel_rfl) ?_)
   have hs2 := HS2.out
   clear e2 cb HS2
   refine (BEG.out _).mono ?_
   rintro e w1 ⟨g,n,hn,rfl,hrw,m1⟩
   obtain ⟨w3,e3,b1,b2,b3,m3,s3⟩ := rows2 w1 zero24 zero11 d.arr d.cells 28 30
   have b4 : w3.heap[w1.heap.size + 1]? = some (.cells d.cells 30 (0,0)) := by rw [← e3]; exact setRow_heap _ _ _ _ _ _ b2
   have hz := zeros_len n
   have wz : Ws w1 g n (zeros n) := Ws.of_rw (base:=w2.heap.size) (by rw [hz]; exact hrw)
   have hg2 : w2.heap.size ≤ g := by
     rcases hrw.2 with ⟨q,_⟩ | ⟨g',cap',cur,q,q2,_⟩
     · cases q
     · have := congrArg Value.ownBlock q
       simp [Value.ownBlock] at this
       omega
   have hg1 := wz.lt
   have B1 := hQQ b1
   have B2 := hQQ b2
   have B3 := hQQ b3
   have B4 := hQQ b4
   have m13 := m1.trans m3
   have AC := hQQ (m13.block HB.out)
   have WZ := hQQ (wz.more m3)
   have M3 := hQQ (HM.out.trans m13)
   have hw1 : w2.heap.size ≤ w1.heap.size := m1.size
   have HN := hQQ hn
   have hnb : 160 ≤ n ∧ n ≤ 800 := by omega
   have ZW := hQQ (WZ.out.words)
   have HZ := hQQ hz
   have HLL := hQQ hl
   clear b1 b2 b3 b4 hrw hn BEG hz wz HA HB HM m1 m3 m13 wds hl
   go_wp2_with (first
     | (refine wpList_store_row rfl 28 _ _ rfl w1.heap.size _ rfl rfl 28 zero24 B1.out (by kernel_rfl) rfl (arr_one d) ?_)
     | (refine wpList_store_row rfl 30 _ _ rfl (w1.heap.size + 1) _ rfl rfl 30 zero11 B2.out (by kernel_rfl) rfl (cells_one d) ?_)
     | (at_builtin; refine wpList_words (zs:=zeros n) rfl _ _ rfl rfl (by rw [HZ.out]; rfl) ZW.out (by rw [HZ.out]; omega) ?_; intro a' cw w4 h4 n4 m4; have RW := hQQ h4; have N4 := hQQ n4; have M4 := hQQ m4; clear h4 n4 m4))
   obtain ⟨gw,rfl,WR⟩ := Ws.of_row' RW.out (by rw [HZ.out]; omega)
   have hgw := N4.out gw rfl
   have m34 := M4.out
   have hi0 := row_new w4 #[.int .i64 0] 3
   have m45 : More w4 (w4.alloc (.cells #[.int .i64 0] 3)) := (More.refl _).alloc _
   have hwl := WR.lt
   have h3l := lt_of_heap AC.out
   have h4l := m34.size
   have hg3 := WZ.out.lt
   have HDN := hQQ (pg_hdin SS.out HN.out)
   have START : Hid (PgI w (w4.alloc (.cells #[.int .i64 0] 3)) d a capl l w1.heap.size (w1.heap.size + 1) (w.heap.size + 1) n gw cw 0 (zeros n) g n w4.heap.size (.slice none 0 0) []) := hQQ
     { hj := Nat.zero_le _,hi := hi0,len := HZ.out,ok := okW_zeros n,pw := ⟨_,pgw_zeros HDN.out⟩,z := (WZ.out.more m34).more m45,wnt := WR.more m45,lb := m45.block (m34.block B3.out),rb := m45.block (m34.block B4.out),ab := m45.block (m34.block AC.out)
       n1 := by omega,n2 := by refine ⟨?_,?_,?_,?_,?_⟩ <;> omega,n3 := by refine ⟨?_,?_,?_⟩ <;> omega,more := (M3.out.trans m34).trans m45,lo := by have := M3.out.size; constructor <;> omega,row := Rw.nil _ _,bl' := by simp,nb := fun q hq => by cases hq }
   rw [HZ.out]
   clear e3 B1 B2 B3 B4 AC WZ M3 ZW HZ RW N4 M4 WR hi0 m45 m34 hwl h3l h4l hg3 hgw hg1 hg2 hw1
   go_loopw [7,9,10] (fun v7 v9 v10 wr => ∃ (j : Nat) (zs : List Int) (gz cz gi : Nat) (vb : Value) (bs : List Int),v7 = .slice (some ⟨gz,0,none⟩) n cz ∧ v9 = vb ∧ v10 = .pointer (some ⟨gi,0,none⟩) ∧ PgI w wr d a capl l w1.heap.size (w1.heap.size + 1) (w.heap.size + 1) n gw cw j zs gz cz gi vb bs) (fun _ _ v10 wr => l.length - (cellAt wr v10).toNat)
   case atStart => exact ⟨0,_,_,_,_,_,_,rfl,rfl,rfl,START.out⟩
   case round =>
     clear START
     obtain ⟨j,zs,gz,cz,gi,vb,bs,rfl,rfl,rfl,I⟩ := hrel
     have c2 := (box_cells I.ab).1
     have c3 := (box_cells I.hi).1
     have hK1 := cellAt_of c3
     have II := hQQ I
     have hgil := lt_of_heap I.hi
     have hjl := I.hj
     obtain ⟨av,cv,rfl,_⟩ := I.row.reads
     by_cases hlt : j < l.length
     · have d1 : decide ((j : Int) < (l.length : Int)) = true := by simp; omega
       obtain ⟨⟨kind,k,m⟩,hj⟩ : ∃ t,l[j]? = some t := ⟨_,List.getElem?_eq_getElem hlt⟩
       obtain ⟨s,o,ha,hs,hc⟩ := (HLL.out.more I.more).resolve_left (by intro q; rw [q] at hlt; simp at hlt)
       subst ha
       obtain ⟨y0,y1,y2⟩ := hc j _ hj
       simp only at y0 y1 y2
       have SW : Hid (s < w.heap.size) := hQQ (HLL.out.lt (by intro q; rw [q] at hlt; simp at hlt) s rfl)
       obtain ⟨ad,had⟩ : ∃ ad,atV d.us bs kind m = ad := ⟨_,rfl⟩
       have K3 := hQQ (And.intro y0 (And.intro y1 y2))
       have K4 := hQQ (fun W (hW : More wr W) => And.intro (hW.cell y0) (And.intro (hW.cell y1) (hW.cell y2)))
       have KRB := hQQ (fun W (hW : More wr W) => hW.block I.rb)
       have KA := hQQ (fun W (hW : More wr W) => (box_cells (hW.block I.ab)).1)
       have KI := hQQ (fun W (hW : More wr W) => (box_cells (hW.block I.hi)).1)
       have KC : Hid (∀ W,More wr W → More wr W) := hQQ fun _ h => h
       have YU : Hid (∀ W,Calls Tryz.prog 9 #[.agg d.cells] W (Gives W (.int .i64 d.us))) := hQQ fun W => ruser _ _ _ _ _ _ _ _ _ _ _ _ SS.out.ok
       have CAT := hQQ (fun W (hW : More wr W) => by
         have := l11_at d.us bs kind k m w.heap.size _ W (I.row.more hW) (by have := I.bl'; omega)
         rw [had] at this
         exact this)
       have HK0 := hQQ hK1
       have HJ := hQQ hj
       have hjx : (j : Int) < (l.length : Int) := by omega
       have hjy : (0 : Int) ≤ (j : Int) := by omega
       clear I hj hK1 y0 y1 y2 hc had
       go_wp2_with fail
       refine wp_region_anyC (fun W => More wr W) (by kernel_rfl) ?_
       have MQ : Hid (More wr (wr.drewN 1)) := hQQ ((More.refl wr).drewN 1)
       change anyC _ _ _ _ _ _ _ _ (wr.drewN 1)
       generalize wr.drewN 1 = wq at MQ ⊢
       have MR : Hid (More wr wq) := hQQ (MQ.out)
       generalize hA : Act.mk _ _ = A
       have HF : AG 121 A [(3,.pointer (some ⟨w.heap.size + 1,0,none⟩)),(6,.pointer (some ⟨w1.heap.size + 1,0,none⟩)),(9,.slice av bs.length cv),(10,.pointer (some ⟨gi,0,none⟩))] := by
         rw [← hA]
         refine ⟨⟨Nat.le_of_ble_eq_true rfl,rfl⟩,?_⟩
         intro z hz; simp only [List.mem_cons,List.not_mem_nil,or_false] at hz; rcases hz with rfl | rfl | rfl | rfl <;> rfl
       refine anyC_start (fun a W => ∃ (u36 u37 u39 u40 u41 u42 u38 u43 : Value) (gy : Nat),a = (Act.put (Act.put (Act.put (Act.put (Act.put (Act.put (Act.put (Act.put (Act.put (Act.put A (some 36) u36) (some 37) u37) (some 39) u39) (some 40) u40) (some 41) u41) (some 42) u42) (some 38) u38) (some 43) u43) (some 11) (.pointer (some ⟨gy,0,none⟩))) none undef) ∧ wr.heap.size ≤ gy ∧ W.heap[gy]? = some (.cells #[.int .i64 ad] 3 (0,0)) ∧ More wr W) (fun _ => False) [] (fun a W hd h => h.elim) (fun _ _ _ _ _ h => h) ?_ ?_
       · skip
         rintro a9 w5 ⟨u36,u37,u39,u40,u41,u42,u38,u43,ga,rfl,hga,hT5,m5⟩
         rw [← hA]
         clear HF hA MR MQ KC KRB KA KI K4 CAT
         have mA : More w5 (w5.alloc (.cells #[.int .i64 0,.int .i64 0,.int .i64 0,.int .i64 0] 39)) := (More.refl _).alloc _
         have hx5 : Box4 w5.heap.size (w5.alloc (.cells #[.int .i64 0,.int .i64 0,.int .i64 0,.int .i64 0] 39)) (0,0,0,0) := row_new w5 #[.int .i64 0,.int .i64 0,.int .i64 0,.int .i64 0] 39
         have s5 : (w5.alloc (.cells #[.int .i64 0,.int .i64 0,.int .i64 0,.int .i64 0] 39)).heap.size = w5.heap.size + 1 := by simp
         have h5l := m5.size
         have lbl := lt_of_heap II.out.lb
         have rbl := lt_of_heap II.out.rb
         have abl := lt_of_heap II.out.ab
         have gwl := II.out.wnt.lt
         have gal := lt_of_heap hT5
         have mr5 := m5.trans mA
         have wsz := II.out.more.size
         have hal : l ≠ [] → ∀ b,leads (some ⟨s,o,none⟩) b → b ≠ w5.heap.size := fun ne b hb => by
           have := HLL.out.lt ne b hb
           omega
         have HDZ : HdIn d.pg d.st zs.length := by rw [II.out.len]; exact HDN.out
         have DO := pg_do SS.out.ok zs HDZ (by rw [II.out.len]; omega) II.out.ok kind k m ad _ w1.heap.size (w.heap.size + 1) gi ga w5.heap.size bt (some ⟨gz,0,none⟩) cz (some ⟨s,o,none⟩) capl l j ⟨mr5.block II.out.lb,mr5.block II.out.ab,mr5.block II.out.hi,mA.block hT5,⟨_,hx5⟩,HSZ.out.more (II.out.more.trans mr5)⟩ ((HLL.out.more II.out.more).more mr5) (by omega) HJ.out (by omega) (by omega) (by omega) (by omega) (by omega) (by omega) hal (II.out.z.words.more mr5)
         obtain ⟨G0,P0⟩ := II.out.pw
         obtain ⟨G1,P1⟩ := gdone_keep HDZ d.us kind k ad P0 rfl II.out.ok
         obtain ⟨hok',hln0⟩ := gdone_words HDZ d.us kind k ad rfl II.out.ok
         have TL : Hid (∀ W,Ws W gw cw zs → Calls Tryz.prog 13 #[.agg d.cells,.slice (some ⟨gw,0,none⟩) n cw,.agg #[.int .i64 kind,.int .i64 k,.int .i64 m],.int .i64 ad] W (RowW W gw cw (.agg (row4 (gdoneV d.us d.pg d.st kind k ad zs).1)) (gdoneV d.us d.pg d.st kind k ad zs).2)) := hQQ (fun W (hW : Ws W gw cw zs) => by have := fn_told11 SS.out.ok zs HDZ (by rw [II.out.len]; omega) P0 II.out.ok kind k m ad gw cw W hW; rw [II.out.len] at this; exact this)
         rw [II.out.len] at DO
         have hln' := hln0.trans II.out.len
         generalize (gdoneV d.us d.pg d.st kind k ad zs).2 = zs' at DO TL hok' hln' hln0 P1
         generalize (gdoneV d.us d.pg d.st kind k ad zs).1 = ans at DO TL
         have DO := hQQ DO
         have HLN := hQQ hln'
         have HOK := hQQ hok'
         have HPW : Hid (∃ G,PgW d.pg d.st G zs') := hQQ ⟨G1,P1⟩
         have MM := hQQ (II.out.more.trans mr5)
         have M5 := hQQ mr5
         have M55 := hQQ m5
         have HT5 := hQQ (mA.block hT5)
         have S5 := hQQ s5
         have c2 := (box_cells (m5.block II.out.ab)).1
         have c3 := (box_cells (m5.block II.out.hi)).1
         clear hok' hln' hln0 P0 P1 G0 G1 hx5 s5 hal HDZ mr5 mA hT5 m5
         go_simp
         go_wp2_with fail
         refine DO.out.mono ?_
         rintro e w6 ⟨v1,v2,rfl,hr,hx4,t6⟩
         obtain ⟨av',cv',rfl,hrd⟩ := hr.reads
         obtain ⟨gz',rfl,hb1,hb2,_⟩ := hrd 0 (by rw [HLN.out]; omega)
         have NW := hQQ (Ws.of_rw hr)
         rw [HLN.out]
         have hb1' : w5.heap.size + 1 ≤ gz' := by rw [← S5.out]; exact hb1
         have K6 : ∀ (b : Nat) (ob : Obj),wr.heap[b]? = some ob → w6.heap[b]? = some ob := fun b ob hb => (t6.block b (lt_of_heap (M5.out.block hb)) (by have := lt_of_heap hb; omega)).trans (M5.out.block hb)
         have lb6 := hQQ (K6 _ _ II.out.lb)
         have rb6 := hQQ (K6 _ _ II.out.rb)
         have ab6 := hQQ (K6 _ _ II.out.ab)
         have hi6 := hQQ (K6 _ _ II.out.hi)
         have at6 := hQQ ((t6.block ga (lt_of_heap HT5.out) (by omega)).trans HT5.out)
         have WNT := hQQ ((II.out.wnt.more M5.out).keep t6 (by omega))
         have row6 := hQQ ((II.out.row.more M5.out).keepT t6 (fun q hq => by have := (II.out.row.own hq).2; omega))
         have HX4 : Hid (Box4 w5.heap.size w6 ans) := hQQ hx4
         have M6 : Hid (More w w6) := hQQ (Turned.mono (turned_own (F:=fun _ => False) MM.out t6 (fun b e => .inr (by omega))) (fun _ _ q => q))
         have GWL := hQQ (And.intro WNT.out.lt gwl)
         have GZL : Hid (wr.heap.size ≤ gz' ∧ wr.heap.size ≤ w6.heap.size) := hQQ ⟨by omega,by have := t6.size; have := M5.out.size; omega⟩
         have NGZ : Hid (gw ≠ gz') := hQQ (by omega)
         have hc6 := K3.out
         obtain ⟨y0,y1,y2⟩ := hc6
         have hN2 := II.out.n2
         have hN3 := II.out.n3
         have hLo := II.out.lo
         have hsw := SW.out
         have kc : ∀ (W : World) (oo : Nat) (v : Value),Turned (fun b => b = gw) w6 W → wr.cell? ⟨s,oo,none⟩ = some v → W.cell? ⟨s,oo,none⟩ = some v := fun W oo v hW hc => cell_turned hW (by omega) (cell_turned t6 (by omega) (M5.out.cell hc))
         have K4 := hQQ (fun W (hW : Turned (fun b => b = gw) w6 W) => And.intro (kc W _ _ hW y0) (And.intro (kc W _ _ hW y1) (kc W _ _ hW y2)))
         have kb : ∀ (W : World) (b : Nat) (ob : Obj),Turned (fun b => b = gw) w6 W → b ≠ gw → w6.heap[b]? = some ob → W.heap[b]? = some ob := fun W b ob hW hne hb => (hW.block b (lt_of_heap hb) hne).trans hb
         have KRB := hQQ (fun W (hW : Turned (fun b => b = gw) w6 W) => kb W _ _ hW (by omega) rb6.out)
         have KA := hQQ (fun W (hW : Turned (fun b => b = gw) w6 W) => (box_cells (kb W _ _ hW (by omega) ab6.out)).1)
         have KI := hQQ (fun W (hW : Turned (fun b => b = gw) w6 W) => (box_cells (kb W _ _ hW (by omega) hi6.out)).1)
         have KT := hQQ (fun W (hW : Turned (fun b => b = gw) w6 W) => (box_cells (kb W _ _ hW (by omega) at6.out)).1)
         have KC : Hid (∀ W,Turned (fun b => b = gw) w6 W → Turned (fun b => b = gw) w6 W) := hQQ fun _ h => h
         clear hr hrd hx4 t6 K6 DO y0 y1 y2 hb1 kc kb hN2 hN3 hLo c2 c3 hsw
         go_wp2_with fail
         refine wp_region_anyC (fun W => Turned (fun b => b = gw) w6 W) (by kernel_rfl) ?_
         have MQ : Hid (More w6 (w6.drewN 1)) := hQQ ((More.refl w6).drewN 1)
         change anyC _ _ _ _ _ _ _ _ (w6.drewN 1)
         generalize w6.drewN 1 = wq at MQ ⊢
         have MR : Hid (Turned (fun b => b = gw) w6 wq) := hQQ (turned_more MQ.out)
         generalize hA : Act.mk _ _ = A
         have HF : AG 121 A [(3,.pointer (some ⟨w.heap.size + 1,0,none⟩)),(6,.pointer (some ⟨w1.heap.size + 1,0,none⟩)),(8,.slice (some ⟨gw,0,none⟩) n cw),(10,.pointer (some ⟨gi,0,none⟩)),(11,.pointer (some ⟨ga,0,none⟩))] := by
           rw [← hA]
           refine ⟨⟨Nat.le_of_ble_eq_true rfl,rfl⟩,?_⟩
           intro z hz; simp only [List.mem_cons,List.not_mem_nil,or_false] at hz; rcases hz with rfl | rfl | rfl | rfl | rfl <;> rfl
         refine anyC_start (fun a W => ∃ (u51 u52 u53 u54 u55 u56 u57 u58 : Value) (gy : Nat),a = (Act.put (Act.put (Act.put (Act.put (Act.put (Act.put (Act.put (Act.put (Act.put (Act.put A (some 51) u51) (some 52) u52) (some 53) u53) (some 54) u54) (some 55) u55) (some 56) u56) (some 57) u57) (some 58) u58) (some 16) (.pointer (some ⟨gy,0,none⟩))) none undef) ∧ w6.heap.size ≤ gy ∧ Box4 gy W ans ∧ Ws W gw cw zs' ∧ Turned (fun b => b = gw) w6 W) (fun _ => False) [] (fun a W hd h => h.elim) (fun _ _ _ _ _ h => h) ?_ ?_
         · skip
           rintro a9 w8 ⟨u51,u52,u53,u54,u55,u56,u57,u58,gy,rfl,hgy,hY8,hW8,t8⟩
           rw [← hA]
           have hN2 := II.out.n2
           have hN3 := II.out.n3
           have hLo := II.out.lo
           have K8 : ∀ (b : Nat) (o : Obj),w6.heap[b]? = some o → b ≠ gw → w8.heap[b]? = some o := fun b o hb hne => (t8.block b (lt_of_heap hb) hne).trans hb
           have lb8 := hQQ (K8 _ _ lb6.out (by omega))
           have rb8 := hQQ (K8 _ _ rb6.out (by omega))
           have ab8 := hQQ (K8 _ _ ab6.out (by omega))
           have hi8 := hQQ (K8 _ _ hi6.out (by omega))
           have at8 := hQQ (K8 _ _ at6.out (by omega))
           have x8 : Hid (w8.heap[w5.heap.size]? = some (.cells #[.int .i64 ans.1,.int .i64 ans.2.1,.int .i64 ans.2.2.1,.int .i64 ans.2.2.2] 39 (0,0))) := hQQ (K8 _ _ HX4.out (by have := GWL.out; omega))
           have y8 : Hid (w8.heap[gy]? = some (.cells #[.int .i64 ans.1,.int .i64 ans.2.1,.int .i64 ans.2.2.1,.int .i64 ans.2.2.2] 39 (0,0))) := hQQ hY8
           have K48 := hQQ (K4.out _ t8)
           have wnt8 := hQQ hW8
           have z8 := hQQ (NW.out.keep t8 (by have := GWL.out; omega))
           have row8 := hQQ (row6.out.keepT t8 (fun q hq => (II.out.nb q hq).1))
           have M8 : Hid (More w w8) := hQQ (Turned.mono (turned_own (F:=fun _ => False) M6.out t8 (fun b e => .inr (by omega))) (fun _ _ q => q))
           have SM := rows_same zs' _ _ 0 0 w8 (by rw [HLN.out]; omega) (z8.out.rw' (Nat.zero_le _)) (wnt8.out.rw' (Nat.zero_le _))
           rw [HLN.out] at SM
           have SM := hQQ SM
           have T8L := hQQ t8.size
           clear hY8 hW8 t8 K8 HF hA MR MQ lb6 rb6 ab6 hi6 HX4 NW at6 row6 K4 KRB KA KI KT KC
           have eq8 := eq4 ans.1 ans.2.1 ans.2.2.1 ans.2.2.2 w8
           go_simp
           go_wp2_with (first | (refine wpList_load_rowG rfl 39 _ rfl _ rfl 39 _ _ _ x8.out Tryz.underlying39 rfl (by kernel_rfl) ?_) | (refine wpList_load_rowG rfl 39 _ rfl _ rfl 39 _ _ _ y8.out Tryz.underlying39 rfl (by kernel_rfl) ?_))
           clear eq8
           refine SM.out.mono ?_
           rintro e w9 ⟨rfl,m9⟩
           have lb9 := hQQ (m9.block lb8.out)
           have rb9 := hQQ (m9.block rb8.out)
           have ab9 := hQQ (m9.block ab8.out)
           have hi9 := hQQ (m9.block hi8.out)
           have wnt9 := hQQ (wnt8.out.more m9)
           have z9 := hQQ (z8.out.more m9)
           have row9 := hQQ (row8.out.more m9)
           have M9 := hQQ (M8.out.trans m9)
           have W9L : Hid (wr.heap.size ≤ w9.heap.size) := hQQ (by have := GZL.out; have := T8L.out; have := m9.size; omega)
           have c2 := (box_cells ab9.out).1
           have c3 := (box_cells hi9.out).1
           have c4 := (box_cells (m9.block at8.out)).1
           have c5 := m9.cell K48.out.1
           have c6 : w9.cell? ⟨gy,0,none⟩ = some (.int .i64 ans.1) := cell_more (j:=0) y8.out m9 rfl
           have c7 : w9.cell? ⟨gy,1,none⟩ = some (.int .i64 ans.2.1) := cell_more (j:=1) y8.out m9 rfl
           have hgi9 := lt_of_heap hi9.out
           clear m9 lb8 rb8 ab8 hi8 wnt8 z8 M8 x8 y8 SM row8 K48 at8
           by_cases k01 : kind = 0 ∨ kind = 1
           · have e0 : decide (0 ≤ kind) = true := by simp; omega
             have e1 : decide (kind < 2) = true := by simp; omega
             have e2 : decide (2 ≤ kind) = false := by simp; omega
             clear k01
             by_cases a1 : ans.2.1 = 1
             · have b1 : (ans.2.1 == 1) = true := by simp [a1]
               have hbl := II.out.bl'
               clear a1
               go_wp2_with (at_builtin; refine wpList_pushW _ rfl _ _ rfl rfl row9.out (by have := M9.out.size; omega) (by omega) rfl ?_; intro g' cap' w10 hr10 ht10 hor10; have row10 := hQQ hr10; have OR10 := hQQ hor10; have NB := II.out.nb; have lb10 := hQQ ((ht10.block _ (lt_of_heap lb9.out) (fun q => (NB _ q).2.1 rfl)).trans lb9.out); have rb10 := hQQ ((ht10.block _ (lt_of_heap rb9.out) (fun q => (NB _ q).2.2.1 rfl)).trans rb9.out); have ab10 := hQQ ((ht10.block _ (lt_of_heap ab9.out) (fun q => (NB _ q).2.2.2.1 rfl)).trans ab9.out); have hi10' := hQQ ((ht10.block _ (lt_of_heap hi9.out) (fun q => (NB _ q).2.2.2.2.2 rfl)).trans hi9.out); have wnt10 := hQQ (wnt9.out.keep ht10 (fun q => (NB _ q).1 rfl)); have z10 := hQQ (z9.out.keep ht10 (fun q => by have := (II.out.row.own q).2; have := GZL.out; omega)); have M10 : Hid (More w w10) := hQQ (Turned.mono (turned_own (F:=fun _ => False) M9.out ht10 (fun b e => .inr (II.out.row.own e).1)) (fun _ _ q => q)); have T10L := hQQ ht10.size; have c3 := (box_cells hi10'.out).1; have hgi10 := lt_of_heap hi10'.out; clear hr10 ht10 hor10 NB)
               have NBF : ApartB (.slice (some ⟨g',0,none⟩) (bs.length + 1) cap') gw w1.heap.size (w1.heap.size + 1) (w.heap.size + 1) gz' w10.heap.size := fun q hq => by
                 have hq' : g' = q := by simpa [Value.ownBlock] using hq
                 have := W9L.out; have := T10L.out; have := GZL.out; have hg' := (row10.out.own hq).2
                 have hz9 := z9.out.lt; have hw9 := wnt9.out.lt; have hl9 := lt_of_heap lb9.out; have hr9 := lt_of_heap rb9.out; have ha9 := lt_of_heap ab9.out
                 rcases OR10.out with z | z
                 · rw [hq'] at z
                   have := II.out.nb q z
                   have := (II.out.row.own z).2
                   omega
                 · omega
               have m10 : More w10 (w10.alloc (.cells #[.int .i64 ((j : Int) + 1)] 3)) := (More.refl _).alloc _
               have hi10 := row_new w10 #[.int .i64 ((j : Int) + 1)] 3
               have hlb := lt_of_heap lb10.out
               have hrb := lt_of_heap rb10.out
               have hab := lt_of_heap ab10.out
               have hwn := wnt10.out.lt
               have hzn := z10.out.lt
               have hms := M10.out.size
               have hN3 := II.out.n3
               have hLo := II.out.lo
               have hBl := II.out.bl'
               refine ⟨⟨j + 1,zs',gz',cv',w10.heap.size,_,bs ++ [ans.1],rfl,rfl,rfl,?_⟩,?_⟩
               · exact { hj := by omega,hi := by rw [hi10]; rfl,len := HLN.out,ok := HOK.out,pw := HPW.out,z := z10.out.more m10,wnt := wnt10.out.more m10,lb := m10.block lb10.out,rb := m10.block rb10.out,ab := m10.block ab10.out
                         n1 := by have := NGZ.out; omega,n2 := by refine ⟨?_,?_,?_,?_,?_⟩ <;> omega,n3 := hN3,more := M10.out.trans m10,lo := by constructor <;> omega,row := row10.out.more m10,bl' := by simp; omega,nb := NBF }
               · rw [HK0.out,cellAt_of (z:=(j : Int) + 1) (box_cells hi10).1]
                 omega
             · have b1 : (ans.2.1 == 1) = false := by simp [a1]
               clear a1
               go_wp2_with fail
               have m10 : More w9 (w9.alloc (.cells #[.int .i64 ((j : Int) + 1)] 3)) := (More.refl _).alloc _
               have hi10 := row_new w9 #[.int .i64 ((j : Int) + 1)] 3
               have hlb := lt_of_heap lb9.out
               have hrb := lt_of_heap rb9.out
               have hab := lt_of_heap ab9.out
               have hwn := wnt9.out.lt
               have hzn := z9.out.lt
               have hms := M9.out.size
               have hN3 := II.out.n3
               have hLo := II.out.lo
               have hBl := II.out.bl'
               refine ⟨⟨j + 1,zs',gz',cv',w9.heap.size,_,bs,rfl,rfl,rfl,?_⟩,?_⟩
               · exact { hj := by omega,hi := by rw [hi10]; rfl,len := HLN.out,ok := HOK.out,pw := HPW.out,z := z9.out.more m10,wnt := wnt9.out.more m10,lb := m10.block lb9.out,rb := m10.block rb9.out,ab := m10.block ab9.out
                         n1 := by have := NGZ.out; omega,n2 := by refine ⟨?_,?_,?_,?_,?_⟩ <;> omega,n3 := hN3,more := M9.out.trans m10,lo := by constructor <;> omega,row := row9.out.more m10,bl' := by omega,nb := fun q hq => by have := II.out.nb q hq; have := (II.out.row.own hq).2; have := GZL.out; have := W9L.out; omega }
               · rw [HK0.out,cellAt_of (z:=(j : Int) + 1) (box_cells hi10).1]
                 omega
           · by_cases k23 : kind = 2 ∨ kind = 3
             · have e0 : decide (0 ≤ kind) = true := by simp; omega
               have e1 : decide (kind < 2) = false := by simp; omega
               have e2 : decide (2 ≤ kind) = true := by simp; omega
               have e3 : decide (kind < 4) = true := by simp; omega
               clear k01 k23
               by_cases a1 : ans.1 = 1
               · have b1 : (ans.1 == 1) = true := by simp [a1]
                 have hbl := II.out.bl'
                 clear a1
                 go_wp2_with fail
                 refine (l11_without bs ad w.heap.size _ w9 row9.out (by omega)).mono ?_
                 rintro e w10 ⟨vv,rfl,hr10,m99⟩
                 have row10 := hQQ (hr10.mono M9.out.size)
                 have RO := hQQ hr10
                 have lb10 := hQQ (m99.block lb9.out)
                 have rb10 := hQQ (m99.block rb9.out)
                 have ab10 := hQQ (m99.block ab9.out)
                 have hi10' := hQQ (m99.block hi9.out)
                 have wnt10 := hQQ (wnt9.out.more m99)
                 have z10 := hQQ (z9.out.more m99)
                 have M10 := hQQ (M9.out.trans m99)
                 have c3 := (box_cells hi10'.out).1
                 have hgi10 := lt_of_heap hi10'.out
                 have hfl := List.length_filter_le (fun x => x != ad) bs
                 clear hr10 m99
                 go_wp2_with fail
                 have NBF : ApartB vv gw w1.heap.size (w1.heap.size + 1) (w.heap.size + 1) gz' w10.heap.size := fun q hq => by
                   have := RO.out.own hq
                   have hz9 := z9.out.lt; have hw9 := wnt9.out.lt; have hl9 := lt_of_heap lb9.out; have hr9 := lt_of_heap rb9.out; have ha9 := lt_of_heap ab9.out
                   omega
                 have m10 : More w10 (w10.alloc (.cells #[.int .i64 ((j : Int) + 1)] 3)) := (More.refl _).alloc _
                 have hi10 := row_new w10 #[.int .i64 ((j : Int) + 1)] 3
                 have hlb := lt_of_heap lb10.out
                 have hrb := lt_of_heap rb10.out
                 have hab := lt_of_heap ab10.out
                 have hwn := wnt10.out.lt
                 have hzn := z10.out.lt
                 have hms := M10.out.size
                 have hN3 := II.out.n3
                 have hLo := II.out.lo
                 have hBl := II.out.bl'
                 refine ⟨⟨j + 1,zs',gz',cv',w10.heap.size,_,bs.filter fun x => x != ad,rfl,rfl,rfl,?_⟩,?_⟩
                 · exact { hj := by omega,hi := by rw [hi10]; rfl,len := HLN.out,ok := HOK.out,pw := HPW.out,z := z10.out.more m10,wnt := wnt10.out.more m10,lb := m10.block lb10.out,rb := m10.block rb10.out,ab := m10.block ab10.out
                           n1 := by have := NGZ.out; omega,n2 := by refine ⟨?_,?_,?_,?_,?_⟩ <;> omega,n3 := hN3,more := M10.out.trans m10,lo := by constructor <;> omega,row := row10.out.more m10,bl' := by omega,nb := NBF }
                 · rw [HK0.out,cellAt_of (z:=(j : Int) + 1) (box_cells hi10).1]
                   omega
               · have b1 : (ans.1 == 1) = false := by simp [a1]
                 clear a1
                 go_wp2_with fail
                 have m10 : More w9 (w9.alloc (.cells #[.int .i64 ((j : Int) + 1)] 3)) := (More.refl _).alloc _
                 have hi10 := row_new w9 #[.int .i64 ((j : Int) + 1)] 3
                 have hlb := lt_of_heap lb9.out
                 have hrb := lt_of_heap rb9.out
                 have hab := lt_of_heap ab9.out
                 have hwn := wnt9.out.lt
                 have hzn := z9.out.lt
                 have hms := M9.out.size
                 have hN3 := II.out.n3
                 have hLo := II.out.lo
                 have hBl := II.out.bl'
                 refine ⟨⟨j + 1,zs',gz',cv',w9.heap.size,_,bs,rfl,rfl,rfl,?_⟩,?_⟩
                 · exact { hj := by omega,hi := by rw [hi10]; rfl,len := HLN.out,ok := HOK.out,pw := HPW.out,z := z9.out.more m10,wnt := wnt9.out.more m10,lb := m10.block lb9.out,rb := m10.block rb9.out,ab := m10.block ab9.out
                           n1 := by have := NGZ.out; omega,n2 := by refine ⟨?_,?_,?_,?_,?_⟩ <;> omega,n3 := hN3,more := M9.out.trans m10,lo := by constructor <;> omega,row := row9.out.more m10,bl' := by omega,nb := fun q hq => by have := II.out.nb q hq; have := (II.out.row.own hq).2; have := GZL.out; have := W9L.out; omega }
                 · rw [HK0.out,cellAt_of (z:=(j : Int) + 1) (box_cells hi10).1]
                   omega
             · by_cases kneg : kind < 0
               · have e0 : decide (0 ≤ kind) = false := by simp; omega
                 have e2 : decide (2 ≤ kind) = false := by simp; omega
                 clear k01 k23 kneg
                 go_wp2_with fail
                 have m10 : More w9 (w9.alloc (.cells #[.int .i64 ((j : Int) + 1)] 3)) := (More.refl _).alloc _
                 have hi10 := row_new w9 #[.int .i64 ((j : Int) + 1)] 3
                 have hlb := lt_of_heap lb9.out
                 have hrb := lt_of_heap rb9.out
                 have hab := lt_of_heap ab9.out
                 have hwn := wnt9.out.lt
                 have hzn := z9.out.lt
                 have hms := M9.out.size
                 have hN3 := II.out.n3
                 have hLo := II.out.lo
                 have hBl := II.out.bl'
                 refine ⟨⟨j + 1,zs',gz',cv',w9.heap.size,_,bs,rfl,rfl,rfl,?_⟩,?_⟩
                 · exact { hj := by omega,hi := by rw [hi10]; rfl,len := HLN.out,ok := HOK.out,pw := HPW.out,z := z9.out.more m10,wnt := wnt9.out.more m10,lb := m10.block lb9.out,rb := m10.block rb9.out,ab := m10.block ab9.out
                           n1 := by have := NGZ.out; omega,n2 := by refine ⟨?_,?_,?_,?_,?_⟩ <;> omega,n3 := hN3,more := M9.out.trans m10,lo := by constructor <;> omega,row := row9.out.more m10,bl' := by omega,nb := fun q hq => by have := II.out.nb q hq; have := (II.out.row.own hq).2; have := GZL.out; have := W9L.out; omega }
                 · rw [HK0.out,cellAt_of (z:=(j : Int) + 1) (box_cells hi10).1]
                   omega
               · have e0 : decide (0 ≤ kind) = true := by simp; omega
                 have e1 : decide (kind < 2) = false := by simp; omega
                 have e2 : decide (2 ≤ kind) = true := by simp; omega
                 have e3 : decide (kind < 4) = false := by simp; omega
                 clear k01 k23 kneg
                 go_wp2_with fail
                 have m10 : More w9 (w9.alloc (.cells #[.int .i64 ((j : Int) + 1)] 3)) := (More.refl _).alloc _
                 have hi10 := row_new w9 #[.int .i64 ((j : Int) + 1)] 3
                 have hlb := lt_of_heap lb9.out
                 have hrb := lt_of_heap rb9.out
                 have hab := lt_of_heap ab9.out
                 have hwn := wnt9.out.lt
                 have hzn := z9.out.lt
                 have hms := M9.out.size
                 have hN3 := II.out.n3
                 have hLo := II.out.lo
                 have hBl := II.out.bl'
                 refine ⟨⟨j + 1,zs',gz',cv',w9.heap.size,_,bs,rfl,rfl,rfl,?_⟩,?_⟩
                 · exact { hj := by omega,hi := by rw [hi10]; rfl,len := HLN.out,ok := HOK.out,pw := HPW.out,z := z9.out.more m10,wnt := wnt9.out.more m10,lb := m10.block lb9.out,rb := m10.block rb9.out,ab := m10.block ab9.out
                           n1 := by have := NGZ.out; omega,n2 := by refine ⟨?_,?_,?_,?_,?_⟩ <;> omega,n3 := hN3,more := M9.out.trans m10,lo := by constructor <;> omega,row := row9.out.more m10,bl' := by omega,nb := fun q hq => by have := II.out.nb q hq; have := (II.out.row.own hq).2; have := GZL.out; have := W9L.out; omega }
                 · rw [HK0.out,cellAt_of (z:=(j : Int) + 1) (box_cells hi10).1]
                   omega
         intro QQ FINE FIND FINQ
         clear hA
         refine anyC_takeD (i:=0) (v:=.agg d.cells) (some 51) rfl rfl (by kernel_rfl) (by kernel_rfl) (by kernel_rfl) (fun c a w => FINQ c a _ _ w) (KC.out _ MR.out) (by exact yieldsC_row (C:=(fun W => Turned (fun b => b = gw) w6 W)) (wanted_none rfl) 30 _ rfl (w1.heap.size + 1) (HF.get 1 rfl) 30 _ _ _ (fun W hW => KRB.out W hW) Tryz.underlying30 rfl (by kernel_rfl)) ?_
         replace HF := HF.put 51 (.agg d.cells) (by decide) rfl
         generalize hB1_51 : Act.put _ _ _ = A at HF ⊢
         refine anyC_takeD (i:=1) (v:=.slice (some ⟨gw,0,none⟩) n cw) (some 52) rfl rfl (by kernel_rfl) (by kernel_rfl) (by kernel_rfl) (fun c a w => FINQ c a _ _ w) (KC.out _ MR.out) (by exact yieldsC_moveG (wanted_none rfl) _ rfl (HF.get 3 rfl)) ?_
         replace HF := HF.put 52 (.slice (some ⟨gw,0,none⟩) n cw) (by decide) rfl
         generalize hB2_52 : Act.put _ _ _ = A at HF ⊢
         refine anyC_takeD (i:=2) (v:=.slice (some ⟨s,o,none⟩) l.length capl) (some 53) rfl rfl (by kernel_rfl) (by kernel_rfl) (by kernel_rfl) (fun c a w => FINQ c a _ _ w) (KC.out _ MR.out) (by exact yieldsC_cell (C:=(fun W => Turned (fun b => b = gw) w6 W)) (wanted_none rfl) 24 _ rfl (w.heap.size + 1) 0 (HF.get 2 rfl) (.slice (some ⟨s,o,none⟩) l.length capl) _ Tryz.underlying24 rfl (fun W hW => KA.out W hW)) ?_
         replace HF := HF.put 53 (.slice (some ⟨s,o,none⟩) l.length capl) (by decide) rfl
         generalize hB3_53 : Act.put _ _ _ = A at HF ⊢
         refine anyC_takeD (i:=3) (v:=.int .i64 (j : Int)) (some 54) rfl rfl (by kernel_rfl) (by kernel_rfl) (by kernel_rfl) (fun c a w => FINQ c a _ _ w) (KC.out _ MR.out) (by exact yieldsC_cell (C:=(fun W => Turned (fun b => b = gw) w6 W)) (wanted_none rfl) 3 _ rfl (gi) 0 (HF.get 6 rfl) (.int .i64 (j : Int)) _ Tryz.underlying3 rfl (fun W hW => KI.out W hW)) ?_
         replace HF := HF.put 54 (.int .i64 (j : Int)) (by decide) rfl
         generalize hB4_54 : Act.put _ _ _ = A at HF ⊢
         refine anyC_takeD (i:=4) (v:=.pointer (some ⟨s,o + j * 3,none⟩)) (some 55) rfl rfl (by kernel_rfl) (by kernel_rfl) (by kernel_rfl) (fun c a w => FINQ c a _ _ w) (KC.out _ MR.out) (by exact (Or.inl ⟨(wanted_none rfl),fun W hW => by have h5 := (HF.getD 1 rfl); have h6 := (HF.getD 0 rfl); go_simp⟩)) ?_
         replace HF := HF.put 55 (.pointer (some ⟨s,o + j * 3,none⟩)) (by decide) rfl
         generalize hB5_55 : Act.put _ _ _ = A at HF ⊢
         refine anyC_takeD (i:=5) (v:=.agg #[.int .i64 kind,.int .i64 k,.int .i64 m]) (some 56) rfl rfl (by kernel_rfl) (by kernel_rfl) (by kernel_rfl) (fun c a w => FINQ c a _ _ w) (KC.out _ MR.out) (by exact yieldsC_3 (C:=(fun W => Turned (fun b => b = gw) w6 W)) (wanted_none rfl) 38 _ rfl s (o + j * 3) (HF.get 0 rfl) _ _ _ _ (fun W hW => K4.out W hW) Tryz.underlying38 rfl (by kernel_rfl)) ?_
         replace HF := HF.put 56 (.agg #[.int .i64 kind,.int .i64 k,.int .i64 m]) (by decide) rfl
         generalize hB6_56 : Act.put _ _ _ = A at HF ⊢
         refine anyC_takeD (i:=6) (v:=.int .i64 ad) (some 57) rfl rfl (by kernel_rfl) (by kernel_rfl) (by kernel_rfl) (fun c a w => FINQ c a _ _ w) (KC.out _ MR.out) (by exact yieldsC_cell (C:=(fun W => Turned (fun b => b = gw) w6 W)) (wanted_none rfl) 3 _ rfl (ga) 0 (HF.get 10 rfl) (.int .i64 ad) _ Tryz.underlying3 rfl (fun W hW => KT.out W hW)) ?_
         replace HF := HF.put 57 (.int .i64 ad) (by decide) rfl
         generalize hB7_57 : Act.put _ _ _ = A at HF ⊢
         refine anyC_two (i:=7) (j:=8) (some 58) (some 16) (by kernel_rfl) rfl rfl (wanted_none rfl) (wanted_none rfl) rfl rfl (fun K hK => ?_) (fun K hK => ?_)
         · refine wp_call4 (v0:=.agg d.cells) (v1:=.slice (some ⟨gw,0,none⟩) n cw) (v2:=.agg #[.int .i64 kind,.int .i64 k,.int .i64 m]) (v3:=.int .i64 ad) rfl (HF.get 6 rfl) (HF.get 5 rfl) (HF.get 1 rfl) (HF.get 0 rfl) (enters_of Tryz.func13 (by kernel_rfl) rfl) ?_
           refine (TL.out wq (WNT.out.more MQ.out)).mono ?_
           rintro e wx9 ⟨rfl,hWx9,tx9⟩
           have hw := hWx9
           have Mx9 : Hid (Turned (fun b => b = gw) w6 wx9) := hQQ (MR.out.trans tx9)
           refine hK _ _ Mx9.out ?_
           clear hK K
           replace HF := HF.put 58 (.agg (row4 ans)) (by decide) rfl
           generalize hB8_58 : Act.put _ _ _ = A at HF ⊢
           refine anyC_oneK (i:=8) (some 16) (by kernel_rfl) rfl (wanted_none rfl) rfl (fun K hK => ?_)
           refine wp_alloc4 rfl ?_
           obtain ⟨wx10,ex10⟩ : ∃ wx10,wx9.alloc (.cells #[.int .i64 0,.int .i64 0,.int .i64 0,.int .i64 0] 39) = wx10 := ⟨_,rfl⟩
           have hb : wx10.heap[wx9.heap.size]? = some (.cells #[.int .i64 0,.int .i64 0,.int .i64 0,.int .i64 0] 39 (0,0)) := by rw [← ex10]; exact row_new _ _ _
           have mx10 : More wx9 wx10 := by rw [← ex10]; exact (More.refl _).alloc _
           rw [ex10]
           clear ex10
           have Mx10 : Hid (Turned (fun b => b = gw) w6 wx10) := hQQ (Mx9.out.trans (turned_more mx10))
           have hgy := Mx9.out.size
           have hgl := lt_of_heap hb
           refine hK _ _ Mx10.out ?_
           clear hK K
           replace HF := HF.put 16 (.pointer (some ⟨wx9.heap.size,0,none⟩)) (by decide) rfl
           generalize hB9_16 : Act.put _ _ _ = A at HF ⊢
           replace hw := hw.more mx10
           refine anyC_one (i:=9) (by kernel_rfl) rfl (wanted_none rfl) ?_
           refine wp_store_row 39 _ _ rfl (wx9.heap.size) _ (HF.get 0 rfl) (HF.get 1 rfl) 39 #[.int .i64 0,.int .i64 0,.int .i64 0,.int .i64 0] hb (by kernel_rfl) rfl (by simp [row4,Value.oneCell']) ?_
           obtain ⟨fb,fw,ft⟩ := reg_fin4 ans Mx10.out hw hb hgy (by have := GWL.out; omega)
           refine ⟨ft,?_⟩
           exact anyC_done (by kernel_rfl) (FINE _ _ ⟨(.agg d.cells),(.slice (some ⟨gw,0,none⟩) n cw),(.slice (some ⟨s,o,none⟩) l.length capl),(.int .i64 (j : Int)),(.pointer (some ⟨s,o + j * 3,none⟩)),(.agg #[.int .i64 kind,.int .i64 k,.int .i64 m]),(.int .i64 ad),(.agg (row4 ans)),wx9.heap.size,by rw [← hB9_16,← hB8_58,← hB7_57,← hB6_56,← hB5_55,← hB4_54,← hB3_53,← hB2_52,← hB1_51]; rfl,hgy,fb,fw,ft⟩)
         · refine wp_alloc4 rfl ?_
           obtain ⟨wx11,ex11⟩ : ∃ wx11,wq.alloc (.cells #[.int .i64 0,.int .i64 0,.int .i64 0,.int .i64 0] 39) = wx11 := ⟨_,rfl⟩
           have hb : wx11.heap[wq.heap.size]? = some (.cells #[.int .i64 0,.int .i64 0,.int .i64 0,.int .i64 0] 39 (0,0)) := by rw [← ex11]; exact row_new _ _ _
           have mx11 : More wq wx11 := by rw [← ex11]; exact (More.refl _).alloc _
           rw [ex11]
           clear ex11
           have Mx11 : Hid (Turned (fun b => b = gw) w6 wx11) := hQQ (MR.out.trans (turned_more mx11))
           have hgy := MR.out.size
           have hgl := lt_of_heap hb
           refine hK _ _ Mx11.out ?_
           clear hK K
           replace HF := HF.put 16 (.pointer (some ⟨wq.heap.size,0,none⟩)) (by decide) rfl
           generalize hB8_16 : Act.put _ _ _ = A at HF ⊢
           refine anyC_oneK (i:=7) (some 58) (by kernel_rfl) rfl (wanted_none rfl) rfl (fun K hK => ?_)
           refine wp_call4 (v0:=.agg d.cells) (v1:=.slice (some ⟨gw,0,none⟩) n cw) (v2:=.agg #[.int .i64 kind,.int .i64 k,.int .i64 m]) (v3:=.int .i64 ad) rfl (HF.get 7 rfl) (HF.get 6 rfl) (HF.get 2 rfl) (HF.get 1 rfl) (enters_of Tryz.func13 (by kernel_rfl) rfl) ?_
           refine (TL.out wx11 ((WNT.out.more MQ.out).more mx11)).mono ?_
           rintro e wx12 ⟨rfl,hWx12,tx12⟩
           have hw := hWx12
           have Mx12 : Hid (Turned (fun b => b = gw) w6 wx12) := hQQ (Mx11.out.trans tx12)
           replace hb := (tx12.block _ (lt_of_heap hb) (by have := GWL.out; omega)).trans hb
           refine hK _ _ Mx12.out ?_
           clear hK K
           replace HF := HF.put 58 (.agg (row4 ans)) (by decide) rfl
           generalize hB9_58 : Act.put _ _ _ = A at HF ⊢
           refine anyC_one (i:=9) (by kernel_rfl) rfl (wanted_none rfl) ?_
           refine wp_store_row 39 _ _ rfl (wq.heap.size) _ (HF.get 1 rfl) (HF.get 0 rfl) 39 #[.int .i64 0,.int .i64 0,.int .i64 0,.int .i64 0] hb (by kernel_rfl) rfl (by simp [row4,Value.oneCell']) ?_
           obtain ⟨fb,fw,ft⟩ := reg_fin4 ans Mx12.out hw hb hgy (by have := GWL.out; omega)
           refine ⟨ft,?_⟩
           exact anyC_done (by kernel_rfl) (FINE _ _ ⟨(.agg d.cells),(.slice (some ⟨gw,0,none⟩) n cw),(.slice (some ⟨s,o,none⟩) l.length capl),(.int .i64 (j : Int)),(.pointer (some ⟨s,o + j * 3,none⟩)),(.agg #[.int .i64 kind,.int .i64 k,.int .i64 m]),(.int .i64 ad),(.agg (row4 ans)),wq.heap.size,by rw [← hB9_58,← hB8_16,← hB7_57,← hB6_56,← hB5_55,← hB4_54,← hB3_53,← hB2_52,← hB1_51,put_com (i:=16) (j:=58) (by decide)]; rfl,hgy,fb,fw,ft⟩)
       intro QQ FINE FIND FINQ
       clear hA
       refine anyC_takeD (i:=0) (v:=.slice av bs.length cv) (some 36) rfl rfl (by kernel_rfl) (by kernel_rfl) (by kernel_rfl) (fun c a w => FINQ c a _ _ w) (KC.out _ MR.out) (by exact yieldsC_moveG (wanted_none rfl) _ rfl (HF.get 2 rfl)) ?_
       replace HF := HF.put 36 (.slice av bs.length cv) (by decide) rfl
       generalize hB1_36 : Act.put _ _ _ = A at HF ⊢
       refine anyC_takeD (i:=1) (v:=.agg d.cells) (some 37) rfl rfl (by kernel_rfl) (by kernel_rfl) (by kernel_rfl) (fun c a w => FINQ c a _ _ w) (KC.out _ MR.out) (by exact yieldsC_row (C:=(fun W => More wr W)) (wanted_none rfl) 30 _ rfl (w1.heap.size + 1) (HF.get 2 rfl) 30 _ _ _ (fun W hW => KRB.out W hW) Tryz.underlying30 rfl (by kernel_rfl)) ?_
       replace HF := HF.put 37 (.agg d.cells) (by decide) rfl
       generalize hB2_37 : Act.put _ _ _ = A at HF ⊢
       refine anyC_takeD (i:=3) (v:=.slice (some ⟨s,o,none⟩) l.length capl) (some 39) rfl rfl (by kernel_rfl) (by kernel_rfl) (by kernel_rfl) (fun c a w => FINQ c a _ _ w) (KC.out _ MR.out) (by exact yieldsC_cell (C:=(fun W => More wr W)) (wanted_none rfl) 24 _ rfl (w.heap.size + 1) 0 (HF.get 2 rfl) (.slice (some ⟨s,o,none⟩) l.length capl) _ Tryz.underlying24 rfl (fun W hW => KA.out W hW)) ?_
       replace HF := HF.put 39 (.slice (some ⟨s,o,none⟩) l.length capl) (by decide) rfl
       generalize hB3_39 : Act.put _ _ _ = A at HF ⊢
       refine anyC_takeD (i:=4) (v:=.int .i64 (j : Int)) (some 40) rfl rfl (by kernel_rfl) (by kernel_rfl) (by kernel_rfl) (fun c a w => FINQ c a _ _ w) (KC.out _ MR.out) (by exact yieldsC_cell (C:=(fun W => More wr W)) (wanted_none rfl) 3 _ rfl (gi) 0 (HF.get 6 rfl) (.int .i64 (j : Int)) _ Tryz.underlying3 rfl (fun W hW => KI.out W hW)) ?_
       replace HF := HF.put 40 (.int .i64 (j : Int)) (by decide) rfl
       generalize hB4_40 : Act.put _ _ _ = A at HF ⊢
       refine anyC_takeD (i:=5) (v:=.pointer (some ⟨s,o + j * 3,none⟩)) (some 41) rfl rfl (by kernel_rfl) (by kernel_rfl) (by kernel_rfl) (fun c a w => FINQ c a _ _ w) (KC.out _ MR.out) (by exact (Or.inl ⟨(wanted_none rfl),fun W hW => by have h5 := (HF.getD 1 rfl); have h6 := (HF.getD 0 rfl); go_simp⟩)) ?_
       replace HF := HF.put 41 (.pointer (some ⟨s,o + j * 3,none⟩)) (by decide) rfl
       generalize hB5_41 : Act.put _ _ _ = A at HF ⊢
       refine anyC_takeD (i:=6) (v:=.agg #[.int .i64 kind,.int .i64 k,.int .i64 m]) (some 42) rfl rfl (by kernel_rfl) (by kernel_rfl) (by kernel_rfl) (fun c a w => FINQ c a _ _ w) (KC.out _ MR.out) (by exact yieldsC_3 (C:=(fun W => More wr W)) (wanted_none rfl) 38 _ rfl s (o + j * 3) (HF.get 0 rfl) _ _ _ _ (fun W hW => K4.out W hW) Tryz.underlying38 rfl (by kernel_rfl)) ?_
       replace HF := HF.put 42 (.agg #[.int .i64 kind,.int .i64 k,.int .i64 m]) (by decide) rfl
       generalize hB6_42 : Act.put _ _ _ = A at HF ⊢
       refine anyC_two (i:=2) (j:=8) (some 38) (some 11) (by kernel_rfl) rfl rfl (wanted_none rfl) (wanted_none rfl) rfl rfl (fun K hK => ?_) (fun K hK => ?_)
       · refine wp_call1 (v0:=.agg d.cells) rfl (HF.get 4 rfl) (enters_of Tryz.func9 (by kernel_rfl) rfl) ?_
         refine (YU.out wq).mono ?_
         rintro e wx1 ⟨rfl,mx1⟩
         have Mx1 : Hid (More wr wx1) := hQQ (MR.out.trans mx1)
         refine hK _ _ Mx1.out ?_
         clear hK K
         replace HF := HF.put 38 (.int .i64 d.us) (by decide) rfl
         generalize hB7_38 : Act.put _ _ _ = A at HF ⊢
         refine anyC_two (i:=7) (j:=8) (some 43) (some 11) (by kernel_rfl) rfl rfl (wanted_none rfl) (wanted_none rfl) rfl rfl (fun K hK => ?_) (fun K hK => ?_)
         · refine wp_call3 (v0:=.slice av bs.length cv) (v1:=.int .i64 d.us) (v2:=.agg #[.int .i64 kind,.int .i64 k,.int .i64 m]) rfl (HF.get 6 rfl) (HF.get 0 rfl) (HF.get 1 rfl) (enters_of Tryz.func8 (by kernel_rfl) rfl) ?_
           refine (CAT.out wx1 Mx1.out).mono ?_
           rintro e wx2 ⟨rfl,mx2⟩
           have Mx2 : Hid (More wr wx2) := hQQ (Mx1.out.trans mx2)
           refine hK _ _ Mx2.out ?_
           clear hK K
           replace HF := HF.put 43 (.int .i64 ad) (by decide) rfl
           generalize hB8_43 : Act.put _ _ _ = A at HF ⊢
           refine anyC_oneK (i:=8) (some 11) (by kernel_rfl) rfl (wanted_none rfl) rfl (fun K hK => ?_)
           refine wp_alloc_i1 rfl ?_
           obtain ⟨wx3,ex3⟩ : ∃ wx3,wx2.alloc (.cells #[.int .i64 0] 3) = wx3 := ⟨_,rfl⟩
           have hb : wx3.heap[wx2.heap.size]? = some (.cells #[.int .i64 0] 3 (0,0)) := by rw [← ex3]; exact row_new _ _ _
           have mx3 : More wx2 wx3 := by rw [← ex3]; exact (More.refl _).alloc _
           rw [ex3]
           clear ex3
           have Mx3 : Hid (More wr wx3) := hQQ (Mx2.out.trans (id mx3))
           have hgy := Mx2.out.size
           have hgl := lt_of_heap hb
           refine hK _ _ Mx3.out ?_
           clear hK K
           replace HF := HF.put 11 (.pointer (some ⟨wx2.heap.size,0,none⟩)) (by decide) rfl
           generalize hB9_11 : Act.put _ _ _ = A at HF ⊢
           refine anyC_one (i:=9) (by kernel_rfl) rfl (wanted_none rfl) ?_
           refine wp_store_i1 rfl (wx2.heap.size) (HF.get 0 rfl) ad (HF.get 1 rfl) _ hb ?_
           have tS : More wr (wx3.setCell ⟨wx2.heap.size,0,none⟩ (.int .i64 ad)) := Turned.mono (turned_own (F:=fun _ => False) Mx3.out (Turned.setCell (S:=fun q => q = wx2.heap.size) (Turned.refl _ wx3) ⟨wx2.heap.size,0,none⟩ (.int .i64 ad) (fun _ => rfl)) (fun k e => .inr (by omega))) (fun _ _ q => q)
           refine ⟨tS,?_⟩
           exact anyC_done (by kernel_rfl) (FINE _ _ ⟨(.slice av bs.length cv),(.agg d.cells),(.slice (some ⟨s,o,none⟩) l.length capl),(.int .i64 (j : Int)),(.pointer (some ⟨s,o + j * 3,none⟩)),(.agg #[.int .i64 kind,.int .i64 k,.int .i64 m]),(.int .i64 d.us),(.int .i64 ad),wx2.heap.size,by rw [← hB9_11,← hB8_43,← hB7_38,← hB6_42,← hB5_41,← hB4_40,← hB3_39,← hB2_37,← hB1_36]; rfl,hgy,setCell_one hb _,tS⟩)
         · refine wp_alloc_i1 rfl ?_
           obtain ⟨wx4,ex4⟩ : ∃ wx4,wx1.alloc (.cells #[.int .i64 0] 3) = wx4 := ⟨_,rfl⟩
           have hb : wx4.heap[wx1.heap.size]? = some (.cells #[.int .i64 0] 3 (0,0)) := by rw [← ex4]; exact row_new _ _ _
           have mx4 : More wx1 wx4 := by rw [← ex4]; exact (More.refl _).alloc _
           rw [ex4]
           clear ex4
           have Mx4 : Hid (More wr wx4) := hQQ (Mx1.out.trans (id mx4))
           have hgy := Mx1.out.size
           have hgl := lt_of_heap hb
           refine hK _ _ Mx4.out ?_
           clear hK K
           replace HF := HF.put 11 (.pointer (some ⟨wx1.heap.size,0,none⟩)) (by decide) rfl
           generalize hB8_11 : Act.put _ _ _ = A at HF ⊢
           refine anyC_oneK (i:=7) (some 43) (by kernel_rfl) rfl (wanted_none rfl) rfl (fun K hK => ?_)
           refine wp_call3 (v0:=.slice av bs.length cv) (v1:=.int .i64 d.us) (v2:=.agg #[.int .i64 kind,.int .i64 k,.int .i64 m]) rfl (HF.get 7 rfl) (HF.get 1 rfl) (HF.get 2 rfl) (enters_of Tryz.func8 (by kernel_rfl) rfl) ?_
           refine (CAT.out wx4 Mx4.out).mono ?_
           rintro e wx5 ⟨rfl,mx5⟩
           have Mx5 : Hid (More wr wx5) := hQQ (Mx4.out.trans mx5)
           replace hb := mx5.block hb
           refine hK _ _ Mx5.out ?_
           clear hK K
           replace HF := HF.put 43 (.int .i64 ad) (by decide) rfl
           generalize hB9_43 : Act.put _ _ _ = A at HF ⊢
           refine anyC_one (i:=9) (by kernel_rfl) rfl (wanted_none rfl) ?_
           refine wp_store_i1 rfl (wx1.heap.size) (HF.get 1 rfl) ad (HF.get 0 rfl) _ hb ?_
           have tS : More wr (wx5.setCell ⟨wx1.heap.size,0,none⟩ (.int .i64 ad)) := Turned.mono (turned_own (F:=fun _ => False) Mx5.out (Turned.setCell (S:=fun q => q = wx1.heap.size) (Turned.refl _ wx5) ⟨wx1.heap.size,0,none⟩ (.int .i64 ad) (fun _ => rfl)) (fun k e => .inr (by omega))) (fun _ _ q => q)
           refine ⟨tS,?_⟩
           exact anyC_done (by kernel_rfl) (FINE _ _ ⟨(.slice av bs.length cv),(.agg d.cells),(.slice (some ⟨s,o,none⟩) l.length capl),(.int .i64 (j : Int)),(.pointer (some ⟨s,o + j * 3,none⟩)),(.agg #[.int .i64 kind,.int .i64 k,.int .i64 m]),(.int .i64 d.us),(.int .i64 ad),wx1.heap.size,by rw [← hB9_43,← hB8_11,← hB7_38,← hB6_42,← hB5_41,← hB4_40,← hB3_39,← hB2_37,← hB1_36,put_com (i:=11) (j:=43) (by decide)]; rfl,hgy,setCell_one hb _,tS⟩)
       · refine wp_alloc_i1 rfl ?_
         obtain ⟨wx6,ex6⟩ : ∃ wx6,wq.alloc (.cells #[.int .i64 0] 3) = wx6 := ⟨_,rfl⟩
         have hb : wx6.heap[wq.heap.size]? = some (.cells #[.int .i64 0] 3 (0,0)) := by rw [← ex6]; exact row_new _ _ _
         have mx6 : More wq wx6 := by rw [← ex6]; exact (More.refl _).alloc _
         rw [ex6]
         clear ex6
         have Mx6 : Hid (More wr wx6) := hQQ (MR.out.trans (id mx6))
         have hgy := MR.out.size
         have hgl := lt_of_heap hb
         refine hK _ _ Mx6.out ?_
         clear hK K
         replace HF := HF.put 11 (.pointer (some ⟨wq.heap.size,0,none⟩)) (by decide) rfl
         generalize hB7_11 : Act.put _ _ _ = A at HF ⊢
         refine anyC_oneK (i:=2) (some 38) (by kernel_rfl) rfl (wanted_none rfl) rfl (fun K hK => ?_)
         refine wp_call1 (v0:=.agg d.cells) rfl (HF.get 5 rfl) (enters_of Tryz.func9 (by kernel_rfl) rfl) ?_
         refine (YU.out wx6).mono ?_
         rintro e wx7 ⟨rfl,mx7⟩
         have Mx7 : Hid (More wr wx7) := hQQ (Mx6.out.trans mx7)
         replace hb := mx7.block hb
         refine hK _ _ Mx7.out ?_
         clear hK K
         replace HF := HF.put 38 (.int .i64 d.us) (by decide) rfl
         generalize hB8_38 : Act.put _ _ _ = A at HF ⊢
         refine anyC_oneK (i:=7) (some 43) (by kernel_rfl) rfl (wanted_none rfl) rfl (fun K hK => ?_)
         refine wp_call3 (v0:=.slice av bs.length cv) (v1:=.int .i64 d.us) (v2:=.agg #[.int .i64 kind,.int .i64 k,.int .i64 m]) rfl (HF.get 7 rfl) (HF.get 0 rfl) (HF.get 2 rfl) (enters_of Tryz.func8 (by kernel_rfl) rfl) ?_
         refine (CAT.out wx7 Mx7.out).mono ?_
         rintro e wx8 ⟨rfl,mx8⟩
         have Mx8 : Hid (More wr wx8) := hQQ (Mx7.out.trans mx8)
         replace hb := mx8.block hb
         refine hK _ _ Mx8.out ?_
         clear hK K
         replace HF := HF.put 43 (.int .i64 ad) (by decide) rfl
         generalize hB9_43 : Act.put _ _ _ = A at HF ⊢
         refine anyC_one (i:=9) (by kernel_rfl) rfl (wanted_none rfl) ?_
         refine wp_store_i1 rfl (wq.heap.size) (HF.get 2 rfl) ad (HF.get 0 rfl) _ hb ?_
         have tS : More wr (wx8.setCell ⟨wq.heap.size,0,none⟩ (.int .i64 ad)) := Turned.mono (turned_own (F:=fun _ => False) Mx8.out (Turned.setCell (S:=fun q => q = wq.heap.size) (Turned.refl _ wx8) ⟨wq.heap.size,0,none⟩ (.int .i64 ad) (fun _ => rfl)) (fun k e => .inr (by omega))) (fun _ _ q => q)
         refine ⟨tS,?_⟩
         exact anyC_done (by kernel_rfl) (FINE _ _ ⟨(.slice av bs.length cv),(.agg d.cells),(.slice (some ⟨s,o,none⟩) l.length capl),(.int .i64 (j : Int)),(.pointer (some ⟨s,o + j * 3,none⟩)),(.agg #[.int .i64 kind,.int .i64 k,.int .i64 m]),(.int .i64 d.us),(.int .i64 ad),wq.heap.size,by rw [← hB9_43,← hB8_38,← hB7_11,← hB6_42,← hB5_41,← hB4_40,← hB3_39,← hB2_37,← hB1_36,put_com (i:=11) (j:=38) (by decide),put_com (i:=11) (j:=43) (by decide)]; rfl,hgy,setCell_one hb _,tS⟩)
     · have d1 : decide ((j : Int) < (l.length : Int)) = false := by simp; omega
       have HMF := hQQ I.more
       clear I II hK1
       go_wp2_with fail
       refine (lives11_ok bt _ (HSZ.out.more HMF.out)).mono ?_
       rintro e w8 ⟨rfl,h8⟩
       have HM8 := hQQ (HMF.out.trans h8)
       clear h8
       go_wp2_with fail
       go_ret
       exact ⟨rfl,HM8.out⟩
end Go.Proofs.YtflihdcliknggaaGreatDoor
namespace Go.Proofs.YtflihdcliknggaaGreatDoor
open Go.ChangeShapes Go.WideShapes Go.ChangeAt Go.RowKit Go.Deep
section
variable {H : Type} {enc : TypeId × Value → H} {P : Program} {w : World} {base : Nat} {spare : Nat → Bool} {held : Bool}
theorem open_int_struct {r : Reach} {b0 : Nat} {t T : TypeId} {fs : Array Field} {v : Value} {d : DataW H} {p : List MemPlace} (hs : P.underlying t = some (.struct fs)) (hone : oneCellFields P fs = true) (hC : P.cellsOf t = fs.size)
   (hT : (fs.all fun f => f.type == T) = true) (u : P.underlying T = some (.int .i64)) (hv : Value.okWide P w r b0 t v) (h : DataW.Trod enc P w base spare held t v d p) :
   ∃ xs : List Int,xs.length = fs.size ∧ v = .agg (xs.map (Value.int .i64)).toArray ∧ ∀ x ∈ xs,(Lit.int .i64 x).wf = true := by
 obtain ⟨cs,rfl,hsz⟩ := okWide_struct hs hv
 obtain ⟨fuel,hf⟩ := h
 obtain ⟨ys,n,_,_,_,hlen,hg⟩ := DataW.trod_struct hs hf
 have key : ∀ j,j < cs.toList.length → ∃ x : Int,cs.toList[j]? = some (.int .i64 x) ∧ (Lit.int .i64 x).wf = true := by
   intro j hj
   have hj' : j < fs.size := by simp at hj; omega
   have hfj : fs[j]? = some fs[j] := by simp [hj']
   obtain ⟨ho,hk⟩ := hone_of hone j _ hfj
   have ht : fs[j].type = T := by
     have := Array.all_eq_true.1 hT j hj'
     simpa using this
   have h1 := hg j _ hfj
   rw [ho,hk] at h1
   have hys : ys[j]? = some (ys[j]'(by omega)) := List.getElem?_eq_getElem (by omega)
   rw [hys] at h1
   obtain ⟨x,e,_,wx⟩ := DataW.trod_int (by rw [ht]; exact u) h1
   refine ⟨x,?_,wx⟩
   have e' : (cs.toList.drop j).take 1 = [.int .i64 x] := by simpa [Value.cells] using e
   rw [List.drop_eq_getElem_cons hj] at e'
   simp at e'
   rw [List.getElem?_eq_getElem hj]
   simp [e']
 have hall : ∀ l : List Value,(∀ j,j < l.length → ∃ x : Int,l[j]? = some (.int .i64 x) ∧ (Lit.int .i64 x).wf = true) → ∃ xs : List Int,xs.length = l.length ∧ l = xs.map (Value.int .i64) ∧ ∀ x ∈ xs,(Lit.int .i64 x).wf = true := by
   intro l
   induction l with
   | nil => intro _; exact ⟨[],rfl,rfl,by simp⟩
   | cons a l ih =>
     intro hl
     obtain ⟨x,hx,wx⟩ := hl 0 (by simp)
     obtain ⟨xs,h1,h2,h3⟩ := ih (fun j hj => by have := hl (j + 1) (by simp; omega); simpa using this)
     simp at hx
     exact ⟨x :: xs,by simp [h1],by simp [hx,← h2],by intro z hz; rcases List.mem_cons.1 hz with q | q; (rw [q]; exact wx); exact h3 z q⟩
 obtain ⟨xs,h1,h2,h3⟩ := hall cs.toList key
 refine ⟨xs,by simp at h1; omega,?_,h3⟩
 rw [← h2]
end
theorem list11 {l : List Int} (h : l.length = 11) : ∃ x0 x1 x2 x3 x4 x5 x6 x7 x8 x9 x10,l = [x0,x1,x2,x3,x4,x5,x6,x7,x8,x9,x10] := by
 match l,h with
 | [x0,x1,x2,x3,x4,x5,x6,x7,x8,x9,x10],_ => exact ⟨x0,x1,x2,x3,x4,x5,x6,x7,x8,x9,x10,rfl⟩
end Go.Proofs.YtflihdcliknggaaGreatDoor
