/-
  What is counted, covered and ensured by pages, and by chunks, is the same.
-/
import Derived.Test.YtflihdcliknggaaGreatDoorPpAh
import Derived.Test.YtflihdcliknggaaGreatDoorPpAf
import Derived.Test.YtflihdcliknggaaGreatDoorPpAe
import Derived.ScopeJumps
import Derived.WalkMore
set_option maxRecDepth 100000
set_option maxHeartbeats 8000000
set_option linter.unusedVariables false
set_option linter.unusedSimpArgs false
set_option linter.unusedSectionVars false
namespace Go.Proofs.YtflihdcliknggaaGreatDoor
def pagesC (pg st : Int) (ws : List Int) : Nat → Int
 | 0 => 0
 | p + 1 => pagesC pg st ws p + if mappedV pg st ws ((p : Int) / 4) then 1 else 0
theorem pagesC_in (pg st : Int) (ws : List Int) (k j : Nat) (hj : j ≤ 4) : pagesC pg st ws (4 * k + j) = pagesC pg st ws (4 * k) + if mappedV pg st ws (k : Int) then (j : Int) else 0 := by
 induction j with
 | zero => simp
 | succ j ih =>
   have hq : (((4 * k + j : Nat) : Int)) / 4 = (k : Int) := by omega
   show pagesC pg st ws (4 * k + j) + (if mappedV pg st ws (((4 * k + j : Nat) : Int) / 4) then 1 else 0) = _
   rw [ih (by omega),hq]
   split <;> omega
theorem countV_pages (pg st : Int) (ws : List Int) (hp : 1 ≤ pg) (m : Nat) : ∀ (k : Nat) (s : Int),((k + m : Nat) : Int) = chunksV pg → s = pagesC pg st ws (min (4 * k) pg.toNat) → countV pg st m (k : Int) s ws = pagesC pg st ws pg.toNat := by
 induction m with
 | zero =>
   intro k s hk hs
   unfold chunksV at hk
   rw [show min (4 * k) pg.toNat = pg.toNat by omega] at hs
   exact hs
 | succ m ih =>
   intro k s hk hs
   have hc : isChunk pg (k : Int) = true := isChunk_iff.2 ⟨by omega,by omega⟩
   have hlt : 4 * (k : Int) < pg := by unfold chunksV at hk; omega
   show countV pg st m ((k : Int) + 1) _ ws = _
   have := ih (k + 1) (s + if mappedV pg st ws (k : Int) then sizeV pg (k : Int) else 0) (by omega) ?_
   · rw [show (((k + 1 : Nat)) : Int) = (k : Int) + 1 by omega] at this
     exact this
   · rw [hs,show min (4 * k) pg.toNat = 4 * k by omega]
     have hz : sizeV pg (k : Int) = ((min 4 (pg.toNat - 4 * k) : Nat) : Int) := by unfold sizeV; rw [if_pos hc]; omega
     rw [show min (4 * (k + 1)) pg.toNat = 4 * k + min 4 (pg.toNat - 4 * k) by omega,pagesC_in pg st ws k _ (by omega),hz]
theorem count_pages (pg st : Int) (ws : List Int) (hp : 1 ≤ pg) : pagesC pg st ws pg.toNat = countW pg st ws := by
 have h : 0 ≤ chunksV pg := by unfold chunksV; omega
 have := countV_pages pg st ws hp (chunksV pg).toNat 0 0 (by omega) (by simp [pagesC])
 unfold countW
 exact this.symm
theorem pagesC_b (pg st : Int) (ws : List Int) (p : Nat) : 0 ≤ pagesC pg st ws p ∧ pagesC pg st ws p ≤ p := by
 induction p with
 | zero => simp [pagesC]
 | succ p ih => unfold pagesC; split <;> omega
structure Ones (ws ws' : List Int) (S : Int → Prop) : Prop where
 len : ws'.length = ws.length
 eq : ∀ i : Int,0 ≤ i → (S i → wAt ws' i = 1) ∧ (¬ S i → wAt ws' i = wAt ws i)
theorem Ones.uniq {ws a b : List Int} {S T : Int → Prop} (h : Ones ws a S) (g : Ones ws b T) (e : ∀ i,S i ↔ T i) : a = b :=
 words_ext (h.len.trans g.len.symm) (fun i h0 _ => by
   by_cases q : S i
   · rw [(h.eq i h0).1 q,(g.eq i h0).1 ((e i).1 q)]
   · rw [(h.eq i h0).2 q,(g.eq i h0).2 (fun r => q ((e i).2 r))])
theorem ones_refl (ws : List Int) (S : Int → Prop) (h : ∀ i,¬ S i) : Ones ws ws S := ⟨rfl,fun i _ => ⟨fun q => absurd q (h i),fun _ => rfl⟩⟩
theorem ones_turn {pg st : Int} {n : Nat} (H : TblIn pg st n) {ws a : List Int} {S : Int → Prop} (h : Ones ws a S) (hn : ws.length = n) {k : Int} (hk : isChunk pg k = true) : Ones ws (turnV pg st k 1 a).2 (fun i => S i ∨ i = tblV pg st k) := by
 obtain ⟨t0,t1,t2⟩ := tbl_b H hk
 have hv : ∀ i : Int,0 ≤ i → wAt (turnV pg st k 1 a).2 i = if i = tblV pg st k then 1 else wAt a i := fun i h0 => by
   unfold turnV
   rw [if_pos hk]
   split
   · rename_i q
     have : wAt a (tblV pg st k) = 1 := by
       unfold mappedV at q; rw [hk] at q; simpa using q
     split
     · rename_i e; rw [e]; exact this
     · rfl
   · rw [show (sizeV pg k,a.set (tblV pg st k).toNat 1).2 = a.set (tblV pg st k).toNat 1 from rfl,wAt_set (by omega) h0 (by rw [h.len,hn]; exact t1)]
 refine ⟨by rw [turn_len]; exact h.len,fun i h0 => ⟨fun q => ?_,fun q => ?_⟩⟩
 · rw [hv i h0]
   split
   · rfl
   · rename_i e; exact (h.eq i h0).1 (q.resolve_right e)
 · rw [hv i h0,if_neg (fun e => q (.inr e))]
   exact (h.eq i h0).2 (fun r => q (.inl r))
theorem ones_ensure {pg st : Int} {n : Nat} (H : TblIn pg st n) (m : Nat) : ∀ (k s : Int) (ws a : List Int) (S : Int → Prop),ws.length = n → Ones ws a S → (∀ i : Nat,i < m → isChunk pg (k + i) = true) → Ones ws (ensureV pg st m k s a).2 (fun i => S i ∨ ∃ j : Nat,j < m ∧ i = tblV pg st (k + j)) := by
 induction m with
 | zero =>
   intro k s ws a S hn h hc
   exact ⟨h.len,fun i h0 => ⟨fun q => by rcases q with q | ⟨j,hj,_⟩; exact (h.eq i h0).1 q; omega,fun q => (h.eq i h0).2 (fun r => q (.inl r))⟩⟩
 | succ m ih =>
   intro k s ws a S hn h hc
   have h1 := ones_turn H h hn (by simpa using hc 0 (by omega))
   have h2 := ih (k + 1) (s + (turnV pg st k 1 a).1) ws _ _ hn h1 (fun i hi => by have := hc (i + 1) (by omega); rwa [show k + ((i + 1 : Nat) : Int) = k + 1 + (i : Int) by omega] at this)
   refine ⟨h2.len,fun i h0 => ?_⟩
   have e : (S i ∨ ∃ j : Nat,j < m + 1 ∧ i = tblV pg st (k + j)) ↔ ((S i ∨ i = tblV pg st k) ∨ ∃ j : Nat,j < m ∧ i = tblV pg st (k + 1 + j)) := by
     constructor
     · rintro (q | ⟨j,hj,q⟩)
       · exact .inl (.inl q)
       · cases j with
         | zero => exact .inl (.inr (by simpa using q))
         | succ j => exact .inr ⟨j,by omega,by rw [q]; congr 1; omega⟩
     · rintro ((q | q) | ⟨j,hj,q⟩)
       · exact .inl q
       · exact .inr ⟨0,by omega,by simpa using q⟩
       · exact .inr ⟨j + 1,by omega,by rw [q]; congr 1; omega⟩
   exact ⟨fun q => (h2.eq i h0).1 (e.1 q),fun q => (h2.eq i h0).2 (fun r => q (e.2 r))⟩
theorem ones_pages {pg st x y : Int} {n : Nat} (H : TblIn pg st n) {ws a : List Int} (hn : ws.length = n) (h : thereB pg x y = true) (ha : Ones ws a (fun i => ∃ q : Int,x ≤ q ∧ q < x + y ∧ i = tblV pg st (q / 4))) : a = (ensureW pg st x y ws).2 := by
 obtain ⟨s1,s2⟩ := span_b h H.pg2
 obtain ⟨q0,q1,q2⟩ := there_iff.1 h
 have h2 := ones_ensure H (spanV x y) (x / 4) 0 ws ws (fun _ => False) hn (ones_refl ws _ (fun _ q => q)) (fun i hi => span_in h i hi)
 unfold ensureW
 rw [if_pos h]
 refine ha.uniq h2 (fun i => ⟨?_,?_⟩)
 · rintro ⟨q,h0,h1,rfl⟩
   exact .inr ⟨(q / 4 - x / 4).toNat,by omega,by congr 1; omega⟩
 · rintro (q | ⟨j,hj,rfl⟩)
   · exact q.elim
   · exact ⟨max x (4 * (x / 4 + (j : Int))),by omega,by omega,by congr 1; omega⟩
theorem mapped_set {pg st : Int} {n : Nat} (H : TblIn pg st n) {ws : List Int} (hn : ws.length = n) {k j : Int} (x : Int) (hk : isChunk pg k = true) (hj : isChunk pg j = true) : mappedV pg st (ws.set (tblV pg st k).toNat x) j = if j = k then decide (x = 1) else mappedV pg st ws j := by
 obtain ⟨t0,t1,t2⟩ := tbl_b H hk
 obtain ⟨u0,u1,u2⟩ := tbl_b H hj
 unfold mappedV
 rw [hj,wAt_set (by omega) (by omega) (by rw [hn]; exact t1)]
 by_cases e : j = k
 · subst e; simp
 · have : tblV pg st j ≠ tblV pg st k := by rw [tbl_in hj,tbl_in hk]; omega
   rw [if_neg this,if_neg e]
theorem countV_set {pg st : Int} {n : Nat} (H : TblIn pg st n) {ws : List Int} (hn : ws.length = n) {k : Int} (x : Int) (hk : isChunk pg k = true) (m : Nat) : ∀ (j : Nat) (s d : Int),((j + m : Nat) : Int) ≤ chunksV pg →
   countV pg st m (j : Int) (s + d) (ws.set (tblV pg st k).toNat x) = countV pg st m (j : Int) s ws + d + (if (j : Int) ≤ k ∧ k < (j : Int) + (m : Int) then ((if decide (x = 1) then sizeV pg k else 0) - (if mappedV pg st ws k then sizeV pg k else 0)) else 0) := by
 induction m with
 | zero => intro j s d hj; rw [if_neg (by omega)]; simp [countV]
 | succ m ih =>
   intro j s d hj
   have hc : isChunk pg (j : Int) = true := isChunk_iff.2 ⟨by omega,by omega⟩
   show countV pg st m ((j : Int) + 1) (s + d + (if mappedV pg st (ws.set (tblV pg st k).toNat x) (j : Int) then sizeV pg (j : Int) else 0)) (ws.set (tblV pg st k).toNat x) = countV pg st m ((j : Int) + 1) (s + (if mappedV pg st ws (j : Int) then sizeV pg (j : Int) else 0)) ws + d + (if (j : Int) ≤ k ∧ k < (j : Int) + ((m + 1 : Nat) : Int) then ((if decide (x = 1) then sizeV pg k else 0) - (if mappedV pg st ws k then sizeV pg k else 0)) else 0)
   rw [mapped_set H hn x hk hc]
   have hI := fun s d => ih (j + 1) s d (by omega)
   rw [show (((j + 1 : Nat)) : Int) = (j : Int) + 1 by omega] at hI
   by_cases e : (j : Int) = k
   · have hneg : ¬ ((j : Int) + 1 ≤ k ∧ k < (j : Int) + 1 + (m : Int)) := by omega
     have hpos : (j : Int) ≤ k ∧ k < (j : Int) + ((m + 1 : Nat) : Int) := by omega
     rw [if_pos e,if_pos hpos]
     rw [show s + d + (if decide (x = 1) = true then sizeV pg (j : Int) else 0) = (s + if mappedV pg st ws (j : Int) = true then sizeV pg (j : Int) else 0) + (d + (if decide (x = 1) = true then sizeV pg (j : Int) else 0) - (if mappedV pg st ws (j : Int) = true then sizeV pg (j : Int) else 0)) by omega,hI]
     rw [if_neg hneg,← e]
     omega
   · rw [if_neg e]
     rw [show s + d + (if mappedV pg st ws (j : Int) = true then sizeV pg (j : Int) else 0) = (s + if mappedV pg st ws (j : Int) = true then sizeV pg (j : Int) else 0) + d by omega,hI]
     by_cases q : (j : Int) + 1 ≤ k ∧ k < (j : Int) + 1 + (m : Int)
     · have hpos : (j : Int) ≤ k ∧ k < (j : Int) + ((m + 1 : Nat) : Int) := by omega
       rw [if_pos q,if_pos hpos]
     · have hneg : ¬ ((j : Int) ≤ k ∧ k < (j : Int) + ((m + 1 : Nat) : Int)) := by omega
       rw [if_neg q,if_neg hneg]
theorem count_set {pg st : Int} {n : Nat} (H : TblIn pg st n) {ws : List Int} (hn : ws.length = n) {k : Int} (x : Int) (hk : isChunk pg k = true) :
   countW pg st (ws.set (tblV pg st k).toNat x) = countW pg st ws + ((if decide (x = 1) then sizeV pg k else 0) - (if mappedV pg st ws k then sizeV pg k else 0)) := by
 obtain ⟨h0,h1⟩ := isChunk_iff.1 hk
 have hpos : ((0 : Nat) : Int) ≤ k ∧ k < ((0 : Nat) : Int) + ((chunksV pg).toNat : Int) := by omega
 have := countV_set H hn x hk (chunksV pg).toNat 0 0 0 (by omega)
 rw [if_pos hpos] at this
 unfold countW
 simpa using this
theorem count_on {pg st : Int} {n : Nat} (H : TblIn pg st n) {ws : List Int} (hn : ws.length = n) (k : Int) : countW pg st (turnV pg st k 1 ws).2 = countW pg st ws + (turnV pg st k 1 ws).1 := by
 unfold turnV
 split
 · rename_i hk
   split
   · simp
   · rename_i q
     show countW pg st (ws.set (tblV pg st k).toNat 1) = countW pg st ws + sizeV pg k
     rw [count_set H hn 1 hk]
     have : mappedV pg st ws k = false := by simpa using q
     rw [this]; simp
 · simp
theorem count_ensureN {pg st : Int} {n : Nat} (H : TblIn pg st n) (m : Nat) : ∀ (k s : Int) (ws : List Int),ws.length = n → countW pg st (ensureV pg st m k s ws).2 = countW pg st ws + ((ensureV pg st m k s ws).1 - s) := by
 induction m with
 | zero => intro k s ws hn; simp [ensureV]
 | succ m ih =>
   intro k s ws hn
   unfold ensureV
   rw [ih _ _ _ (by rw [turn_len]; exact hn),count_on H hn]
   omega
theorem count_ensure {pg st : Int} {n : Nat} (H : TblIn pg st n) (x y : Int) (ws : List Int) (hn : ws.length = n) : countW pg st (ensureW pg st x y ws).2 = countW pg st ws + (ensureW pg st x y ws).1 := by
 unfold ensureW
 split
 · rw [count_ensureN H _ _ _ _ hn]; omega
 · simp
theorem count_b {pg st : Int} (ws : List Int) (h1 : 1 ≤ pg) (h2 : pg ≤ 256) : 0 ≤ countW pg st ws ∧ countW pg st ws ≤ 256 := by
 rw [← count_pages pg st ws h1]
 have := pagesC_b pg st ws pg.toNat
 omega
end Go.Proofs.YtflihdcliknggaaGreatDoor
namespace Go.Proofs.YtflihdcliknggaaGreatDoor
open Go.RowKit Go.Sort Go.Maps Go.Shelf
theorem rows2 (w : World) (x1 x2 y1 y2 : Array Value) (t1 t2 : TypeId) : ∃ W,(((w.alloc (.cells x1 t1)).alloc (.cells x2 t2)).setRow w.heap.size y1).setRow (w.heap.size + 1) y2 = W ∧
   ((w.alloc (.cells x1 t1)).alloc (.cells x2 t2)).heap[w.heap.size]? = some (.cells x1 t1 (0,0)) ∧ (((w.alloc (.cells x1 t1)).alloc (.cells x2 t2)).setRow w.heap.size y1).heap[w.heap.size + 1]? = some (.cells x2 t2 (0,0)) ∧
   W.heap[w.heap.size]? = some (.cells y1 t1 (0,0)) ∧ More w W ∧ w.heap.size + 2 ≤ W.heap.size := by
 have h0 := row_new w x1 t1
 have s0 : (w.alloc (.cells x1 t1)).heap.size = w.heap.size + 1 := by simp
 have m0 : More w (w.alloc (.cells x1 t1)) := (More.refl _).alloc _
 generalize w.alloc (.cells x1 t1) = w1 at h0 s0 m0 ⊢
 have h1 := row_new w1 x2 t2
 rw [s0] at h1
 have s1 : (w1.alloc (.cells x2 t2)).heap.size = w.heap.size + 2 := by simp [s0]
 have m1 : More w1 (w1.alloc (.cells x2 t2)) := (More.refl _).alloc _
 generalize w1.alloc (.cells x2 t2) = w2 at h1 s1 m1 ⊢
 have a0 := m1.block h0
 refine ⟨_,rfl,a0,(setRow_other _ _ _ _ (by omega)).trans h1,(setRow_other _ _ _ _ (by omega)).trans (setRow_heap _ _ _ _ _ _ a0),((m0.trans m1).setRow _ _ (by omega)).setRow _ _ (by omega),?_⟩
 simp [s1]
theorem zeros_row (w : World) (g k : Nat) (h : w.heap[g]? = some (.cells (rowOf (zeros k)) 3 (0,0))) : IsWords w (some ⟨g,0,none⟩) (zeros k) :=
 .inr ⟨g,0,rfl,lt_of_heap h,fun i hi => by
   rw [Nat.zero_add,cell_of_row w g i _ _ _ h]
   rw [zeros_len] at hi
   simp [rowOf,zeros,hi]⟩
theorem run_make_zeros (k : Nat) (hk : k ≤ 1000000) (w : World) :
   (Instr.makeSlice 31 (.int .i64 (k : Int)) (.int .i64 (k : Int))).run Tryz.prog w = .ok (.slice (some ⟨w.heap.size,0,none⟩) k k) (w.alloc (.cells (rowOf (zeros k)) 3)) := by
 obtain ⟨i,hi,hz,hs,hb⟩ := int_info
 have := run_make (P:=Tryz.prog) w 31 3 i (.int .i64 0) Tryz.underlying31 hi hz .i64 .i64 k k (by omega) (by omega) (by rw [hb]; omega) (by omega)
 rw [this]
 simp only [Int.toNat_natCast,hs,Nat.mul_one]
 have e : madeCells (Value.int .i64 0).cells k = rowOf (zeros k) := by
   apply Array.ext
   · simp [size_madeCells,rowOf,zeros]
   · intro j h1 h2
     simp [madeCells,rowOf,zeros,Value.cells,Nat.mod_one]
 rw [e]
end Go.Proofs.YtflihdcliknggaaGreatDoor
namespace Go.Proofs.YtflihdcliknggaaGreatDoor
def TrC (c : Cfg) (g1 : Nat) (W : World) : Prop := W.heap[g1]? = some (.cells c.arr 28 (0,0))
structure TrY (c : Cfg) (g1 g2 : Nat) (w : World) : Prop where
 h1 : w.heap[g1]? = some (.cells c.arr 28 (0,0))
 h2 : ∃ b,BoxB g2 w b
def isPage (pg p : Int) : Bool := decide (0 ≤ p) && decide (p < pg)
theorem isPage_iff {pg p : Int} : isPage pg p = true ↔ 0 ≤ p ∧ p < pg := by simp [isPage]
theorem isPage_not {pg p : Int} : isPage pg p = false ↔ ¬ (0 ≤ p ∧ p < pg) := by
 cases h : isPage pg p with
 | true => simp [isPage_iff.1 h]
 | false => simp only [true_iff]; intro q; rw [isPage_iff.2 q] at h; cases h
def kA (pg st p : Int) : Int := tableV st + chunksV pg + p
def cA (pg st p : Int) : Int := tableV st + chunksV pg + pg + p
def bA (pg st p : Int) : Int := tableV st + chunksV pg + 2 * pg + p
theorem page0 {pg st p : Int} (h : isPage pg p = true) : pageV pg st 0 p = kA pg st p := by unfold pageV kA; rw [if_pos (isPage_iff.1 h)]; omega
theorem page1 {pg st p : Int} (h : isPage pg p = true) : pageV pg st 1 p = cA pg st p := by unfold pageV cA; rw [if_pos (isPage_iff.1 h)]; omega
theorem page2 {pg st p : Int} (h : isPage pg p = true) : pageV pg st 2 p = bA pg st p := by unfold pageV bA; rw [if_pos (isPage_iff.1 h)]
theorem pageN {pg st i p : Int} (h : isPage pg p = false) : pageV pg st i p = 0 := by unfold pageV; rw [if_neg (isPage_not.1 h)]
def ekindP (pg st p : Int) : Prg Int := if isPage pg p then readP (kA pg st p) else pureP (-1)
def eputP (pg st p k x : Int) : Prg Unit := bindP (writeP (kA pg st p) k) fun _ => bindP (writeP (cA pg st p) x) fun _ => writeP (bA pg st p) 0
def evacN (pg st : Int) : Nat → Int → Prg Bool
 | 0,_ => pureP true
 | m + 1,q => bindP (ekindP pg st q) (fun k => if k = 0 then evacN pg st m (q + 1) else pureP false)
def evacP (pg st p n : Int) : Prg Bool := if thereB pg p n then evacN pg st n.toNat p else pureP false
def eputN (pg st k : Int) : Nat → Int → Prg Unit
 | 0,_ => pureP ()
 | m + 1,q => bindP (eputP pg st q k 0) fun _ => eputN pg st k m (q + 1)
def clsB (k : Int) : Bool := decide (1 ≤ k) && decide (k ≤ 5)
theorem cls_iff {k : Int} : clsB k = true ↔ 1 ≤ k ∧ k ≤ 5 := by simp [clsB]
def fitB (k n : Int) : Bool := decide (k = 6) || (clsB k && decide (n = 1))
theorem fit_iff {k n : Int} : fitB k n = true ↔ k = 6 ∨ (1 ≤ k ∧ k ≤ 5 ∧ n = 1) := by simp [fitB,clsB,and_assoc]
def etakeP (pg st p n k : Int) : Prg Bool := if fitB k n then bindP (evacP pg st p n) (fun b => if b then bindP (ensureP pg st p n) (fun _ => bindP (eputP pg st p k (if k = 6 then n else 0)) (fun _ => bindP (eputN pg st 7 (n - 1).toNat (p + 1)) (fun _ => pureP true))) else pureP false) else pureP false
def elenP (pg st p : Int) : Prg Int := bindP (ekindP pg st p) (fun k => if clsB k then pureP 1 else if k = 6 then bindP (readP (cA pg st p)) (fun x => pureP (max 1 (min x (pg - p)))) else pureP 0)
def edropP (pg st p : Int) : Prg Int := bindP (elenP pg st p) (fun n => bindP (eputN pg st 0 n.toNat p) (fun _ => pureP n))
def efreeP (pg st q : Int) : Prg Bool := bindP (ekindP pg st q) (fun k => pureP (decide (k = 0)))
def eopenP (pg st q : Int) : Prg Bool := bindP (mappedP pg st (ofV q)) (fun b => if b then efreeP pg st q else pureP false)
def escanN (f : Int → Prg Bool) : Nat → Int → Prg (Option Int)
 | 0,_ => pureP none
 | m + 1,q => bindP (f q) (fun b => if b then escanN f m (q + 1) else pureP (some q))
def eseekN (f : Int → Prg Bool) (pg n step : Int) : Nat → Int → Prg Int
 | 0,_ => pureP (-1)
 | m + 1,p => if p ≤ pg - n then bindP (escanN f n.toNat p) (fun r => match r with | none => pureP p | some q => eseekN f pg n step m ((q / step + 1) * step)) else pureP (-1)
def eleastP (f : Int → Prg Bool) (pg n step : Int) : Prg Int := eseekN f pg n step (pg.toNat + 1) 0
def efindP (pg st n step : Int) : Prg Int := if 1 ≤ n ∧ 1 ≤ step then bindP (eleastP (eopenP pg st) pg n step) (fun p => if p = -1 then eleastP (efreeP pg st) pg n step else pureP p) else pureP (-1)
theorem sound_kind (pg st p : Int) : Sound (ekindP pg st p) := sound_ite (sound_read _) (sound_pure _)
theorem sound_put (pg st p k x : Int) : Sound (eputP pg st p k x) := sound_bind (sound_write _ _) (fun _ => sound_bind (sound_write _ _) (fun _ => sound_write _ _))
theorem sound_vacN (pg st : Int) (m : Nat) : ∀ q,Sound (evacN pg st m q) := by
 induction m with
 | zero => intro q; exact sound_pure _
 | succ m ih => intro q; exact sound_bind (sound_kind _ _ _) (fun _ => sound_ite (ih _) (sound_pure _))
theorem sound_vac (pg st p n : Int) : Sound (evacP pg st p n) := sound_ite (sound_vacN _ _ _ _) (sound_pure _)
theorem sound_putN (pg st k : Int) (m : Nat) : ∀ q,Sound (eputN pg st k m q) := by
 induction m with
 | zero => intro q; exact sound_pure _
 | succ m ih => intro q; exact sound_bind (sound_put _ _ _ _ _) (fun _ => ih _)
theorem sound_take (pg st p n k : Int) : Sound (etakeP pg st p n k) :=
 sound_ite (sound_bind (sound_vac _ _ _ _) (fun _ => sound_ite (sound_bind (sound_ensure _ _ _ _) (fun _ => sound_bind (sound_put _ _ _ _ _) (fun _ => sound_bind (sound_putN _ _ _ _ _) (fun _ => sound_pure _)))) (sound_pure _))) (sound_pure _)
theorem sound_len (pg st p : Int) : Sound (elenP pg st p) := sound_bind (sound_kind _ _ _) (fun _ => sound_ite (sound_pure _) (sound_ite (sound_bind (sound_read _) (fun _ => sound_pure _)) (sound_pure _)))
theorem sound_drop (pg st p : Int) : Sound (edropP pg st p) := sound_bind (sound_len _ _ _) (fun _ => sound_bind (sound_putN _ _ _ _ _) (fun _ => sound_pure _))
theorem sound_free (pg st q : Int) : Sound (efreeP pg st q) := sound_bind (sound_kind _ _ _) (fun _ => sound_pure _)
theorem sound_open (pg st q : Int) : Sound (eopenP pg st q) := sound_bind (sound_mapped _ _ _) (fun _ => sound_ite (sound_free _ _ _) (sound_pure _))
theorem sound_scanN {f : Int → Prg Bool} (hf : ∀ q,Sound (f q)) (m : Nat) : ∀ q,Sound (escanN f m q) := by
 induction m with
 | zero => intro q; exact sound_pure _
 | succ m ih => intro q; exact sound_bind (hf q) (fun _ => sound_ite (ih _) (sound_pure _))
theorem sound_seekN {f : Int → Prg Bool} (hf : ∀ q,Sound (f q)) (pg n step : Int) (m : Nat) : ∀ p,Sound (eseekN f pg n step m p) := by
 induction m with
 | zero => intro q; exact sound_pure _
 | succ m ih =>
   intro q
   refine sound_ite (sound_bind (sound_scanN hf _ _) (fun r => ?_)) (sound_pure _)
   cases r with
   | none => exact sound_pure _
   | some q => exact ih _
theorem sound_find (pg st n step : Int) : Sound (efindP pg st n step) := sound_ite (sound_bind (sound_seekN (sound_open pg st) _ _ _ _ _) (fun _ => sound_ite (sound_seekN (sound_free pg st) _ _ _ _ _) (sound_pure _))) (sound_pure _)
structure PgIn (pg st : Int) (n : Nat) : Prop extends TblIn pg st n where
 top5 : tableV st + chunksV pg + 5 * pg ≤ n
theorem good_ite {α : Type} {n : Nat} {Q : α → Prop} {c : Prop} [Decidable c] {p q : Prg α} (h1 : c → Good n Q p) (h2 : ¬ c → Good n Q q) : Good n Q (if c then p else q) := by
 split
 · rename_i h; exact h1 h
 · rename_i h; exact h2 h
section
variable {pg st : Int} {n : Nat} (H : PgIn pg st n)
include H
theorem page_b {p : Int} (h : isPage pg p = true) : (4 ≤ kA pg st p ∧ kA pg st p < n ∧ W64 (kA pg st p)) ∧ (4 ≤ cA pg st p ∧ cA pg st p < n ∧ W64 (cA pg st p)) ∧ (4 ≤ bA pg st p ∧ bA pg st p < n ∧ W64 (bA pg st p)) := by
 have h0 := isPage_iff.1 h
 have h1 := H.st1; have h2 := H.st2; have h3 := H.top5; have h4 := H.pg1; have h5 := H.pg2
 unfold kA cA bA W64
 unfold chunksV tableV at *
 omega
theorem good_kind (p : Int) : Good n W64 (ekindP pg st p) :=
 good_ite (fun h => good_read n (page_b H h).1.2.1) (fun _ => good_pure n (by unfold W64; omega))
theorem good_put {p : Int} (h : isPage pg p = true) {k x : Int} (hk : W64 k) (hx : W64 x) : Good n (fun _ => True) (eputP pg st p k x) := by
 obtain ⟨⟨_,a1,a2⟩,⟨_,b1,b2⟩,_,c1,c2⟩ := page_b H h
 exact good_bind (good_write n a2 a1 hk) (fun _ _ => good_bind (good_write n b2 b1 hx) (fun _ _ => good_write n c2 c1 (by unfold W64; omega)))
theorem good_vacN (m : Nat) : ∀ q,Good n (fun _ => True) (evacN pg st m q) := by
 induction m with
 | zero => intro q; exact good_pure n trivial
 | succ m ih => intro q; exact good_bind (good_kind H q) (fun k _ => good_ite (fun _ => ih _) (fun _ => good_pure n trivial))
theorem good_putN {k : Int} (hk : W64 k) (m : Nat) : ∀ q,(∀ i : Nat,i < m → isPage pg (q + i) = true) → Good n (fun _ => True) (eputN pg st k m q) := by
 induction m with
 | zero => intro q _; exact good_pure n trivial
 | succ m ih =>
   intro q h
   exact good_bind (good_put H (by simpa using h 0 (by omega)) hk (by unfold W64; omega)) (fun _ _ => ih _ (fun i hi => by have := h (i + 1) (by omega); rwa [show q + ((i + 1 : Nat) : Int) = q + 1 + (i : Int) by omega] at this))
theorem good_ensure2 (x y : Int) : Good n (fun _ => True) (ensureP pg st x y) := good_ensure H.toTblIn x y
theorem good_take (p m k : Int) (hk : W64 k) (hm : W64 m) : Good n (fun _ => True) (etakeP pg st p m k) := by
 unfold etakeP evacP
 refine good_ite (fun hf => ?_) (fun _ => good_pure n trivial)
 cases h : thereB pg p m with
 | false => exact good_bind (good_pure n (Q:=fun b : Bool => b = false) rfl) (fun b hb => by subst hb; exact good_pure n trivial)
 | true =>
   obtain ⟨q0,q1,q2⟩ := there_iff.1 h
   have hx : W64 (if k = 6 then m else 0) := by
     split
     · exact hm
     · unfold W64; omega
   exact good_bind (good_vacN H _ _) (fun b _ => good_ite (fun _ => good_bind (good_ensure2 H _ _) (fun _ _ => good_bind (good_put H (isPage_iff.2 ⟨by omega,by omega⟩) hk hx) (fun _ _ => good_bind (good_putN H (by unfold W64; omega) _ _ (fun i hi => isPage_iff.2 ⟨by omega,by omega⟩)) (fun _ _ => good_pure n trivial)))) (fun _ => good_pure n trivial))
theorem good_len (p : Int) : Good n (fun x : Int => x = 0 ∨ isPage pg p = true ∧ 1 ≤ x ∧ x ≤ pg - p) (elenP pg st p) := by
 unfold elenP ekindP
 cases h : isPage pg p with
 | false => exact good_bind (good_pure n (Q:=fun k : Int => k = -1) rfl) (fun k hk => by subst hk; exact good_pure n (.inl rfl))
 | true =>
   have := isPage_iff.1 h
   exact good_bind (good_read n (page_b H h).1.2.1) (fun k _ => good_ite (fun _ => good_pure n (.inr ⟨rfl,by omega,by omega⟩)) (fun _ => good_ite (fun _ => good_bind (good_read n (page_b H h).2.1.2.1) (fun x _ => good_pure n (.inr ⟨rfl,by omega,by omega⟩))) (fun _ => good_pure n (.inl rfl))))
theorem good_drop (p : Int) : Good n (fun x : Int => 0 ≤ x ∧ x ≤ 256) (edropP pg st p) := by
 have h5 := H.pg2
 exact good_bind (good_len H p) (fun x hx => by
   have hb : ∀ i : Nat,i < x.toNat → isPage pg (p + i) = true := fun i hi => by
     rcases hx with rfl | ⟨h,h1,h2⟩
     · simp at hi
     · have := isPage_iff.1 h; exact isPage_iff.2 ⟨by omega,by omega⟩
   exact good_bind (good_putN H (by unfold W64; omega) _ _ hb) (fun _ _ => good_pure n (by
     rcases hx with rfl | ⟨h,h1,h2⟩
     · omega
     · have := isPage_iff.1 h; omega)))
theorem good_free (q : Int) : Good n (fun _ => True) (efreeP pg st q) := good_bind (good_kind H q) (fun _ _ => good_pure n trivial)
theorem good_open (q : Int) : Good n (fun _ => True) (eopenP pg st q) := good_bind (good_mapped H.toTblIn _) (fun b _ => good_ite (fun _ => good_free H q) (fun _ => good_pure n trivial))
theorem good_scanN {f : Int → Prg Bool} (hf : ∀ q,Good n (fun _ => True) (f q)) (m : Nat) : ∀ q : Int,Good n (fun r : Option Int => ∀ x,r = some x → q ≤ x ∧ x < q + m) (escanN f m q) := by
 induction m with
 | zero => intro q; exact good_pure n (fun x h => by cases h)
 | succ m ih => intro q; exact good_bind (hf q) (fun b _ => good_ite (fun _ => good_imp (ih _) (fun r hr x hx => by have := hr x hx; omega)) (fun _ => good_pure n (fun x hx => by cases hx; omega)))
theorem good_seekN {f : Int → Prg Bool} (hf : ∀ q,Good n (fun _ => True) (f q)) (m step : Int) (hm : 1 ≤ m) (hs : 1 ≤ step) (j : Nat) : ∀ p : Int,0 ≤ p → Good n (fun x : Int => -1 ≤ x ∧ x < pg) (eseekN f pg m step j p) := by
 have h4 := H.pg1
 induction j with
 | zero => intro p _; exact good_pure n (by omega)
 | succ j ih =>
   intro p hp
   refine good_ite (fun h => good_bind (good_scanN H hf _ _) (fun r hr => ?_)) (fun _ => good_pure n (by omega))
   cases r with
   | none => exact good_pure n (by omega)
   | some q =>
     have := hr q rfl
     refine ih _ (Int.mul_nonneg ?_ (by omega))
     have := Int.ediv_nonneg (a:=q) (b:=step) (by omega) (by omega)
     omega
theorem good_find (m step : Int) : Good n (fun x : Int => -1 ≤ x ∧ x < pg) (efindP pg st m step) := by
 have h4 := H.pg1
 exact good_ite (fun h => good_bind (good_seekN H (good_open H) m step h.1 h.2 _ 0 (by omega)) (fun p hp => good_ite (fun _ => good_seekN H (good_free H) m step h.1 h.2 _ 0 (by omega)) (fun _ => good_pure n hp))) (fun _ => good_pure n (by omega))
end
theorem flat_ite {α : Type} {n : Nat} {c : Prop} [Decidable c] {p q : Prg α} {g h : List Int → α × List Int} (hp : c → Flat n p g) (hq : ¬ c → Flat n q h) : Flat n (if c then p else q) (fun ws => if c then g ws else h ws) := by
 by_cases e : c
 · simp only [if_pos e]; exact hp e
 · simp only [if_neg e]; exact hq e
theorem flat_bindQ {α β : Type} {n : Nat} {p : Prg α} {f : α → Prg β} {g : List Int → α × List Int} {k : α → List Int → β × List Int} {Q : α → Prop} (h : Flat n p g) (hq : ∀ ws,ws.length = n → Q (g ws).1) (hf : ∀ x,Q x → Flat n (f x) (k x)) : Flat n (bindP p f) (fun ws => k (g ws).1 (g ws).2) := fun zs D hn hz hD => by
 obtain ⟨D1,e1,a1,i1⟩ := h zs D hn hz hD
 obtain ⟨D2,e2,a2,i2⟩ := hf (g (applyD zs D)).1 (hq _ (by rw [applyD_len]; exact hn)) zs D1 hn hz i1
 refine ⟨D2,?_,?_,i2⟩
 · rw [bindP_ok e1,e2,a1]
 · rw [a2,a1]
def nA (pg st p : Int) : Int := tableV st + chunksV pg + 3 * pg + p
def vA (pg st p : Int) : Int := tableV st + chunksV pg + 4 * pg + p
theorem page3 {pg st p : Int} (h : isPage pg p = true) : pageV pg st 3 p = nA pg st p := by unfold pageV nA; rw [if_pos (isPage_iff.1 h)]
theorem page4 {pg st p : Int} (h : isPage pg p = true) : pageV pg st 4 p = vA pg st p := by unfold pageV vA; rw [if_pos (isPage_iff.1 h)]
def plWord (pg x : Int) : Int := if isPage pg (IntKind.i64.wrap (x - 1)) then IntKind.i64.wrap (x - 1) else -1
def plLeadP (pg a : Int) : Prg Int := if a = 0 then pureP (-1) else bindP (readP a) (fun x => pureP (plWord pg x))
def plThrN (pg st p : Int) : Nat → Int → List Int → Prg (List Int × Bool)
 | 0,_,l => pureP (l,false)
 | m + 1,a,l => bindP (plLeadP pg a) (fun q => if q = p then pureP (l,true) else if q = -1 then pureP (l,false) else plThrN pg st p m (nA pg st q) (l ++ [q]))
def plThrP (pg st p c f : Int) : Prg (List Int × Bool) := plThrN pg st p pg.toNat (headV pg st c f) []
def plJoinP (pg st h p q : Int) : Prg Unit := bindP (if p = -1 then writeP h (q + 1) else writeP (nA pg st p) (q + 1)) (fun _ => if q = -1 then pureP () else writeP (vA pg st q) (p + 1))
def plLinkP (pg st p c f : Int) : Prg Bool := if headV pg st c f = 0 then pureP false else if isPage pg p then bindP (plLeadP pg (headV pg st c f)) (fun q => bindP (plJoinP pg st (headV pg st c f) p q) fun _ => bindP (plJoinP pg st (headV pg st c f) (-1) p) fun _ => pureP true) else pureP false
def lastO (l : List Int) : Int := l.getD (l.length - 1) (-1)
def plUnlinkP (pg st p c f : Int) : Prg Bool := if isPage pg p then bindP (plThrP pg st p c f) (fun r => if r.2 then bindP (plLeadP pg (nA pg st p)) (fun q => bindP (plJoinP pg st (headV pg st c f) (lastO r.1) q) fun _ => bindP (writeP (nA pg st p) 0) fun _ => bindP (writeP (vA pg st p) 0) fun _ => pureP true) else pureP false) else pureP false
def plFirstN (pg st c : Int) : Nat → Int → Prg Int
 | 0,_ => pureP (-1)
 | m + 1,f => bindP (plLeadP pg (headV pg st c f)) (fun q => if q = -1 then plFirstN pg st c m (f + 1) else pureP q)
theorem sound_plLead (pg a : Int) : Sound (plLeadP pg a) := sound_ite (sound_pure _) (sound_bind (sound_read _) (fun _ => sound_pure _))
theorem sound_plThrN (pg st p : Int) (m : Nat) : ∀ a l,Sound (plThrN pg st p m a l) := by
 induction m with
 | zero => intro a l; exact sound_pure _
 | succ m ih => intro a l; exact sound_bind (sound_plLead _ _) (fun _ => sound_ite (sound_pure _) (sound_ite (sound_pure _) (ih _ _)))
theorem sound_plThr (pg st p c f : Int) : Sound (plThrP pg st p c f) := sound_plThrN _ _ _ _ _ _
theorem sound_plJoin (pg st h p q : Int) : Sound (plJoinP pg st h p q) := sound_bind (sound_ite (sound_write _ _) (sound_write _ _)) (fun _ => sound_ite (sound_pure _) (sound_write _ _))
theorem sound_plLink (pg st p c f : Int) : Sound (plLinkP pg st p c f) := sound_ite (sound_pure _) (sound_ite (sound_bind (sound_plLead _ _) (fun _ => sound_bind (sound_plJoin _ _ _ _ _) (fun _ => sound_bind (sound_plJoin _ _ _ _ _) (fun _ => sound_pure _)))) (sound_pure _))
theorem sound_plUnlink (pg st p c f : Int) : Sound (plUnlinkP pg st p c f) := sound_ite (sound_bind (sound_plThr _ _ _ _ _) (fun _ => sound_ite (sound_bind (sound_plLead _ _) (fun _ => sound_bind (sound_plJoin _ _ _ _ _) (fun _ => sound_bind (sound_write _ _) (fun _ => sound_bind (sound_write _ _) (fun _ => sound_pure _))))) (sound_pure _))) (sound_pure _)
theorem sound_plFirstN (pg st c : Int) (m : Nat) : ∀ f,Sound (plFirstN pg st c m f) := by
 induction m with
 | zero => intro f; exact sound_pure _
 | succ m ih => intro f; exact sound_bind (sound_plLead _ _) (fun _ => sound_ite (ih _) (sound_pure _))
structure HdIn (pg st : Int) (n : Nat) : Prop extends PgIn pg st n where
 top62 : tableV st + chunksV pg + 5 * pg + 62 ≤ n
theorem head_b {pg st c f : Int} {n : Nat} (H : HdIn pg st n) : 0 ≤ headV pg st c f ∧ headV pg st c f < n ∧ W64 (headV pg st c f) := by
 have h1 := H.st1; have h2 := H.st2; have h3 := H.top62; have h4 := H.pg1; have h5 := H.pg2
 have hc : 0 ≤ chunksV pg ∧ chunksV pg ≤ 64 := by unfold chunksV; omega
 have ht : 0 ≤ tableV st := by unfold tableV; omega
 unfold headV
 split
 · rename_i h
   obtain ⟨c0,c4,f1,fs⟩ := h
   have : c = 0 ∨ c = 1 ∨ c = 2 ∨ c = 3 ∨ c = 4 := by omega
   unfold headsV W64 tableV at *
   rcases this with rfl | rfl | rfl | rfl | rfl <;> simp [slotsV,aheadV] at fs ⊢ <;> omega
 · unfold W64; omega
section
variable {pg st : Int} {n : Nat} (H : HdIn pg st n)
include H
theorem nv_b {p : Int} (h : isPage pg p = true) : (4 ≤ nA pg st p ∧ nA pg st p < n ∧ W64 (nA pg st p)) ∧ (4 ≤ vA pg st p ∧ vA pg st p < n ∧ W64 (vA pg st p)) := by
 have h0 := isPage_iff.1 h
 have h1 := H.st1; have h2 := H.st2; have h3 := H.top62; have h4 := H.pg1; have h5 := H.pg2
 unfold nA vA W64
 unfold chunksV tableV at *
 omega
theorem plWord_b (x : Int) : plWord pg x = -1 ∨ isPage pg (plWord pg x) = true := by
 unfold plWord
 split
 · rename_i h; exact .inr h
 · exact .inl rfl
theorem good_plLead {a : Int} (ha : a < n) : Good n (fun q : Int => q = -1 ∨ isPage pg q = true) (plLeadP pg a) :=
 good_ite (fun _ => good_pure n (.inl rfl)) (fun _ => good_bind (good_read n ha) (fun x _ => good_pure n (plWord_b H x)))
theorem good_plThrN {p : Int} (m : Nat) : ∀ (a : Int) (l : List Int),a < n → (∀ x ∈ l,isPage pg x = true) → Good n (fun r : List Int × Bool => (∀ x ∈ r.1,isPage pg x = true) ∧ r.1.length ≤ l.length + m) (plThrN pg st p m a l) := by
 induction m with
 | zero => intro a l _ hl; exact good_pure n ⟨hl,by simp⟩
 | succ m ih =>
   intro a l ha hl
   exact good_bind (good_plLead H ha) (fun q hq => good_ite (fun _ => good_pure n ⟨hl,by simp⟩) (fun _ => good_ite (fun _ => good_pure n ⟨hl,by simp⟩) (fun hne => by
     have hp : isPage pg q = true := hq.resolve_left hne
     exact good_imp (ih _ _ (nv_b H hp).1.2.1 (fun x hx => by
       rcases List.mem_append.1 hx with h | h
       · exact hl x h
       · rw [List.mem_singleton.1 h]; exact hp)) (fun r hr => ⟨hr.1,by have := hr.2; simp at this; omega⟩))))
theorem good_plThr (p c f : Int) : Good n (fun r : List Int × Bool => (∀ x ∈ r.1,isPage pg x = true) ∧ r.1.length ≤ 256) (plThrP pg st p c f) := good_imp (good_plThrN H _ _ _ (head_b H).2.1 (fun x hx => by cases hx)) (fun r hr => ⟨hr.1,by have h1 := hr.2; have h2 := H.pg2; simp only [List.length_nil] at h1; omega⟩)
theorem pageW {q : Int} (hq : q = -1 ∨ isPage pg q = true) : W64 (q + 1) := by
 have h5 := H.pg2
 rcases hq with rfl | h
 · unfold W64; omega
 · have := isPage_iff.1 h; unfold W64; omega
theorem good_plJoin {h p q : Int} (h1 : W64 h) (h2 : h < n) (hp : p = -1 ∨ isPage pg p = true) (hq : q = -1 ∨ isPage pg q = true) : Good n (fun _ => True) (plJoinP pg st h p q) :=
 good_bind (Q:=fun _ => True) (good_ite (fun _ => good_write n h1 h2 (pageW H hq)) (fun hne => good_write n (nv_b H (hp.resolve_left hne)).1.2.2 (nv_b H (hp.resolve_left hne)).1.2.1 (pageW H hq)))
   (fun _ _ => good_ite (fun _ => good_pure n trivial) (fun hne => good_write n (nv_b H (hq.resolve_left hne)).2.2.2 (nv_b H (hq.resolve_left hne)).2.2.1 (pageW H hp)))
theorem good_plLink (p c f : Int) : Good n (fun _ => True) (plLinkP pg st p c f) :=
 good_ite (fun _ => good_pure n trivial) (fun _ => good_ite (fun hp => good_bind (good_plLead H (head_b H).2.1) (fun q hq => good_bind (good_plJoin H (head_b H).2.2 (head_b H).2.1 (.inr hp) hq) (fun _ _ => good_bind (good_plJoin H (head_b H).2.2 (head_b H).2.1 (.inl rfl) (.inr hp)) (fun _ _ => good_pure n trivial)))) (fun _ => good_pure n trivial))
theorem lastO_b {l : List Int} (hl : ∀ x ∈ l,isPage pg x = true) : lastO l = -1 ∨ isPage pg (lastO l) = true := by
 unfold lastO
 rcases Nat.eq_zero_or_pos l.length with h | h
 · refine .inl ?_
   rw [List.length_eq_zero_iff.1 h]; rfl
 · refine .inr (hl _ ?_)
   rw [List.getD_eq_getElem?_getD,List.getElem?_eq_getElem (by omega)]
   exact List.getElem_mem _
theorem good_plUnlink (p c f : Int) : Good n (fun _ => True) (plUnlinkP pg st p c f) :=
 good_ite (fun hp => good_bind (good_plThr H _ _ _) (fun r hr => good_ite (fun _ => good_bind (good_plLead H (nv_b H hp).1.2.1) (fun q hq => good_bind (good_plJoin H (head_b H).2.2 (head_b H).2.1 (lastO_b H hr.1) hq) (fun _ _ => good_bind (good_write n (nv_b H hp).1.2.2 (nv_b H hp).1.2.1 (by unfold W64; omega)) (fun _ _ => good_bind (good_write n (nv_b H hp).2.2.2 (nv_b H hp).2.2.1 (by unfold W64; omega)) (fun _ _ => good_pure n trivial))))) (fun _ => good_pure n trivial))) (fun _ => good_pure n trivial)
theorem good_plFirstN (c : Int) (m : Nat) : ∀ f,Good n (fun q : Int => q = -1 ∨ isPage pg q = true) (plFirstN pg st c m f) := by
 induction m with
 | zero => intro f; exact good_pure n (.inl rfl)
 | succ m ih => intro f; exact good_bind (good_plLead H (head_b H).2.1) (fun q hq => good_ite (fun _ => ih _) (fun _ => good_pure n hq))
end
end Go.Proofs.YtflihdcliknggaaGreatDoor
namespace Go.Proofs.YtflihdcliknggaaGreatDoor
open Go.RowKit Go.Sort Go.Maps Go.Shelf
theorem y_next {c : Cfg} (R : c.Ok) (w : World) (k : Int) : Calls Tryz.prog 142 #[.agg c.arr,.int .i64 k] w (Gives w (.int .i64 (pageV c.pg c.st 3 k))) := xnext R w k
theorem y_prev {c : Cfg} (R : c.Ok) (w : World) (k : Int) : Calls Tryz.prog 143 #[.agg c.arr,.int .i64 k] w (Gives w (.int .i64 (pageV c.pg c.st 4 k))) := xprev R w k
theorem y_head {c : Cfg} (R : c.Ok) (w : World) (k f : Int) : Calls Tryz.prog 94 #[.agg c.arr,.int .i64 k,.int .i64 f] w (Gives w (.int .i64 (headV c.pg c.st k f))) := xhead R w k f
theorem pl_there {c : Cfg} (R : c.Ok) {n : Nat} (H : HdIn c.pg c.st n) (q : Int) (w : World) : Calls Tryz.prog 126 #[.agg c.arr,.int .i64 q] w (Gives w (.bool (isPage c.pg q))) := by
 have hz : (pageV c.pg c.st 3 q != 0) = isPage c.pg q := by
   cases h : isPage c.pg q with
   | true => rw [page3 h]; have := (nv_b H h).1.1; simp; omega
   | false => rw [pageN h]; rfl
 obtain ⟨w1,e1,hl1,m1,s1⟩ := entry1 w (.cells c.arr 28)
 have L0 := hQQ hl1
 have MM := hQQ m1
 have HR := hQQ R
 clear hl1 m1 R H
 go_enter Tryz.func126,Tryz.ntmps126
 go_wp2_with (refine wpList_load_rowG rfl 28 _ rfl _ rfl 28 _ _ _ L0.out Tryz.underlying28 rfl (by kernel_rfl) ?_)
 refine (y_next HR.out _ q).mono ?_
 rintro e w2 ⟨rfl,h2⟩
 have H2 := hQQ (MM.out.trans h2)
 clear h2
 go_wp2_with fail
 go_ret
 first
 | exact ⟨rfl,H2.out⟩
 | exact ⟨by rw [← hz],H2.out⟩
theorem pl_leads {c : Cfg} (R : c.Ok) {n : Nat} (H : HdIn c.pg c.st n) (F : Nat → Prop) (p : Nat) (kn : Int → Option Int) (D : List KV) (a : Int) (ha : W64 a) (hn : a < n) (w : World) (hv : ViewAt w F p kn D) (hk : OkK kn) (hD : InvD n D) :
   Calls Tryz.prog 93 #[.pointer (some ⟨p,0,none⟩),.agg c.arr,.int .i64 a] w (WentV w F p kn (fun x => .int .i64 x) (plLeadP c.pg a kn D)) := by
 obtain ⟨Rr,hRr⟩ : ∃ Rr,plLeadP c.pg a kn D = Rr := ⟨_,rfl⟩
 rw [hRr]
 obtain ⟨w1,e1,hl1,m1,s1⟩ := entry1 w (.cells c.arr 28)
 have nFl : ¬ F w.heap.size := fun q => by have := hv.lt _ q; omega
 have MM := hQQ m1
 have L0 := hQQ hl1
 have M0 : Hid (MidV w1 w1 F (fun _ => False) p kn n D F) := hQQ (MidV.begin (hv.more m1) hD)
 have KL : Hid (∀ wr D' F',MidV w1 wr F (fun _ => False) p kn n D' F' → wr.heap[w.heap.size]? = some (.cells c.arr 28 (0,0))) := hQQ fun wr D' F' h => mid_own h L0.out nFl (fun q => q)
 have NEED : Hid (∀ a w2,Rr = .need a → DeadAt w2 p a → Turned (fun b => F b ∨ False) w1 w2 → WentV w F p kn (fun x : Int => Value.int .i64 x) Rr (.panicked (endOf p)) w2) := hQQ fun a w2 e hd ht => mid_need MM.out (fun _ q => q.elim) e hd ht
 have DONE : Hid (∀ x w2 D' F',Rr = .ok x D' → MidV w1 w2 F (fun _ => False) p kn n D' F' → WentV w F p kn (fun x : Int => Value.int .i64 x) Rr (.returned ((fun x : Int => Value.int .i64 x) x)) w2) := hQQ fun x w2 D' F' e h => mid_done MM.out (fun _ q => q.elim) h e
 have HK := hQQ hk
 have HR := hQQ R
 have HH := hQQ H
 clear hl1 m1 hv hD hk R H nFl
 unfold plLeadP at hRr
 by_cases a0 : a = 0
 · rw [if_pos a0] at hRr
   have d0 : (a == 0) = true := by simp [a0]
   have FIN := hQQ (DONE.out (-1) w1 D F hRr.symm M0.out)
   clear hRr a0
   go_enter Tryz.func93,Tryz.ntmps93
   go_wp2_with fail
   go_ret
   exact FIN.out
 · rw [if_neg a0] at hRr
   have d0 : (a == 0) = false := by simp [a0]
   have HRr := hQQ hRr
   clear hRr a0
   go_enter Tryz.func93,Tryz.ntmps93
   go_wp2_with fail
   refine (read_any F p kn D a w1 M0.out.view ha).mono ?_
   intro e w2 he
   rcases M0.out.step (More.refl _) HK.out (good_read n hn) he with ⟨a',hE,rfl,hd',ht',_⟩ | ⟨x2,D2,F2,hE,rfl,M2,hq2,_,_⟩
   · exact ⟨rfl,NEED.out a' w2 (HRr.out.symm.trans (bindP_need hE)) hd' ht'⟩
   have L2 := hQQ (KL.out _ _ _ M2)
   have R2 := hQQ ((bindP_ok hE).symm.trans HRr.out)
   have M2 := hQQ M2
   clear he hE
   have HV := hQQ (show Rr = .ok (plWord c.pg x2) D2 from R2.out.symm)
   clear R2
   unfold plWord at HV
   obtain ⟨y,qy⟩ : ∃ y,IntKind.i64.wrap (x2 - 1) = y := ⟨_,rfl⟩
   rw [qy] at HV
   go_wp2_with (refine wpList_load_rowG rfl 28 _ rfl _ rfl 28 _ _ _ L2.out Tryz.underlying28 rfl (by kernel_rfl) ?_)
   clear qy
   refine (pl_there HR.out HH.out y _).mono ?_
   rintro e w3 ⟨rfl,h3⟩
   have M3 := hQQ (M2.out.more h3)
   clear h3
   cases hb : isPage c.pg y with
   | true =>
     have FIN := hQQ (DONE.out y w3 D2 F2 (by have := HV.out; rw [if_pos hb] at this; exact this) M3.out)
     clear HV hb
     go_wp2_with fail
     go_ret
     exact FIN.out
   | false =>
     have FIN := hQQ (DONE.out (-1) w3 D2 F2 (by have := HV.out; rw [if_neg (by rw [hb]; simp)] at this; exact this) M3.out)
     clear HV hb
     go_wp2_with fail
     go_ret
     exact FIN.out
theorem pl_join {c : Cfg} (R : c.Ok) {n : Nat} (H : HdIn c.pg c.st n) (hn : n ≤ 10000) (F : Nat → Prop) (p : Nat) (kn : Int → Option Int) (D : List KV) (h x y : Int) (h1 : W64 h) (h2 : h < n) (hx : x = -1 ∨ isPage c.pg x = true) (hy : y = -1 ∨ isPage c.pg y = true) (w : World) (hv : ViewAt w F p kn D) (hk : OkK kn) (hD : InvD n D) :
   Calls Tryz.prog 141 #[.pointer (some ⟨p,0,none⟩),.agg c.arr,.int .i64 h,.int .i64 x,.int .i64 y] w (WentV w F p kn (fun _ : Unit => .tuple #[]) (plJoinP c.pg c.st h x y kn D)) := by
 obtain ⟨Rr,hRr⟩ : ∃ Rr,plJoinP c.pg c.st h x y kn D = Rr := ⟨_,rfl⟩
 rw [hRr]
 obtain ⟨w1,e1,hl1,m1,s1⟩ := entry1 w (.cells c.arr 28)
 have nFl : ¬ F w.heap.size := fun q => by have := hv.lt _ q; omega
 have MM := hQQ m1
 have L0 := hQQ hl1
 have M0 : Hid (MidV w1 w1 F (fun _ => False) p kn n D F) := hQQ (MidV.begin (hv.more m1) hD)
 have KL : Hid (∀ wr D' F',MidV w1 wr F (fun _ => False) p kn n D' F' → wr.heap[w.heap.size]? = some (.cells c.arr 28 (0,0))) := hQQ fun wr D' F' h => mid_own h L0.out nFl (fun q => q)
 have NEED : Hid (∀ a w2,Rr = .need a → DeadAt w2 p a → Turned (fun b => F b ∨ False) w1 w2 → WentV w F p kn (fun _ : Unit => Value.tuple #[]) Rr (.panicked (endOf p)) w2) := hQQ fun a w2 e hd ht => mid_need MM.out (fun _ q => q.elim) e hd ht
 have DONE : Hid (∀ x w2 D' F',Rr = .ok x D' → MidV w1 w2 F (fun _ => False) p kn n D' F' → WentV w F p kn (fun _ : Unit => Value.tuple #[]) Rr (.returned ((fun _ : Unit => Value.tuple #[]) x)) w2) := hQQ fun x w2 D' F' e h => mid_done MM.out (fun _ q => q.elim) h e
 have HK := hQQ hk
 have HR := hQQ R
 have HH := hQQ H
 clear hl1 m1 hv hD hk R H nFl
 unfold plJoinP at hRr
 have pg2 := HR.out.pg2
 have hxw := pageW HH.out hx
 have hyw := pageW HH.out hy
 have qx : IntKind.i64.wrap (x + 1) = x + 1 := wrap_in hxw.1 hxw.2
 have qy : IntKind.i64.wrap (y + 1) = y + 1 := wrap_in hyw.1 hyw.2
 have GX := hQQ hxw
 have GY := hQQ hyw
 have PX := hQQ hx
 have PY := hQQ hy
 have PH := hQQ (And.intro h1 h2)
 clear hxw hyw hx hy h1 h2
 by_cases ex : x = -1
 · have d0 : (x == -1) = true := by simp [ex]
   rw [if_pos ex] at hRr
   have HRr := hQQ hRr
   clear hRr ex
   go_enter Tryz.func141,Tryz.ntmps141
   go_wp2_with fail
   refine (write_any F p kn D h (y + 1) w1 M0.out.view (by have := M0.out.inv.len; omega)).mono ?_
   intro e w2 he
   rcases M0.out.step (More.refl _) HK.out (good_write n PH.out.1 PH.out.2 GY.out) he with ⟨a',hE,rfl,hd',ht',_⟩ | ⟨x2,D2,F2,hE,rfl,M2,hq2,_,_⟩
   · exact ⟨rfl,NEED.out a' w2 (HRr.out.symm.trans (bindP_need hE)) hd' ht'⟩
   have L2 := hQQ (KL.out _ _ _ M2)
   have R2 := hQQ ((bindP_ok hE).symm.trans HRr.out)
   have M2 := hQQ M2
   clear he hE
   by_cases ey : y = -1
   · have d1 : (y != -1) = false := by simp [ey]
     have FIN := hQQ (DONE.out () w2 D2 F2 (by have := R2.out; rw [if_pos ey] at this; exact this.symm) M2.out)
     clear R2 ey
     go_wp2_with fail
     go_end0
     exact FIN.out
   · have d1 : (y != -1) = true := by simp [ey]
     have hpy := PY.out.resolve_left ey
     have P4 := hQQ (page4 (st:=c.st) hpy)
     have NY := hQQ (nv_b HH.out hpy)
     have R2' := hQQ (by have := R2.out; rw [if_neg ey] at this; exact this)
     clear R2 ey hpy
     go_wp2_with (refine wpList_load_rowG rfl 28 _ rfl _ rfl 28 _ _ _ L2.out Tryz.underlying28 rfl (by kernel_rfl) ?_)
     refine (y_prev HR.out _ y).mono ?_
     rw [P4.out]
     rintro e w3 ⟨rfl,h3⟩
     have M3 := hQQ (M2.out.more h3)
     clear h3
     go_wp2_with fail
     refine (write_any F2 p kn D2 _ (x + 1) w3 M3.out.view (by have := M3.out.inv.len; omega)).mono ?_
     intro e w4 he
     rcases M3.out.step (More.refl _) HK.out (good_write n NY.out.2.2.2 NY.out.2.2.1 GX.out) he with ⟨a',hE,rfl,hd',ht',_⟩ | ⟨x4,D4,F4,hE,rfl,M4,hq4,_,_⟩
     · exact ⟨rfl,NEED.out a' w4 (R2'.out.symm.trans hE) hd' ht'⟩
     have FIN := hQQ (DONE.out () w4 D4 F4 (R2'.out.symm.trans hE) M4)
     clear he hE M4
     go_wp2_with fail
     go_end0
     exact FIN.out
 · have d0 : (x == -1) = false := by simp [ex]
   rw [if_neg ex] at hRr
   have hpx := PX.out.resolve_left ex
   have HRr := hQQ hRr
   have P3 := hQQ (page3 (st:=c.st) hpx)
   have NB := hQQ (nv_b HH.out hpx)
   clear hRr ex hpx
   go_enter Tryz.func141,Tryz.ntmps141
   go_wp2_with (refine wpList_load_rowG rfl 28 _ rfl _ rfl 28 _ _ _ L0.out Tryz.underlying28 rfl (by kernel_rfl) ?_)
   refine (y_next HR.out _ x).mono ?_
   rw [P3.out]
   rintro e w5 ⟨rfl,h5⟩
   have M5 := hQQ (M0.out.more h5)
   clear h5
   go_wp2_with fail
   refine (write_any F p kn D _ (y + 1) w5 M5.out.view (by have := M5.out.inv.len; omega)).mono ?_
   intro e w2 he
   rcases M5.out.step (More.refl _) HK.out (good_write n NB.out.1.2.2 NB.out.1.2.1 GY.out) he with ⟨a',hE,rfl,hd',ht',_⟩ | ⟨x2,D2,F2,hE,rfl,M2,hq2,_,_⟩
   · exact ⟨rfl,NEED.out a' w2 (HRr.out.symm.trans (bindP_need hE)) hd' ht'⟩
   have L2 := hQQ (KL.out _ _ _ M2)
   have R2 := hQQ ((bindP_ok hE).symm.trans HRr.out)
   have M2 := hQQ M2
   clear he hE
   by_cases ey : y = -1
   · have d1 : (y != -1) = false := by simp [ey]
     have FIN := hQQ (DONE.out () w2 D2 F2 (by have := R2.out; rw [if_pos ey] at this; exact this.symm) M2.out)
     clear R2 ey
     go_wp2_with fail
     go_end0
     exact FIN.out
   · have d1 : (y != -1) = true := by simp [ey]
     have hpy := PY.out.resolve_left ey
     have P4 := hQQ (page4 (st:=c.st) hpy)
     have NY := hQQ (nv_b HH.out hpy)
     have R2' := hQQ (by have := R2.out; rw [if_neg ey] at this; exact this)
     clear R2 ey hpy
     go_wp2_with (refine wpList_load_rowG rfl 28 _ rfl _ rfl 28 _ _ _ L2.out Tryz.underlying28 rfl (by kernel_rfl) ?_)
     refine (y_prev HR.out _ y).mono ?_
     rw [P4.out]
     rintro e w3 ⟨rfl,h3⟩
     have M3 := hQQ (M2.out.more h3)
     clear h3
     go_wp2_with fail
     refine (write_any F2 p kn D2 _ (x + 1) w3 M3.out.view (by have := M3.out.inv.len; omega)).mono ?_
     intro e w4 he
     rcases M3.out.step (More.refl _) HK.out (good_write n NY.out.2.2.2 NY.out.2.2.1 GX.out) he with ⟨a',hE,rfl,hd',ht',_⟩ | ⟨x4,D4,F4,hE,rfl,M4,hq4,_,_⟩
     · exact ⟨rfl,NEED.out a' w4 (R2'.out.symm.trans hE) hd' ht'⟩
     have FIN := hQQ (DONE.out () w4 D4 F4 (R2'.out.symm.trans hE) M4)
     clear he hE M4
     go_wp2_with fail
     go_end0
     exact FIN.out
end Go.Proofs.YtflihdcliknggaaGreatDoor
namespace Go.Proofs.YtflihdcliknggaaGreatDoor
open Go.RowKit
def WentR {α : Type} (w : World) (F : Nat → Prop) (p : Nat) (kn : Int → Option Int) (Post : α → Value → World → (Nat → Prop) → Prop) (R : Res α) (e : Ending) (w' : World) : Prop :=
 match R with
 | .need a => Ended w F p a e w'
 | .ok x D => ∃ v F',e = .returned v ∧ Post x v w' F' ∧ ViewAt w' F' p kn D ∧ Turned F w w' ∧ ∀ k,F' k → F k ∨ w.heap.size ≤ k
def OwnR (b : Nat) (F : Nat → Prop) (w : World) (v : Value) (xs : List Int) : Prop := Rw b w v xs ∧ (∀ k,v.ownBlock = some k → ¬ F k ∧ b ≤ k ∧ k < w.heap.size)
theorem OwnR.nil (b : Nat) (F : Nat → Prop) (w : World) : OwnR b F w (.slice none 0 0) [] := ⟨Rw.nil _ _,fun k q => by cases q⟩
theorem Rw.own {b : Nat} {w : World} {v : Value} {xs : List Int} (h : Rw b w v xs) {k : Nat} (q : v.ownBlock = some k) : b ≤ k ∧ k < w.heap.size := by
 rcases h.2 with ⟨rfl,_⟩ | ⟨g,cap,cur,rfl,hb,hg,_⟩
 · cases q
 · have : g = k := by simpa [Value.ownBlock] using q
   subst this
   exact ⟨hb,lt_of_heap hg⟩
theorem Rw.keepT {b : Nat} {S : Nat → Prop} {w w' : World} {v : Value} {xs : List Int} (h : Rw b w v xs) (t : Turned S w w') (hs : ∀ k,v.ownBlock = some k → ¬ S k) : Rw b w' v xs := by
 refine ⟨h.1,?_⟩
 rcases h.2 with q | ⟨g,cap,cur,rfl,hb,hg,r⟩
 · exact .inl q
 · exact .inr ⟨g,cap,cur,rfl,hb,(t.block g (lt_of_heap hg) (hs g rfl)).trans hg,r⟩
theorem OwnR.more {b : Nat} {F : Nat → Prop} {w w' : World} {v : Value} {xs : List Int} (h : OwnR b F w v xs) (m : More w w') : OwnR b F w' v xs :=
 ⟨h.1.more m,fun k q => ⟨(h.2 k q).1,(h.2 k q).2.1,Nat.lt_of_lt_of_le (h.2 k q).2.2 m.size⟩⟩
theorem OwnR.went {b : Nat} {F F' : Nat → Prop} {w w' : World} {v : Value} {xs : List Int} (h : OwnR b F w v xs) (hk : ∀ k o,¬ F k → w.heap[k]? = some o → w'.heap[k]? = some o) (hf : ∀ k,F' k → F k ∨ w.heap.size ≤ k) : OwnR b F' w' v xs := by
 obtain ⟨r,n⟩ := h
 have key : ∀ k,v.ownBlock = some k → ¬ F' k := fun k q z => by
   rcases hf k z with y | y
   · exact (n k q).1 y
   · have := (n k q).2.2; omega
 rcases r with ⟨h1,q | ⟨g,cap,cur,rfl,hb,hg,rest⟩⟩
 · exact ⟨⟨h1,.inl q⟩,fun k q' => by rw [q.1] at q'; cases q'⟩
 · have hg' := hk g _ (n g rfl).1 hg
   exact ⟨⟨h1,.inr ⟨g,cap,cur,rfl,hb,hg',rest⟩⟩,fun k q => by
     have : g = k := by simpa [Value.ownBlock] using q
     subst this
     exact ⟨key g rfl,hb,lt_of_heap hg'⟩⟩
theorem OwnR.mono {b b' : Nat} {F : Nat → Prop} {w : World} {v : Value} {xs : List Int} (h : OwnR b F w v xs) (hb : b' ≤ b) : OwnR b' F w v xs := ⟨h.1.mono hb,fun k q => ⟨(h.2 k q).1,by have := (h.2 k q).2.1; omega,(h.2 k q).2.2⟩⟩
namespace MidV
variable {W wr w1 w2 : World} {F S F' : Nat → Prop} {p n : Nat} {kn : Int → Option Int} {D : List KV}
theorem stepR {α : Type} {Post : α → Value → World → (Nat → Prop) → Prop} {Q : α → Prop} {pr : Prg α} {e : Ending} (h : MidV W wr F S p kn n D F') (m : More wr w1) (hk : OkK kn) (G : Good n Q pr) (he : WentR w1 F' p kn Post (pr kn D) e w2) :
   (∃ a,pr kn D = .need a ∧ e = .panicked (endOf p) ∧ DeadAt w2 p a ∧ Turned (fun b => F b ∨ S b) W w2 ∧ ∀ b o,¬ F' b → wr.heap[b]? = some o → w2.heap[b]? = some o) ∨
   (∃ x D1 F1 v,pr kn D = .ok x D1 ∧ e = .returned v ∧ Post x v w2 F1 ∧ MidV W w2 F S p kn n D1 F1 ∧ Q x ∧ (∀ b o,¬ F' b → wr.heap[b]? = some o → w2.heap[b]? = some o) ∧ ∀ b,F1 b → F' b ∨ wr.heap.size ≤ b) := by
 have hm := h.more m
 have hs := m.size
 have hK : ∀ t,Turned F' w1 t → ∀ b o,¬ F' b → wr.heap[b]? = some o → t.heap[b]? = some o := fun t ht b o nb hb => (ht.block b (lt_of_heap (m.block hb)) nb).trans (m.block hb)
 cases hE : pr kn D with
 | need a =>
   rw [hE] at he
   obtain ⟨h1,h2,h3⟩ := he
   exact .inl ⟨a,rfl,h1,h2,turned_own hm.turn h3 (fun k q => (h.from' k q).imp .inl id),hK _ h3⟩
 | ok x D1 =>
   rw [hE] at he
   obtain ⟨v,F1,h1,hp,hv,ht,hn⟩ := he
   obtain ⟨i1,q1⟩ := G.ok hk h.inv hE
   refine .inr ⟨x,D1,F1,v,rfl,h1,hp,⟨hv,fun k q => ?_,turned_own hm.turn ht (fun k q => (h.from' k q).imp .inl id),i1⟩,q1,hK _ ht,fun b q => (hn b q).imp id (fun r => by omega)⟩
   rcases hn k q with r | r
   · exact h.from' k r
   · have := hm.size; exact .inr (by omega)
theorem grew {v v' : Value} {b : Nat} {xs ys : List Int} (h : MidV W wr F S p kn n D F') (hr : OwnR b F' wr v xs) (hb : W.heap.size ≤ b) (t : Turned (fun k => v.ownBlock = some k) wr w1) (hr' : Rw b w1 v' ys) (hv' : ∀ k,v'.ownBlock = some k → v.ownBlock = some k ∨ k = wr.heap.size) : MidV W w1 F S p kn n D F' ∧ OwnR b F' w1 v' ys := by
 have lt := h.view.lt
 have hnc : ∀ (k : Nat) es cl,v.ownBlock = some k → wr.heap[k]? ≠ some (.map es cl) := fun k es cl q z => by
   rcases hr.1.2 with ⟨q',_⟩ | ⟨g,cap,cur,q',_,hg,_⟩
   · rw [q'] at q; cases q
   · rw [q'] at q
     have : g = k := by simpa [Value.ownBlock] using q
     subst this
     rw [hg] at z; cases z
 refine ⟨⟨h.view.keepS t (fun k q e => (hr.2 k e).1 q) (fun k es cl e q => hnc k es cl e q),h.from',turned_own h.turn t (fun k q => .inr (by have := (hr.2 k q).2.1; omega)),h.inv⟩,hr',fun k q => ?_⟩
 have hl := hr'.own q
 refine ⟨fun z => ?_,hl.1,hl.2⟩
 rcases hv' k q with r | r
 · exact (hr.2 k r).1 z
 · have := lt k z; omega
end MidV
theorem midR_need {α : Type} {w w1 w2 : World} {F S : Nat → Prop} {p : Nat} {kn : Int → Option Int} {Post : α → Value → World → (Nat → Prop) → Prop} {R : Res α} {a : Int} (m : More w w1) (hS : ∀ b,S b → w.heap.size ≤ b) (hR : R = .need a) (hd : DeadAt w2 p a) (ht : Turned (fun b => F b ∨ S b) w1 w2) : WentR w F p kn Post R (.panicked (endOf p)) w2 := by
 subst hR
 exact ⟨rfl,hd,turned_own (Turned.mono m (fun _ _ q => q.elim)) ht (fun k q => q.imp id (hS k))⟩
theorem midR_done {α : Type} {w w1 w2 : World} {F S F' : Nat → Prop} {p n : Nat} {kn : Int → Option Int} {Post : α → Value → World → (Nat → Prop) → Prop} {R : Res α} {x : α} {D : List KV} {v : Value} (m : More w w1) (hS : ∀ b,S b → w.heap.size ≤ b) (h : MidV w1 w2 F S p kn n D F') (hR : R = .ok x D) (hp : Post x v w2 F') : WentR w F p kn Post R (.returned v) w2 := by
 subst hR
 exact ⟨v,F',rfl,hp,h.view,turned_own (Turned.mono m (fun _ _ q => q.elim)) h.turn (fun k q => q.imp id (hS k)),fun k q => (h.from' k q).imp id (fun r => Nat.le_trans m.size r)⟩
end Go.Proofs.YtflihdcliknggaaGreatDoor
namespace Go.Proofs.YtflihdcliknggaaGreatDoor
open Go.RowKit Go.Sort Go.Maps Go.Shelf
def ThrPost (b : Nat) (r : List Int × Bool) (v : Value) (w : World) (F : Nat → Prop) : Prop := ∃ u,v = .tuple #[u,.bool r.2] ∧ OwnR b F w u r.1
theorem pl_through {c : Cfg} (R : c.Ok) {n : Nat} (H : HdIn c.pg c.st n) (F : Nat → Prop) (p : Nat) (kn : Int → Option Int) (D : List KV) (q cl f : Int) (w : World) (hv : ViewAt w F p kn D) (hk : OkK kn) (hD : InvD n D) :
   Calls Tryz.prog 140 #[.pointer (some ⟨p,0,none⟩),.agg c.arr,.int .i64 q,.int .i64 cl,.int .i64 f] w (WentR w F p kn (ThrPost w.heap.size) (plThrP c.pg c.st q cl f kn D)) := by
 obtain ⟨Rr,hRr⟩ : ∃ Rr,plThrP c.pg c.st q cl f kn D = Rr := ⟨_,rfl⟩
 rw [hRr]
 obtain ⟨w1,e1,hl1,m1,s1⟩ := entry1 w (.cells c.arr 28)
 have nFl : ¬ F w.heap.size := fun q => by have := hv.lt _ q; omega
 have MM := hQQ m1
 have L0 := hQQ hl1
 have M0 : Hid (MidV w1 w1 F (fun _ => False) p kn n D F) := hQQ (MidV.begin (hv.more m1) hD)
 have KL : Hid (∀ wr D' F',MidV w1 wr F (fun _ => False) p kn n D' F' → wr.heap[w.heap.size]? = some (.cells c.arr 28 (0,0))) := hQQ fun wr D' F' h => mid_own h L0.out nFl (fun q => q)
 have NEED : Hid (∀ a w2,Rr = .need a → DeadAt w2 p a → Turned (fun b => F b ∨ False) w1 w2 → WentR w F p kn (ThrPost w.heap.size) Rr (.panicked (endOf p)) w2) := hQQ fun a w2 e hd ht => midR_need MM.out (fun _ q => q.elim) e hd ht
 have DONE : Hid (∀ x v w2 D' F',Rr = .ok x D' → MidV w1 w2 F (fun _ => False) p kn n D' F' → (ThrPost w.heap.size) x v w2 F' → WentR w F p kn (ThrPost w.heap.size) Rr (.returned v) w2) := hQQ fun x v w2 D' F' e h hp => midR_done MM.out (fun _ q => q.elim) h e hp
 have HK := hQQ hk
 have HR := hQQ R
 have HH := hQQ H
 clear hl1 m1 hv hD hk R H nFl
 unfold plThrP at hRr
 have HRr := hQQ hRr
 have hfl := field_pages c
 have pg1 := HR.out.pg1
 have pg2 := HR.out.pg2
 have hw1 : w.heap.size ≤ w1.heap.size := by omega
 clear hRr
 go_enter Tryz.func140,Tryz.ntmps140
 go_wp2_with fail
 refine wp_scope_jumps 0 (fun a' w' => ∃ (v : Value) (b : Bool) (u12 u13 u14 u15 u16 u17 u18 u19 u20 u21 u22 u23 u24 u25 u26 u27 u28 u29 u30 u31 u32 u33 u34 u35 u36 u37 u38 u39 u40 u41 u42 : Value),a' = { tmps := #[.pointer (some ⟨p,0,none⟩),.agg c.arr,.int .i64 q,.int .i64 cl,.int .i64 f,undef,.pointer (some ⟨w.heap.size,0,none⟩),undef,undef,undef,v,.bool b,u12,u13,u14,u15,u16,u17,u18,u19,u20,u21,u22,u23,u24,u25,u26,u27,u28,u29,u30,u31,u32,u33,u34,u35,u36,u37,u38,u39,u40,u41,u42],defers := [] } ∧ ∃ (l : List Int) (D4 : List KV) (F4 : Nat → Prop),Rr = .ok (l,b) D4 ∧ MidV w1 w' F (fun _ => False) p kn n D4 F4 ∧ OwnR w1.heap.size F4 w' v l) (fun _ _ => 0) rfl ?_ ?_
 · go_wp2_with (refine wpList_load_rowG rfl 28 _ rfl _ rfl 28 _ _ _ L0.out Tryz.underlying28 rfl (by kernel_rfl) ?_)
   refine (y_head HR.out _ cl f).mono ?_
   rintro e w2 ⟨rfl,h2⟩
   have M2 := hQQ (M0.out.more h2)
   have L2 := hQQ (KL.out _ _ _ M2.out)
   clear h2
   go_wp2_with (refine wpList_load_rowG rfl 28 _ rfl _ rfl 28 _ _ _ L2.out Tryz.underlying28 rfl (by kernel_rfl) ?_)
   refine (y_config HR.out _).mono ?_
   rintro e w3 ⟨rfl,h3⟩
   have M3 := hQQ (M2.out.more h3)
   clear h3 M2 L2
   go_wp2_with fail
   go_loopw [10,11,12,21] (fun u10 v11 v12 v21 wr => ∃ (v10 : Value) (i : Nat) (a : Int) (l : List Int) (D' : List KV) (F' : Nat → Prop),v10 = u10 ∧ v11 = .bool false ∧ v21 = .int .i64 (i : Int) ∧ (i : Int) ≤ c.pg ∧ v12 = .int .i64 a ∧ W64 a ∧ a < n ∧ MidV w1 wr F (fun _ => False) p kn n D' F' ∧ OwnR w1.heap.size F' wr v10 l ∧ l.length = i ∧ plThrN c.pg c.st q (c.pg.toNat - i) a l kn D' = Rr) (fun _ _ _ v21 _ => c.pg.toNat - (intOf v21).toNat)
   case atStart => exact ⟨_,0,_,[],D,F,rfl,rfl,rfl,by omega,rfl,(head_b HH.out).2.2,(head_b HH.out).2.1,M3.out,OwnR.nil _ _ _,rfl,HRr.out⟩
   case round =>
     clear M3 HRr
     obtain ⟨v10,i,a,l,D',F',rfl,rfl,rfl,hi,rfl,haw,han,MI,RWI,hl,hrest⟩ := hrel
     have MI := hQQ MI
     have RWI := hQQ RWI
     have LI := hQQ (KL.out _ _ _ MI.out)
     have qi : IntKind.i64.wrap ((i : Int) + 1) = (i : Int) + 1 := wrap_in (by omega) (by omega)
     by_cases hlt : (i : Int) < c.pg
     · have d3 : decide ((i : Int) < c.pg) = true := by simp [hlt]
       rw [show c.pg.toNat - i = (c.pg.toNat - (i + 1)) + 1 by omega] at hrest
       have RI := hQQ (show bindP (plLeadP c.pg a) (fun x => if x = q then pureP (l,true) else if x = -1 then pureP (l,false) else plThrN c.pg c.st q (c.pg.toNat - (i + 1)) (nA c.pg c.st x) (l ++ [x])) kn D' = Rr from hrest)
       clear hrest
       go_wp2_with (refine wpList_load_rowG rfl 28 _ rfl _ rfl 28 _ _ _ LI.out Tryz.underlying28 rfl (by kernel_rfl) ?_)
       refine (pl_leads HR.out HH.out F' p kn D' a haw han wr MI.out.view HK.out MI.out.inv).mono ?_
       intro e w4 he
       rcases MI.out.step (More.refl _) HK.out (good_plLead HH.out han) he with ⟨a',hE,rfl,hd',ht',_⟩ | ⟨x4,D4,F4,hE,rfl,M4,hq4,hkp,hnw⟩
       · exact ⟨rfl,NEED.out a' w4 (RI.out.symm.trans (bindP_need hE)) hd' ht'⟩
       have R4 := hQQ ((bindP_ok hE).symm.trans RI.out)
       have RW4 := hQQ (RWI.out.went hkp hnw)
       have M4 := hQQ M4
       clear he hE hkp hnw
       by_cases ex : x4 = q
       · have d4 : (x4 == q) = true := by simp [ex]
         have E4 := hQQ (show Rr = .ok (l,true) D4 from by have := R4.out; rw [if_pos ex] at this; exact this.symm)
         clear R4 ex
         go_wp2_with fail
         go_step3
         refine ⟨rfl,v10,true,_,_,_,_,_,_,_,_,_,_,_,_,_,_,_,_,_,_,_,_,_,_,_,_,_,_,_,_,_,_,_,rfl,⟨l,D4,F4,E4.out,M4.out,RW4.out⟩⟩
       have d4 : (x4 == q) = false := by simp [ex]
       by_cases en : x4 = -1
       · have d5 : (x4 == -1) = true := by simp [en]
         have E4 := hQQ (show Rr = .ok (l,false) D4 from by have := R4.out; rw [if_neg ex,if_pos en] at this; exact this.symm)
         clear R4 ex en
         go_wp2_with fail
         go_step3
         refine ⟨rfl,v10,false,_,_,_,_,_,_,_,_,_,_,_,_,_,_,_,_,_,_,_,_,_,_,_,_,_,_,_,_,_,_,_,rfl,⟨l,D4,F4,E4.out,M4.out,RW4.out⟩⟩
       have d5 : (x4 == -1) = false := by simp [en]
       have hpx := hq4.resolve_left en
       have P3 := hQQ (page3 (st:=c.st) hpx)
       have NB := hQQ (nv_b HH.out hpx)
       have NX := hQQ (show plThrN c.pg c.st q (c.pg.toNat - (i + 1)) (nA c.pg c.st x4) (l ++ [x4]) kn D4 = Rr from by have := R4.out; rw [if_neg ex,if_neg en] at this; exact this)
       clear R4 ex en hq4 hpx haw han
       go_wp2_with fail
       refine wp_region_anyC (TrC c w.heap.size) (by kernel_rfl) ?_
       have MR := hQQ (M4.out.more ((More.refl w4).drewN 1))
       have RR := hQQ (RW4.out.more ((More.refl w4).drewN 1))
       change anyC _ _ _ _ _ _ _ _ (w4.drewN 1)
       generalize w4.drewN 1 = wq at MR RR ⊢
       clear M4 RW4 MI RWI LI
       generalize hA : Act.mk _ _ = A
       have HF : AG 43 A [(6,.pointer (some ⟨w.heap.size,0,none⟩)),(13,.int .i64 x4),(10,v10)] := by
         rw [← hA]
         refine ⟨⟨Nat.le_of_ble_eq_true rfl,rfl⟩,?_⟩
         intro z hz; simp only [List.mem_cons,List.not_mem_nil,or_false] at hz; rcases hz with rfl | rfl | rfl <;> rfl
       refine anyC_start (fun a W => ∃ (u28 u29 u32 u33 u30 u31 u34 v' : Value) (D9 : List KV) (F9 : Nat → Prop),a = (Act.put (Act.put (Act.put (Act.put (Act.put (Act.put (Act.put (Act.put (Act.put A (some 28) u28) (some 29) u29) (some 32) u32) (some 33) u33) (some 30) u30) (some 31) u31) (some 34) u34) (some 10) v') (some 12) (.int .i64 (nA c.pg c.st x4))) ∧ MidV w1 W F (fun _ => False) p kn n D4 F4 ∧ OwnR w1.heap.size F4 W v' (l ++ [x4])) (fun W => WentR w F p kn (ThrPost w.heap.size) Rr (.panicked (endOf p)) W) (endOf p) (fun a W hd h => ⟨hd,h⟩) (fun _ _ _ _ _ h => h) ?_ ?_
       · rintro a wa ⟨u28,u29,u32,u33,u30,u31,u34,v',_,_,rfl,MS,RS⟩
         rw [← hA]
         have MS := hQQ MS
         have RS := hQQ RS
         clear HF hA MR RR
         go_wp2_with fail
         go_roundw
         case rel => exact ⟨_,i + 1,_,l ++ [x4],D4,F4,rfl,rfl,by go_num,by omega,rfl,NB.out.1.2.2,NB.out.1.2.1,MS.out,RS.out,by simp [hl],NX.out⟩
         case measure => simp [intOf]; omega
       intro QQ FINE FIND FINQ
       clear hA
       refine anyC_takeD (i:=0) (v:=v10) (some 28) rfl rfl (by kernel_rfl) (by kernel_rfl) (by kernel_rfl) (fun c a w => FINQ c a _ _ w) (KL.out _ _ _ MR.out) (by exact yieldsC_moveG (wanted_none rfl) _ rfl (HF.get 2 rfl)) ?_
       replace HF : AG 43 A [(6,.pointer (some ⟨w.heap.size,0,none⟩)),(13,.int .i64 x4)] := HF.sub (fun z hz => by simp only [List.mem_cons,List.not_mem_nil,or_false] at hz ⊢; rcases hz with h | h; exact .inl h; exact .inr (.inl h))
       replace HF := HF.put 28 (v10) (by decide) rfl
       generalize hB1 : Act.put _ _ _ = A at HF ⊢
       refine anyC_takeD (i:=1) (v:=.int .i64 x4) (some 29) rfl rfl (by kernel_rfl) (by kernel_rfl) (by kernel_rfl) (fun c a w => FINQ c a _ _ w) (KL.out _ _ _ MR.out) (by exact yieldsC_moveG (wanted_none rfl) _ rfl (HF.get 2 rfl)) ?_
       replace HF := HF.put 29 (.int .i64 x4) (by decide) rfl
       generalize hB2 : Act.put _ _ _ = A at HF ⊢
       refine anyC_takeD (i:=4) (v:=.agg c.arr) (some 32) rfl rfl (by kernel_rfl) (by kernel_rfl) (by kernel_rfl) (fun c a w => FINQ c a _ _ w) (KL.out _ _ _ MR.out) (by exact yieldsC_row (C:=TrC c w.heap.size) (wanted_none rfl) 28 _ rfl w.heap.size (HF.get 2 rfl) 28 _ _ _ (fun W hW => hW) Tryz.underlying28 rfl (by kernel_rfl)) ?_
       replace HF := HF.put 32 (.agg c.arr) (by decide) rfl
       generalize hB3 : Act.put _ _ _ = A at HF ⊢
       refine anyC_takeD (i:=5) (v:=.int .i64 x4) (some 33) rfl rfl (by kernel_rfl) (by kernel_rfl) (by kernel_rfl) (fun c a w => FINQ c a _ _ w) (KL.out _ _ _ MR.out) (by exact yieldsC_moveG (wanted_none rfl) _ rfl (HF.get 4 rfl)) ?_
       replace HF := HF.put 33 (.int .i64 x4) (by decide) rfl
       generalize hB4 : Act.put _ _ _ = A at HF ⊢
       refine anyC_oneK (i:=2) (some 30) (by kernel_rfl) rfl (wanted_none rfl) rfl (fun K hK => ?_)
       refine wp_build1 rfl x4 (HF.get 2 rfl) ?_
       have MRb := hQQ (MR.out.more ((More.refl wq).alloc (.cells #[.int .i64 x4] 3)))
       have RRb := hQQ (RR.out.more ((More.refl wq).alloc (.cells #[.int .i64 x4] 3)))
       have BL := hQQ (heap_new wq (.cells #[.int .i64 x4] 3))
       refine hK _ _ (KL.out _ _ _ MRb.out) ?_
       clear hK K
       generalize hg : wq.heap.size = gb at BL ⊢
       generalize wq.alloc (.cells #[.int .i64 x4] 3) = wqb at MRb RRb BL ⊢
       clear hg
       replace HF := HF.put 30 (.slice (some ⟨gb,0,none⟩) 1 1) (by decide) rfl
       generalize hB5 : Act.put _ _ _ = A at HF ⊢
       refine anyC_oneK (i:=3) (some 31) (by kernel_rfl) rfl (wanted_none rfl) rfl (fun K hK => ?_)
       refine wp_push (xs:=l) x4 _ _ rfl (HF.get 4 rfl) RRb.out.1 (by have := MRb.out.size; omega) (by omega) (HF.get 0 rfl) BL.out ?_
       intro v' wqba hr' ht' hv'
       obtain ⟨mA,rA⟩ := MRb.out.grew RRb.out (Nat.le_refl _) ht' hr' hv'
       have MA := hQQ mA
       have RA := hQQ rA
       clear mA rA hr' ht' hv'
       refine hK _ _ (KL.out _ _ _ MA.out) ?_
       clear hK K
       replace HF := HF.put 31 (v') (by decide) rfl
       generalize hB6 : Act.put _ _ _ = A at HF ⊢
       refine anyC_oneK (i:=6) (some 34) (by kernel_rfl) rfl (wanted_none rfl) rfl (fun K hK => ?_)
       refine wp_call2 (v0:=.agg c.arr) (v1:=.int .i64 x4) rfl (HF.get 3 rfl) (HF.get 2 rfl) (enters_of Tryz.func142 (by kernel_rfl) rfl) ?_
       refine (y_next HR.out wqba x4).mono ?_
       rw [P3.out]
       rintro e wqban ⟨rfl,hn'⟩
       have MAn := hQQ (MA.out.more hn')
       have RAn := hQQ (RA.out.more hn')
       skip
       clear hn'
       refine hK _ _ (KL.out _ _ _ MAn.out) ?_
       clear hK K
       replace HF := HF.put 34 (.int .i64 (nA c.pg c.st x4)) (by decide) rfl
       generalize hB7 : Act.put _ _ _ = A at HF ⊢
       refine anyC_takeD (i:=7) (v:=v') (some 10) rfl rfl (by kernel_rfl) (by kernel_rfl) (by kernel_rfl) (fun c a w => FINQ c a _ _ w) (KL.out _ _ _ MAn.out) (by exact yieldsC_assign (wanted_none rfl) _ rfl (HF.get 1 rfl)) ?_
       replace HF := HF.put 10 (v') (by decide) rfl
       generalize hC1 : Act.put _ _ _ = A at HF ⊢
       refine anyC_takeD (i:=8) (v:=.int .i64 (nA c.pg c.st x4)) (some 12) rfl rfl (by kernel_rfl) (by kernel_rfl) (by kernel_rfl) (fun c a w => FINQ c a _ _ w) (KL.out _ _ _ MAn.out) (by exact yieldsC_assign (wanted_none rfl) _ rfl (HF.get 1 rfl)) ?_
       replace HF := HF.put 12 (.int .i64 (nA c.pg c.st x4)) (by decide) rfl
       generalize hC2 : Act.put _ _ _ = A at HF ⊢
       exact anyC_done (by kernel_rfl) (FINE _ _ ⟨_,_,_,_,_,_,_,v',D4,F4,by rw [← hC2,← hC1,← hB7,← hB6,← hB5,← hB4,← hB3,← hB2,← hB1],MAn.out,RAn.out⟩)
     · have hie : (i : Int) = c.pg := by omega
       have d3 : decide ((i : Int) < c.pg) = false := by simp; omega
       rw [show c.pg.toNat - i = 0 by omega] at hrest
       have FIN := hQQ (DONE.out (l,false) (.tuple #[v10,.bool false]) wr D' F' hrest.symm MI.out ⟨v10,rfl,RWI.out.mono hw1⟩)
       clear hrest
       go_wp2_with fail
       go_step3
       go_wp2_with fail
       go_ret2
       exact FIN.out
 · rintro a w' ⟨v,b,u12,u13,u14,u15,u16,u17,u18,u19,u20,u21,u22,u23,u24,u25,u26,u27,u28,u29,u30,u31,u32,u33,u34,u35,u36,u37,u38,u39,u40,u41,u42,rfl,l,D4,F4,hE,MS,RS⟩
   have FIN := hQQ (DONE.out (l,b) (.tuple #[v,.bool b]) w' D4 F4 hE MS ⟨v,rfl,RS.mono hw1⟩)
   clear hE MS RS
   go_wp2_with fail
   go_ret2
   exact FIN.out
end Go.Proofs.YtflihdcliknggaaGreatDoor
