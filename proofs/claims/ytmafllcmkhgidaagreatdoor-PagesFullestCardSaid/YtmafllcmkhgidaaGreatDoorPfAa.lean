/-
  An arena in memory, and what a call turns: the words that the walks over package arena speak with.
-/
import Derived.WalkKit
import Derived.Deep.Draws
import Derived.Deep.Quiet
import Derived.Deep.QuietTactic
import Derived.BigQuiet
import Derived.RegionTactic
import Derived.Test.YtmafllcmkhgidaaGreatDoorRows
import Derived.WalkSpells
import Derived.WalkLawsBesides
import Derived.Outline
import Derived.IntWalk
import Derived.Lib.Hide
import Derived.Laws.Rows
import Derived.Laws.Tables
import Derived.StillTail
import Derived.Orders
import Derived.Laws.ResultCell
set_option maxRecDepth 100000
set_option maxHeartbeats 8000000
set_option linter.unusedVariables false
set_option linter.unusedSimpArgs false
set_option linter.unusedSectionVars false
namespace Go.Proofs.YtmafllcmkhgidaaGreatDoor
theorem hQQ {p : Prop} (h : p) : Go.RowKit.Hid p := h
end Go.Proofs.YtmafllcmkhgidaaGreatDoor
namespace Go.Proofs.YtmafllcmkhgidaaGreatDoor
open Go.RowKit
structure Turned (S : Nat → Prop) (w w' : World) : Prop where
 os : w'.os = w.os
 tape : w'.tape = w.tape
 output : w'.output = w.output
 size : w.heap.size ≤ w'.heap.size
 block : ∀ k,k < w.heap.size → ¬ S k → w'.heap[k]? = w.heap[k]?
namespace Turned
variable {S S' : Nat → Prop} {w w' w'' : World}
theorem refl (S : Nat → Prop) (w : World) : Turned S w w := ⟨rfl,rfl,rfl,Nat.le_refl _,fun _ _ _ => rfl⟩
theorem trans (h : Turned S w w') (k : Turned S w' w'') : Turned S w w'' :=
 ⟨k.os.trans h.os,k.tape.trans h.tape,k.output.trans h.output,Nat.le_trans h.size k.size,
  fun i hi hs => (k.block i (Nat.lt_of_lt_of_le hi h.size) hs).trans (h.block i hi hs)⟩
theorem mono (h : Turned S w w') (hs : ∀ k,k < w.heap.size → S k → S' k) : Turned S' w w' :=
 ⟨h.os,h.tape,h.output,h.size,fun i hi hn => h.block i hi (fun q => hn (hs i hi q))⟩
theorem drew (h : Turned S w w') : Turned S w w'.drew := ⟨h.os,h.tape,h.output,h.size,h.block⟩
theorem drewN (h : Turned S w w') (n : Nat) : Turned S w (w'.drewN n) := ⟨h.os,h.tape,h.output,h.size,h.block⟩
theorem alloc (h : Turned S w w') (o : Obj) : Turned S w (w'.alloc o) :=
 h.trans ⟨rfl,rfl,rfl,by simp,fun k hk _ => Below.heap_alloc _ _ _ hk⟩
theorem setCell (h : Turned S w w') (p : Addr) (u : Value) (hp : p.block < w.heap.size → S p.block) : Turned S w (w'.setCell p u) :=
 ⟨h.os,h.tape,h.output,by have := h.size; simpa using this,fun k hk hs => by
   rw [Below.heap_setCell _ _ _ _ (by intro e; subst e; exact hs (hp hk))]; exact h.block k hk hs⟩
theorem below (h : Turned S w w') {B : Nat} (hB : B ≤ w.heap.size) (hs : ∀ k,S k → B ≤ k) : Below B w w' :=
 ⟨h.os,h.tape,h.output,h.size,fun k hk => h.block k (by omega) (fun q => by have := hs k q; omega)⟩
end Turned
def rowOf (ws : List Int) : Array Value := (ws.map (Value.int .i64)).toArray
structure At (T : Nat) (w : World) (a b : Nat) (ws : List Int) (c : Int) : Prop where
 head : w.heap[a]? = some (.cells #[.slice (some ⟨b,0,none⟩) ws.length ws.length,.int .i64 c] T (0,0))
 row : w.heap[b]? = some (.cells (rowOf ws) 3 (0,0))
 ne : a ≠ b
theorem lt_of_heap {w : World} {k : Nat} {o : Obj} (h : w.heap[k]? = some o) : k < w.heap.size := by
 by_cases q : k < w.heap.size
 · exact q
 · rw [Array.getElem?_eq_none (by omega)] at h; cases h
theorem lt_of_cell {w : World} {k o : Nat} {v : Value} (h : w.cell? ⟨k,o,none⟩ = some v) : k < w.heap.size := by
 by_cases q : k < w.heap.size
 · exact q
 · unfold World.cell? at h; rw [Array.getElem?_eq_none (by simpa using q)] at h; cases h
namespace At
variable {T : Nat} {w w' : World} {a b : Nat} {ws : List Int} {c : Int}
theorem la (h : At T w a b ws c) : a < w.heap.size := lt_of_heap h.head
theorem lb (h : At T w a b ws c) : b < w.heap.size := lt_of_heap h.row
theorem keep (h : At T w a b ws c) {S : Nat → Prop} (t : Turned S w w') (ha : ¬ S a) (hb : ¬ S b) : At T w' a b ws c :=
 ⟨by rw [t.block a h.la ha]; exact h.head,by rw [t.block b h.lb hb]; exact h.row,h.ne⟩
theorem c0 (h : At T w a b ws c) : w.cell? ⟨a,0,none⟩ = some (.slice (some ⟨b,0,none⟩) ws.length ws.length) := by simp [World.cell?,h.head]
theorem c1 (h : At T w a b ws c) : w.cell? ⟨a,1,none⟩ = some (.int .i64 c) := by simp [World.cell?,h.head]
theorem f0 (h : At T w a b ws c) : w.frozen? ⟨a,0,none⟩ = false := by simp [World.frozen?,h.head]
theorem f1 (h : At T w a b ws c) : w.frozen? ⟨a,1,none⟩ = false := by simp [World.frozen?,h.head]
theorem wd (h : At T w a b ws c) {i : Nat} (hi : i < ws.length) : w.cell? ⟨b,i,none⟩ = some (.int .i64 (ws.getD i 0)) := by
 simp [World.cell?,h.row,rowOf,hi,List.getD]
theorem drew (h : At T w a b ws c) : At T w.drew a b ws c := ⟨h.head,h.row,h.ne⟩
theorem drewN (h : At T w a b ws c) (n : Nat) : At T (w.drewN n) a b ws c := ⟨h.head,h.row,h.ne⟩
theorem alloc (h : At T w a b ws c) (o : Obj) : At T (w.alloc o) a b ws c := h.keep ((Turned.refl (fun _ => False) w).alloc o) (fun q => q) (fun q => q)
end At
theorem addr_add (b o j : Nat) : (⟨b,o,none⟩ : Addr).add j = ⟨b,o + j,none⟩ := by
 unfold Addr.add
 by_cases q : j = 0
 · subst q; simp
 · simp [q]
theorem heap_new (w : World) (o : Obj) : (w.alloc o).heap[w.heap.size]? = some o := by
 show (w.heap.push o)[w.heap.size]? = _
 simp
def More (w w' : World) : Prop := Turned (fun _ => False) w w'
theorem More.refl (w : World) : More w w := Turned.refl _ _
theorem More.trans {w w' w'' : World} (h : More w w') (k : More w' w'') : More w w'' := Turned.trans h k
theorem More.alloc {w w' : World} (h : More w w') (o : Obj) : More w (w'.alloc o) := Turned.alloc h o
theorem More.drew {w w' : World} (h : More w w') : More w w'.drew := Turned.drew h
theorem More.drewN {w w' : World} (h : More w w') (n : Nat) : More w (w'.drewN n) := Turned.drewN h n
theorem More.block {w w' : World} (h : More w w') {k : Nat} {o : Obj} (hk : w.heap[k]? = some o) : w'.heap[k]? = some o := by
 rw [Turned.block h k (lt_of_heap hk) (fun q => q)]; exact hk
theorem More.cell {w w' : World} (h : More w w') {k o : Nat} {v : Value} (hc : w.cell? ⟨k,o,none⟩ = some v) : w'.cell? ⟨k,o,none⟩ = some v := by
 rw [World.cell?_of_block (w:=w) (Turned.block h k (lt_of_cell hc) (fun q => q))]; exact hc
def Gives (w : World) (v : Value) (e : Ending) (w' : World) : Prop := e = .returned v ∧ More w w'
theorem wp_region_more {P : Program} {id : Nat} {Q : Exit → Act → World → Prop} {a : Act} {w : World} {l : List Oper} (hm : P.follows .mixedOrders = true) (hB : Region.lexB .any l.toArray = true)
   (h : wpQuiet P l.toArray (More w) (fun a' => ∀ w',More w w' → Q .normal a' w') l a) : (Code.region id l.toArray true).wp P Q a w :=
 wp_region_quiet (C:=More w) hm hB ((More.refl w).drewN 1) (by simpa using h)
theorem wpQuiet_do {P : Program} {ops : Array Oper} {C : World → Prop} {Q : Act → Prop} {a : Act} {o : Oper} {rest : List Oper} (v : Value) (hw : Region.wanted o (yielded ops a.tmps) = true)
   (hy : ∀ W,C W → o.quietAt P a C W v) (h : wpQuiet P ops C Q rest (a.put o.dst v)) : wpQuiet P ops C Q (o :: rest) a := by
 unfold wpQuiet; rw [if_pos hw]; exact ⟨v,hy,h⟩
theorem Calls.more {P : Program} {f : FuncId} {args : Array Value} {w W : World} {v : Value} (hW : More w W) (h : Calls P f args W (Gives W v)) : Calls P f args W fun e w'' => e = .returned v ∧ More w w'' :=
 h.mono fun _ _ ⟨he,hm⟩ => ⟨he,hW.trans hm⟩
structure CfgOk (wk cp pg st tr wt ck pr ca bi ba : Int) : Prop where
 wk1 : 1 ≤ wk
 wk2 : wk ≤ 64
 cp1 : 1 ≤ cp
 cp2 : cp ≤ 8
 pg1 : 1 ≤ pg
 pg2 : pg ≤ 256
 st1 : 1 ≤ st
 st2 : st ≤ 64
 tr1 : 0 ≤ tr
 tr2 : tr ≤ 16
 wt1 : 0 ≤ wt
 wt2 : wt ≤ 64
 ck1 : 1 ≤ ck
 ck2 : ck ≤ 1099511627776
 pr1 : 1 ≤ pr
 pr2 : pr ≤ 8
 ca1 : 0 ≤ ca
 ca2 : ca ≤ 8
 bi1 : 0 ≤ bi
 bi2 : bi ≤ 16
 ba1 : 1 ≤ ba
 ba2 : ba ≤ 8
def tableV (st : Int) : Int := 3 + st
def chunksV (pg : Int) : Int := (pg + 3) / 4
def headsV (st pg : Int) : Int := tableV st + chunksV pg + 5 * pg
def cachesV (st pg : Int) : Int := headsV st pg + 62
def binsV (cp pg st ca : Int) : Int := cachesV st pg + 5 * cp * (ca + 1)
def liveV (cp pg st ca bi : Int) : Int := binsV cp pg st ca + 5 * (bi + 1)
def userV (cp pg st ca bi : Int) : Int := (liveV cp pg st ca bi + 32 * pg + 127) / 128 * 128
def wordsV (cp pg st ca bi : Int) : Int := userV cp pg st ca bi + 32 * pg
theorem wrap_in {x : Int} (h0 : -9223372036854775808 ≤ x) (h1 : x ≤ 9223372036854775807) : IntKind.i64.wrap x = x := IntWalk.i64_in _ (by omega)
section
variable {wk cp pg st tr wt ck pr ca bi ba : Int} (R : CfgOk wk cp pg st tr wt ck pr ca bi ba)
include R
theorem tableB : 4 ≤ tableV st ∧ tableV st ≤ 67 := by have := R.st1; have := R.st2; unfold tableV; omega
theorem chunksB : 1 ≤ chunksV pg ∧ chunksV pg ≤ 64 := by have := R.pg1; have := R.pg2; unfold chunksV; omega
theorem headsB : 10 ≤ headsV st pg ∧ headsV st pg ≤ 1411 := by have := tableB R; have := chunksB R; have := R.pg1; have := R.pg2; unfold headsV; omega
theorem cachesB : 72 ≤ cachesV st pg ∧ cachesV st pg ≤ 1473 := by have := headsB R; unfold cachesV; omega
theorem prodB : 1 ≤ cp * (ca + 1) ∧ cp * (ca + 1) ≤ 72 := by
 have h1 := R.cp1; have h2 := R.cp2; have h3 := R.ca1; have h4 := R.ca2
 constructor
 · have := Int.mul_le_mul h1 (show (1 : Int) ≤ ca + 1 by omega) (by omega) (by omega)
   omega
 · have := Int.mul_le_mul h2 (show ca + 1 ≤ 9 by omega) (by omega) (by omega)
   omega
theorem prod5B : 5 ≤ 5 * cp * (ca + 1) ∧ 5 * cp * (ca + 1) ≤ 360 := by
 have := prodB R
 rw [Int.mul_assoc]; omega
theorem binsB : 77 ≤ binsV cp pg st ca ∧ binsV cp pg st ca ≤ 1833 := by have := cachesB R; have := prod5B R; unfold binsV; omega
theorem liveB : 82 ≤ liveV cp pg st ca bi ∧ liveV cp pg st ca bi ≤ 1918 := by have := binsB R; have := R.bi1; have := R.bi2; unfold liveV; omega
theorem userB : 128 ≤ userV cp pg st ca bi ∧ userV cp pg st ca bi ≤ 10240 ∧ liveV cp pg st ca bi + 32 * pg ≤ userV cp pg st ca bi := by have := liveB R; have := R.pg1; have := R.pg2; unfold userV; omega
theorem wordsB : 160 ≤ wordsV cp pg st ca bi ∧ wordsV cp pg st ca bi ≤ 18432 := by have := userB R; have := R.pg1; have := R.pg2; unfold wordsV; omega
end
def CfgAt (w : World) (k : Nat) (T : Nat) (wk cp pg st tr wt ck pr ca bi ba : Int) : Prop := w.heap[k]? = some (.cells #[.int .i64 wk,.int .i64 cp,.int .i64 pg,.int .i64 st,.int .i64 tr,.int .i64 wt,.int .i64 ck,.int .i64 pr,.int .i64 ca,.int .i64 bi,.int .i64 ba] T (0,0))
theorem cfgAt_new (w : World) (T : Nat) (wk cp pg st tr wt ck pr ca bi ba : Int) : CfgAt (w.alloc (.cells #[.int .i64 wk,.int .i64 cp,.int .i64 pg,.int .i64 st,.int .i64 tr,.int .i64 wt,.int .i64 ck,.int .i64 pr,.int .i64 ca,.int .i64 bi,.int .i64 ba] T)) w.heap.size T wk cp pg st tr wt ck pr ca bi ba := heap_new w _
theorem CfgAt.cells {w W : World} {k T : Nat} {wk cp pg st tr wt ck pr ca bi ba : Int} (h : CfgAt w k T wk cp pg st tr wt ck pr ca bi ba) (hW : More w W) :
   W.cell? ⟨k,0,none⟩ = some (.int .i64 wk) ∧ W.cell? ⟨k,1,none⟩ = some (.int .i64 cp) ∧ W.cell? ⟨k,2,none⟩ = some (.int .i64 pg) ∧ W.cell? ⟨k,3,none⟩ = some (.int .i64 st) ∧ W.cell? ⟨k,4,none⟩ = some (.int .i64 tr) ∧ W.cell? ⟨k,5,none⟩ = some (.int .i64 wt) ∧ W.cell? ⟨k,6,none⟩ = some (.int .i64 ck) ∧ W.cell? ⟨k,7,none⟩ = some (.int .i64 pr) ∧ W.cell? ⟨k,8,none⟩ = some (.int .i64 ca) ∧ W.cell? ⟨k,9,none⟩ = some (.int .i64 bi) ∧ W.cell? ⟨k,10,none⟩ = some (.int .i64 ba) := by
 have := hW.block h
 simp [World.cell?,this]
theorem mulB {a b A B : Int} (h0 : 0 ≤ a) (h1 : a ≤ A) (h2 : 0 ≤ b) (h3 : b ≤ B) : 0 ≤ a * b ∧ a * b ≤ A * B :=
 ⟨Int.mul_nonneg h0 h2,Int.mul_le_mul h1 h3 h2 (by omega)⟩
def tblV (pg st k : Int) : Int := if 0 ≤ k ∧ k < chunksV pg then tableV st + k else 0
def pageV (pg st n p : Int) : Int := if 0 ≤ p ∧ p < pg then tableV st + chunksV pg + n * pg + p else 0
def addrV (cp pg st ca bi p : Int) : Int := if 0 ≤ p ∧ p < pg then userV cp pg st ca bi + 32 * p else 0
def slotsV (c : Int) : Int := if c ≤ 0 then 32 else if c = 1 then 16 else if c = 2 then 8 else if c = 3 then 4 else if c = 4 then 2 else 1
def aheadV (c : Int) : Int := if c ≤ 0 then 0 else if c = 1 then 32 else if c = 2 then 48 else if c = 3 then 56 else 60
def headV (pg st c f : Int) : Int := if 0 ≤ c ∧ c ≤ 4 ∧ 1 ≤ f ∧ f ≤ slotsV c then headsV st pg + aheadV c + f - 1 else 0
theorem slots_lo (c : Int) (h0 : 0 ≤ c) (h4 : c ≤ 4) : 2 ≤ slotsV c ∧ slotsV c ≤ 32 := by
 have : c = 0 ∨ c = 1 ∨ c = 2 ∨ c = 3 ∨ c = 4 := by omega
 rcases this with rfl | rfl | rfl | rfl | rfl <;> decide
theorem ahead_b (c : Int) (h0 : 0 ≤ c) (h4 : c ≤ 4) : 0 ≤ aheadV c ∧ aheadV c ≤ 60 := by
 have : c = 0 ∨ c = 1 ∨ c = 2 ∨ c = 3 ∨ c = 4 := by omega
 rcases this with rfl | rfl | rfl | rfl | rfl <;> decide
def btw (n lo hi : Int) : Bool := decide (lo ≤ n) && decide (n ≤ hi)
variable (wk cp pg st tr wt ck pr ca bi ba : Int) in
def rightB : Bool := btw wk 1 64 && btw cp 1 8 && btw pg 1 256 && btw st 1 64 && btw tr 0 16 && btw wt 0 64 && btw ck 1 1099511627776 && btw pr 1 8 && btw ca 0 8 && btw bi 0 16 && btw ba 1 8
section
variable {P : Program} {ops : Array Oper} {rest : List Oper} {o : Oper} {a : Act} {w : World} {Q : Exit → Act → World → Prop}
theorem wpList_wanted (hw : Region.wanted o (yielded ops a.tmps) = true)
   (h : ∀ K : Act → World → Prop,(∀ a w,wpList P ops Q rest a w → K a w) → o.wp P a w K Q) : wpList P ops Q (o :: rest) a w :=
 wpList_step fun K hK => by simp only [hw,if_true]; exact h K hK
theorem wpList_load_rowG (hw : Region.wanted o (yielded ops a.tmps) = true) (ty : TypeId) (x : Operand) (ho : o.op = .load ty x)
   (g : Nat) (hx : a.eval x = .pointer (some ⟨g,0,none⟩)) (t : TypeId) (cs : Array Value) (fr : Nat × Nat) (d : TypeDesc) (hg : w.heap[g]? = some (.cells cs t fr))
   (hu : P.underlying ty = some d) (hd : (match d with | .struct _ | .array _ _ => true | _ => false) = true) (hi : (P.info? ty).map (·.size) = some cs.size)
   (h : wpList P ops Q rest (a.put o.dst (.agg cs)) w) : wpList P ops Q (o :: rest) a w :=
 wpList_wanted hw fun _ hK => wp_load_row ty x ho g hx t cs fr d hg hu hd hi (hK _ _ h)
theorem wpQuiet_load_row {C : World → Prop} {Q : Act → Prop} (hw : Region.wanted o (yielded ops a.tmps) = true) (ty : TypeId) (x : Operand) (ho : o.op = .load ty x)
   (g : Nat) (hx : a.eval x = .pointer (some ⟨g,0,none⟩)) (t : TypeId) (cs : Array Value) (fr : Nat × Nat) (d : TypeDesc) (hg : ∀ W,C W → W.heap[g]? = some (.cells cs t fr))
   (hu : P.underlying ty = some d) (hd : (match d with | .struct _ | .array _ _ => true | _ => false) = true) (hi : (P.info? ty).map (·.size) = some cs.size)
   (h : wpQuiet P ops C Q rest (a.put o.dst (.agg cs))) : wpQuiet P ops C Q (o :: rest) a := by
 refine wpQuiet_do (.agg cs) hw (fun W hW => ?_) h
 unfold Oper.quietAt execOp
 simp only [ho,hx,Instr.loadAt,Instr.sureAddr,Sem.run_bind,Sem.run_pure,Result.andThen_ok,run_loadVar_row W g t ty cs fr d (hg W hW) hu hd hi]
 exact ⟨rfl,rfl⟩
end
section
variable {P : Program} {w : World}
theorem run_loadVar_cell {ty : TypeId} {g i : Nat} {v : Value} {d : TypeDesc} (hu : P.underlying ty = some d) (hd : (match d with | .struct _ | .array _ _ => true | _ => false) = false) (hc : w.cell? ⟨g,i,none⟩ = some v) : (loadVar ty ⟨g,i,none⟩).run P w = .ok v w := by
 have hagg : (isAgg ty).run P w = .ok false w := by
   unfold isAgg
   rw [Sem.run_bind,run_underlying hu w]
   cases d <;> simp_all
 simp [loadVar,Sem.run_bind,hagg,hc,Result.andThen,go_sem]
end
theorem run_index_row {P : Program} {t e : TypeId} {n : Nat} {cs : Array Value} {i : Nat} {v : Value} {q : IntKind} (W : World) (hu : P.underlying t = some (.array n e)) (he : P.underlying e = some (.int q)) (hz : (P.info? e).map (·.size) = some 1)
   (hi : i < n) (hv : cs[i]? = some v) : (Instr.index t (.agg cs) (.int .i64 i)).run P W = .ok v W := by
 have hagg : (isAgg e).run P W = .ok false W := by
   unfold isAgg
   rw [Sem.run_bind,run_underlying he W]
   rfl
 cases hq : P.info? e with
 | none => simp [hq] at hz
 | some d =>
   have hs : d.size = 1 := by simpa [hq] using hz
   have hin : (0 : Int) ≤ (i : Int) ∧ (i : Int) < (n : Int) := by omega
   simp [Instr.index,asIntOf,Sem.run_bind,run_underlying hu W,hin,part,hagg,sizeOf,typeInfo,hq,hs,hv]
   intro q; omega
theorem Turned.setRow {S : Nat → Prop} {w w' : World} (h : Turned S w w') (g : Nat) (cs : Array Value) (hg : g < w.heap.size → S g) : Turned S w (w'.setRow g cs) :=
 ⟨h.os,h.tape,h.output,by have := h.size; simpa using this,fun k hk hs => by
   rw [setRow_other w' g k cs (by intro e; subst e; exact hs (hg hk))]; exact h.block k hk hs⟩
theorem More.setRow {w w' : World} (h : More w w') (g : Nat) (cs : Array Value) (hg : w.heap.size ≤ g) : More w (w'.setRow g cs) := Turned.setRow h g cs (fun q => by omega)
theorem cell_more {w W : World} {k : Nat} {cs : Array Value} {t : Nat} {fr : Nat × Nat} (h : w.heap[k]? = some (.cells cs t fr)) (hW : More w W) {j : Nat} {v : Value} (hv : cs[j]? = some v) : W.cell? ⟨k,j,none⟩ = some v := by
 rw [cell_of_row W k j cs t fr (hW.block h)]; exact hv
theorem row_new (w : World) (cs : Array Value) (t : TypeId) : (w.alloc (.cells cs t)).heap[w.heap.size]? = some (.cells cs t (0,0)) := heap_new w _
def partV (a b i : Int) : Int := if 0 ≤ i ∧ i < b - a then a + i else 0
def layArr (wk cp pg st tr wt ck pr ca bi ba : Int) (S : Nat → Int) : Array Value := #[.int .i64 wk,.int .i64 cp,.int .i64 pg,.int .i64 st,.int .i64 tr,.int .i64 wt,.int .i64 ck,.int .i64 pr,.int .i64 ca,.int .i64 bi,.int .i64 ba,.int .i64 (S 0),.int .i64 (S 1),.int .i64 (S 2),.int .i64 (S 3),.int .i64 (S 4),.int .i64 (S 5),.int .i64 (S 6),.int .i64 (S 7),.int .i64 (S 8),.int .i64 (S 9),.int .i64 (S 10),.int .i64 (S 11),.int .i64 (S 12)]
theorem layArr_start (wk cp pg st tr wt ck pr ca bi ba : Int) (S : Nat → Int) (p : Nat) (hp : p ≤ 12) : (layArr wk cp pg st tr wt ck pr ca bi ba S)[11 + p]? = some (.int .i64 (S p)) := by
 have : p = 0 ∨ p = 1 ∨ p = 2 ∨ p = 3 ∨ p = 4 ∨ p = 5 ∨ p = 6 ∨ p = 7 ∨ p = 8 ∨ p = 9 ∨ p = 10 ∨ p = 11 ∨ p = 12 := by omega
 rcases this with rfl | rfl | rfl | rfl | rfl | rfl | rfl | rfl | rfl | rfl | rfl | rfl | rfl <;> rfl
theorem layArr_one (wk cp pg st tr wt ck pr ca bi ba : Int) (S : Nat → Int) : (layArr wk cp pg st tr wt ck pr ca bi ba S).all (·.oneCell') = true := by simp [layArr,Value.oneCell']
structure LayOk (cp pg st ca bi : Int) (S : Nat → Int) : Prop where
 lo : 0 ≤ S 0
 up : ∀ p,p < 12 → S p ≤ S (p + 1)
 hi : S 12 ≤ 1000000
 cp0 : 0 ≤ cp
 cp1 : cp ≤ 8
 pg0 : 0 ≤ pg
 pg1 : pg ≤ 256
 st0 : 0 ≤ st
 st1 : st ≤ 64
 ca0 : 0 ≤ ca
 ca1 : ca ≤ 8
 bi0 : 0 ≤ bi
 bi1 : bi ≤ 16
 empty : st = 0 → S 12 = 0
theorem LayOk.all {cp pg st ca bi : Int} {S : Nat → Int} (h : LayOk cp pg st ca bi S) : 0 ≤ S 0 ∧ S 0 ≤ S 1 ∧ S 1 ≤ S 2 ∧ S 2 ≤ S 3 ∧ S 3 ≤ S 4 ∧ S 4 ≤ S 5 ∧ S 5 ≤ S 6 ∧ S 6 ≤ S 7 ∧ S 7 ≤ S 8 ∧ S 8 ≤ S 9 ∧ S 9 ≤ S 10 ∧ S 10 ≤ S 11 ∧ S 11 ≤ S 12 ∧ S 12 ≤ 1000000 :=
 ⟨h.lo,h.up 0 (by omega),h.up 1 (by omega),h.up 2 (by omega),h.up 3 (by omega),h.up 4 (by omega),h.up 5 (by omega),h.up 6 (by omega),h.up 7 (by omega),h.up 8 (by omega),h.up 9 (by omega),h.up 10 (by omega),h.up 11 (by omega),h.hi⟩
theorem LayOk.bounds {cp pg st ca bi : Int} {S : Nat → Int} (h : LayOk cp pg st ca bi S) (p : Nat) (hp : p ≤ 12) : 0 ≤ S p ∧ S p ≤ 1000000 := by
 obtain ⟨r0,r1,r2,r3,r4,r5,r6,r7,r8,r9,r10,r11,r12,r13⟩ := h.all
 have : p = 0 ∨ p = 1 ∨ p = 2 ∨ p = 3 ∨ p = 4 ∨ p = 5 ∨ p = 6 ∨ p = 7 ∨ p = 8 ∨ p = 9 ∨ p = 10 ∨ p = 11 ∨ p = 12 := by omega
 rcases this with rfl | rfl | rfl | rfl | rfl | rfl | rfl | rfl | rfl | rfl | rfl | rfl | rfl <;> omega
theorem lwithin (n lo hi : Int) (w : World) :
   Calls Tryz.prog 70 #[.int .i64 n,.int .i64 lo,.int .i64 hi] w fun e w' => e = .returned (.bool (btw n lo hi)) ∧ w' = w := by
 cases c0 : decide (lo ≤ n) with
 | false =>
   rw [show btw n lo hi = false by simp [btw,c0]]
   go_enter Tryz.func70,Tryz.ntmps70
   go_wp2
   go_ret
   exact ⟨rfl,rfl⟩
 | true =>
   cases c1 : decide (n ≤ hi) with
   | false =>
     rw [show btw n lo hi = false by simp [btw,c1]]
     go_enter Tryz.func70,Tryz.ntmps70
     go_wp2
     go_ret
     exact ⟨rfl,rfl⟩
   | true =>
     rw [show btw n lo hi = true by simp [btw,c0,c1]]
     go_enter Tryz.func70,Tryz.ntmps70
     go_wp2
     go_ret
     exact ⟨rfl,rfl⟩
theorem lclass (c : Int) (w : World) :
   Calls Tryz.prog 80 #[.int .i64 c] w fun e w' => e = .returned (.bool (btw c 0 4)) ∧ w' = w := by
 go_enter Tryz.func80,Tryz.ntmps80
 go_wp2_with fail
 refine (lwithin _ _ _ _).mono ?_
 rintro e w1 ⟨rfl,rfl⟩
 go_wp2_with fail
 go_ret
 exact ⟨rfl,rfl⟩
theorem laligned (a : Int) (h0 : 0 ≤ a) (h1 : a ≤ 1000000) (w : World) :
   Calls Tryz.prog 46 #[.int .i64 a] w fun e w' => e = .returned (.int .i64 ((a + 127) / 128 * 128)) ∧ w' = w := by
 have q0 : IntKind.i64.wrap (a + 128) = a + 128 := wrap_in (by omega) (by omega)
 have q1 : IntKind.i64.wrap (a + 128 - 1) = a + 127 := by rw [wrap_in (by omega) (by omega)]; omega
 have q2 : IntKind.i64.wrap ((a + 127).tdiv 128) = (a + 127) / 128 := by rw [Int.tdiv_eq_ediv_of_nonneg (by omega)]; exact wrap_in (by omega) (by omega)
 have q3 : IntKind.i64.wrap ((a + 127) / 128 * 128) = (a + 127) / 128 * 128 := wrap_in (by omega) (by omega)
 go_enter Tryz.func46,Tryz.ntmps46
 go_wp2_with fail
 go_ret
 exact ⟨rfl,rfl⟩
theorem lchunks (wk cp pg st tr wt ck pr ca bi ba : Int) (h0 : 0 ≤ pg) (h1 : pg ≤ 256) (w : World) :
   Calls Tryz.prog 72 #[.agg #[.int .i64 wk,.int .i64 cp,.int .i64 pg,.int .i64 st,.int .i64 tr,.int .i64 wt,.int .i64 ck,.int .i64 pr,.int .i64 ca,.int .i64 bi,.int .i64 ba]] w (Gives w (.int .i64 (chunksV pg))) := by
 have q0 : IntKind.i64.wrap (pg + 4) = pg + 4 := wrap_in (by omega) (by omega)
 have q1 : IntKind.i64.wrap (pg + 4 - 1) = pg + 3 := by rw [wrap_in (by omega) (by omega)]; omega
 have q2 : IntKind.i64.wrap ((pg + 3).tdiv 4) = chunksV pg := by rw [Int.tdiv_eq_ediv_of_nonneg (by omega)]; exact wrap_in (by omega) (by omega)
 go_enter Tryz.func72,Tryz.ntmps72
 go_wp2_with fail
 go_ret
 exact ⟨rfl,(More.refl _).alloc _⟩
theorem lblocks (c : Nat) (h : c ≤ 4) (w : World) :
   Calls Tryz.prog 81 #[.int .i64 c] w fun e w' => e = .returned (.int .i64 (slotsV c)) ∧ w' = w := by
 have hc : c = 0 ∨ c = 1 ∨ c = 2 ∨ c = 3 ∨ c = 4 := by omega
 rcases hc with rfl | rfl | rfl | rfl | rfl <;>
 · go_enter Tryz.func81,Tryz.ntmps81
   go_wp2_with fail
   go_ret
   exact ⟨rfl,rfl⟩
def aheadT (c : Nat) : Int := if c = 5 then 62 else aheadV c
theorem aheadT_step (k : Nat) (h : k ≤ 4) : aheadT k + slotsV k = aheadT (k + 1) ∧ 0 ≤ aheadT k ∧ aheadT k ≤ 60 := by
 have hc : k = 0 ∨ k = 1 ∨ k = 2 ∨ k = 3 ∨ k = 4 := by omega
 rcases hc with rfl | rfl | rfl | rfl | rfl <;> decide
theorem aheadT_lo (k : Nat) (h : k ≤ 4) : aheadT k = aheadV k := if_neg (by omega)
theorem lheadsAhead (c : Nat) (h : c ≤ 5) (w : World) :
   Calls Tryz.prog 73 #[.int .i64 c] w fun e w' => e = .returned (.int .i64 (aheadT c)) ∧ w' = w := by
 go_enter Tryz.func73,Tryz.ntmps73
 go_wp2_with fail
 go_loop [3,4,6] (fun n _ i => ∃ k : Nat,k ≤ c ∧ i = .int .i64 k ∧ n = .int .i64 (aheadT k)) (fun _ _ i => c - (intOf i).toNat)
 case atStart => exact ⟨0,Nat.zero_le _,rfl,rfl⟩
 case round =>
   obtain ⟨k,hk,rfl,rfl⟩ := hrel
   by_cases hlt : k < c
   · obtain ⟨a1,a2,a3⟩ := aheadT_step k (by omega)
     have b4 := slots_lo k (by omega) (by omega)
     have q0 : IntKind.i64.wrap (aheadT k + slotsV k) = aheadT (k + 1) := by rw [a1]; exact wrap_in (by omega) (by omega)
     clear a1
     have d0 : decide ((k : Int) < (c : Int)) = true := by simp; omega
     go_wp2_with fail
     refine (lblocks k (by omega) _).mono ?_
     rintro e w1 ⟨rfl,rfl⟩
     go_wp2_with fail
     go_round
     case rel => exact ⟨k + 1,by omega,by go_num,rfl⟩
     case measure => simp [intOf]; omega
   · have he : k = c := by omega
     subst he
     have d0 : decide ((k : Int) < (k : Int)) = false := by simp
     go_wp2_with fail
     go_ret
     exact ⟨rfl,rfl⟩
variable (wk cp pg st tr wt ck pr ca bi ba : Int) (S : Nat → Int) (w : World)
theorem lword (p : Nat) (i : Int) (hp : p < 12) (R : LayOk cp pg st ca bi S) :
   Calls Tryz.prog 29 #[.agg (layArr wk cp pg st tr wt ck pr ca bi ba S),.int .i64 p,.int .i64 i] w (Gives w (.int .i64 (partV (S p) (S (p + 1)) i))) := by
 have h0 := (R.bounds p (by omega)).1
 have h1 := R.up p hp
 have h2 := (R.bounds (p + 1) (by omega)).2
 clear R
 have e1 := layArr_start wk cp pg st tr wt ck pr ca bi ba S p (by omega)
 have e2 := layArr_start wk cp pg st tr wt ck pr ca bi ba S (p + 1) (by omega)
 generalize layArr wk cp pg st tr wt ck pr ca bi ba S = L at *
 generalize S p = a at *
 generalize S (p + 1) = b at *
 have HC := hQQ (row_new w L 28)
 have HM : Hid (More w (w.alloc (.cells L 28))) := (More.refl w).alloc _
 have q0 : IntKind.i64.wrap ((p : Int) + 1) = ((p + 1 : Nat) : Int) := by rw [wrap_in (by omega) (by omega)]; omega
 have q1 : IntKind.i64.wrap (b - a) = b - a := wrap_in (by omega) (by omega)
 have r0 : (0 : Int) ≤ (p : Int) + 1 := by omega
 have r1 : (p : Int) + 1 < 13 := by omega
 have r2 : (p : Int) < 13 := by omega
 by_cases c0 : i < 0
 · have d0 : decide (i < 0) = true := by simp; omega
   rw [show partV a b i = 0 from if_neg (by omega)]
   go_enter Tryz.func29,Tryz.ntmps29
   go_wp2_with fail
   generalize w.alloc (.cells L 28) = W0 at *
   have hne : ∃ W,More W0 W := ⟨W0,More.refl _⟩
   refine wp_region_more (by kernel_rfl) (by kernel_rfl) ?_
   iterate 16
     with_reducible refine wpQuiet_step (fun K hK => ?_)
     go_simp
     first
     | (refine hK _ ?_; clear hK K)
     | (apply Exists.intro
        refine ⟨fun W hW => ?_,hK _ ?_⟩
        first
        | (have x1 := cell_more HC.out hW e1; have x2 := cell_more HC.out hW e2; go_simp; try rfl)
        clear hK K)
   refine wpQuiet_nil ?_
   intro W hW
   have HW := hQQ hW
   have x1 := cell_more HC.out hW e1
   clear hW
   go_wp2_with fail
   go_ret
   exact ⟨rfl,HM.out.trans HW.out⟩
 · have d0 : decide (i < 0) = false := by simp; omega
   by_cases c1 : i < b - a
   · have d1 : decide (b - a ≤ i) = false := by simp; omega
     have q2 : IntKind.i64.wrap (a + i) = a + i := wrap_in (by omega) (by omega)
     rw [show partV a b i = a + i from if_pos (by omega)]
     go_enter Tryz.func29,Tryz.ntmps29
     go_wp2_with fail
     generalize w.alloc (.cells L 28) = W0 at *
     have hne : ∃ W,More W0 W := ⟨W0,More.refl _⟩
     refine wp_region_more (by kernel_rfl) (by kernel_rfl) ?_
     iterate 16
       with_reducible refine wpQuiet_step (fun K hK => ?_)
       go_simp
       first
       | (refine hK _ ?_; clear hK K)
       | (apply Exists.intro
          refine ⟨fun W hW => ?_,hK _ ?_⟩
          first
          | (have x1 := cell_more HC.out hW e1; have x2 := cell_more HC.out hW e2; go_simp; try rfl)
          clear hK K)
     refine wpQuiet_nil ?_
     intro W hW
     have HW := hQQ hW
     have x1 := cell_more HC.out hW e1
     clear hW
     go_wp2_with fail
     go_ret
     exact ⟨rfl,HM.out.trans HW.out⟩
   · have d1 : decide (b - a ≤ i) = true := by simp; omega
     rw [show partV a b i = 0 from if_neg (by omega)]
     go_enter Tryz.func29,Tryz.ntmps29
     go_wp2_with fail
     generalize w.alloc (.cells L 28) = W0 at *
     have hne : ∃ W,More W0 W := ⟨W0,More.refl _⟩
     refine wp_region_more (by kernel_rfl) (by kernel_rfl) ?_
     iterate 16
       with_reducible refine wpQuiet_step (fun K hK => ?_)
       go_simp
       first
       | (refine hK _ ?_; clear hK K)
       | (apply Exists.intro
          refine ⟨fun W hW => ?_,hK _ ?_⟩
          first
          | (have x1 := cell_more HC.out hW e1; have x2 := cell_more HC.out hW e2; go_simp; try rfl)
          clear hK K)
     refine wpQuiet_nil ?_
     intro W hW
     have HW := hQQ hW
     have x1 := cell_more HC.out hW e1
     clear hW
     go_wp2_with fail
     go_ret
     exact ⟨rfl,HM.out.trans HW.out⟩
theorem ltable (k : Int) (R : LayOk cp pg st ca bi S) :
   Calls Tryz.prog 121 #[.agg (layArr wk cp pg st tr wt ck pr ca bi ba S),.int .i64 k] w (Gives w (.int .i64 (partV (S 1) (S 2) k))) := by
 obtain ⟨r0,r1,r2,r3,r4,r5,r6,r7,r8,r9,r10,r11,r12,r13⟩ := R.all
 have HC := hQQ (row_new w (layArr wk cp pg st tr wt ck pr ca bi ba S) 28)
 go_enter Tryz.func121,Tryz.ntmps121
 go_wp2_with (first | refine wpList_load_row rfl 28 _ rfl _ rfl 28 _ _ _ HC.out Tryz.underlying28 rfl (by kernel_rfl) ?_ | refine wpList_load_rowG rfl 28 _ rfl _ rfl 28 _ _ _ HC.out Tryz.underlying28 rfl (by kernel_rfl) ?_)
 refine (lword wk cp pg st tr wt ck pr ca bi ba S _ 1 k (by omega) R).mono ?_
 rintro e w1 ⟨rfl,h1⟩
 go_wp2_with fail
 go_ret
 exact ⟨rfl,((More.refl _).alloc _).trans h1⟩
theorem lkind (k : Int) (R : LayOk cp pg st ca bi S) :
   Calls Tryz.prog 7 #[.agg (layArr wk cp pg st tr wt ck pr ca bi ba S),.int .i64 k] w (Gives w (.int .i64 (partV (S 2) (S 3) k))) := by
 obtain ⟨r0,r1,r2,r3,r4,r5,r6,r7,r8,r9,r10,r11,r12,r13⟩ := R.all
 have HC := hQQ (row_new w (layArr wk cp pg st tr wt ck pr ca bi ba S) 28)
 go_enter Tryz.func7,Tryz.ntmps7
 go_wp2_with (first | refine wpList_load_row rfl 28 _ rfl _ rfl 28 _ _ _ HC.out Tryz.underlying28 rfl (by kernel_rfl) ?_ | refine wpList_load_rowG rfl 28 _ rfl _ rfl 28 _ _ _ HC.out Tryz.underlying28 rfl (by kernel_rfl) ?_)
 refine (lword wk cp pg st tr wt ck pr ca bi ba S _ 2 k (by omega) R).mono ?_
 rintro e w1 ⟨rfl,h1⟩
 go_wp2_with fail
 go_ret
 exact ⟨rfl,((More.refl _).alloc _).trans h1⟩
theorem lcount (k : Int) (R : LayOk cp pg st ca bi S) :
   Calls Tryz.prog 69 #[.agg (layArr wk cp pg st tr wt ck pr ca bi ba S),.int .i64 k] w (Gives w (.int .i64 (partV (S 3) (S 4) k))) := by
 obtain ⟨r0,r1,r2,r3,r4,r5,r6,r7,r8,r9,r10,r11,r12,r13⟩ := R.all
 have HC := hQQ (row_new w (layArr wk cp pg st tr wt ck pr ca bi ba S) 28)
 go_enter Tryz.func69,Tryz.ntmps69
 go_wp2_with (first | refine wpList_load_row rfl 28 _ rfl _ rfl 28 _ _ _ HC.out Tryz.underlying28 rfl (by kernel_rfl) ?_ | refine wpList_load_rowG rfl 28 _ rfl _ rfl 28 _ _ _ HC.out Tryz.underlying28 rfl (by kernel_rfl) ?_)
 refine (lword wk cp pg st tr wt ck pr ca bi ba S _ 3 k (by omega) R).mono ?_
 rintro e w1 ⟨rfl,h1⟩
 go_wp2_with fail
 go_ret
 exact ⟨rfl,((More.refl _).alloc _).trans h1⟩
theorem lbits (k : Int) (R : LayOk cp pg st ca bi S) :
   Calls Tryz.prog 11 #[.agg (layArr wk cp pg st tr wt ck pr ca bi ba S),.int .i64 k] w (Gives w (.int .i64 (partV (S 4) (S 5) k))) := by
 obtain ⟨r0,r1,r2,r3,r4,r5,r6,r7,r8,r9,r10,r11,r12,r13⟩ := R.all
 have HC := hQQ (row_new w (layArr wk cp pg st tr wt ck pr ca bi ba S) 28)
 go_enter Tryz.func11,Tryz.ntmps11
 go_wp2_with (first | refine wpList_load_row rfl 28 _ rfl _ rfl 28 _ _ _ HC.out Tryz.underlying28 rfl (by kernel_rfl) ?_ | refine wpList_load_rowG rfl 28 _ rfl _ rfl 28 _ _ _ HC.out Tryz.underlying28 rfl (by kernel_rfl) ?_)
 refine (lword wk cp pg st tr wt ck pr ca bi ba S _ 4 k (by omega) R).mono ?_
 rintro e w1 ⟨rfl,h1⟩
 go_wp2_with fail
 go_ret
 exact ⟨rfl,((More.refl _).alloc _).trans h1⟩
theorem lnext (k : Int) (R : LayOk cp pg st ca bi S) :
   Calls Tryz.prog 95 #[.agg (layArr wk cp pg st tr wt ck pr ca bi ba S),.int .i64 k] w (Gives w (.int .i64 (partV (S 5) (S 6) k))) := by
 obtain ⟨r0,r1,r2,r3,r4,r5,r6,r7,r8,r9,r10,r11,r12,r13⟩ := R.all
 have HC := hQQ (row_new w (layArr wk cp pg st tr wt ck pr ca bi ba S) 28)
 go_enter Tryz.func95,Tryz.ntmps95
 go_wp2_with (first | refine wpList_load_row rfl 28 _ rfl _ rfl 28 _ _ _ HC.out Tryz.underlying28 rfl (by kernel_rfl) ?_ | refine wpList_load_rowG rfl 28 _ rfl _ rfl 28 _ _ _ HC.out Tryz.underlying28 rfl (by kernel_rfl) ?_)
 refine (lword wk cp pg st tr wt ck pr ca bi ba S _ 5 k (by omega) R).mono ?_
 rintro e w1 ⟨rfl,h1⟩
 go_wp2_with fail
 go_ret
 exact ⟨rfl,((More.refl _).alloc _).trans h1⟩
theorem lprev (k : Int) (R : LayOk cp pg st ca bi S) :
   Calls Tryz.prog 96 #[.agg (layArr wk cp pg st tr wt ck pr ca bi ba S),.int .i64 k] w (Gives w (.int .i64 (partV (S 6) (S 7) k))) := by
 obtain ⟨r0,r1,r2,r3,r4,r5,r6,r7,r8,r9,r10,r11,r12,r13⟩ := R.all
 have HC := hQQ (row_new w (layArr wk cp pg st tr wt ck pr ca bi ba S) 28)
 go_enter Tryz.func96,Tryz.ntmps96
 go_wp2_with (first | refine wpList_load_row rfl 28 _ rfl _ rfl 28 _ _ _ HC.out Tryz.underlying28 rfl (by kernel_rfl) ?_ | refine wpList_load_rowG rfl 28 _ rfl _ rfl 28 _ _ _ HC.out Tryz.underlying28 rfl (by kernel_rfl) ?_)
 refine (lword wk cp pg st tr wt ck pr ca bi ba S _ 6 k (by omega) R).mono ?_
 rintro e w1 ⟨rfl,h1⟩
 go_wp2_with fail
 go_ret
 exact ⟨rfl,((More.refl _).alloc _).trans h1⟩
theorem luser : Calls Tryz.prog 23 #[.agg (layArr wk cp pg st tr wt ck pr ca bi ba S)] w (Gives w (.int .i64 (S 11))) := by
 have HC := hQQ (row_new w (layArr wk cp pg st tr wt ck pr ca bi ba S) 28)
 have x22 := cell_more HC.out (More.refl _) (show (layArr wk cp pg st tr wt ck pr ca bi ba S)[22]? = some (.int .i64 (S 11)) from rfl)
 go_enter Tryz.func23,Tryz.ntmps23
 go_wp2_with fail
 go_ret
 exact ⟨rfl,(More.refl _).alloc _⟩
theorem lwords : Calls Tryz.prog 20 #[.agg (layArr wk cp pg st tr wt ck pr ca bi ba S)] w (Gives w (.int .i64 (S 12))) := by
 have HC := hQQ (row_new w (layArr wk cp pg st tr wt ck pr ca bi ba S) 28)
 have x23 := cell_more HC.out (More.refl _) (show (layArr wk cp pg st tr wt ck pr ca bi ba S)[23]? = some (.int .i64 (S 12)) from rfl)
 go_enter Tryz.func20,Tryz.ntmps20
 go_wp2_with fail
 go_ret
 exact ⟨rfl,(More.refl _).alloc _⟩
variable (wk cp pg st tr wt ck pr ca bi ba : Int) (S : Nat → Int) (w : World)
def lheadV (S : Nat → Int) (c f : Int) : Int := if 0 ≤ c ∧ c ≤ 4 ∧ 1 ≤ f ∧ f ≤ slotsV c then partV (S 7) (S 8) (aheadV c + f - 1) else 0
def laddrV (pg : Int) (S : Nat → Int) (p : Int) : Int := if 0 ≤ p ∧ p < pg then partV (S 11) (S 12) (p * 32) else 0
theorem btw_true {n lo hi : Int} (h0 : lo ≤ n) (h1 : n ≤ hi) : btw n lo hi = true := by simp [btw,h0,h1]
theorem btw_false {n lo hi : Int} (h : ¬ (lo ≤ n ∧ n ≤ hi)) : btw n lo hi = false := by
 cases q : btw n lo hi with
 | false => rfl
 | true => simp [btw] at q; exact absurd q h
theorem lconfig : Calls Tryz.prog 6 #[.agg (layArr wk cp pg st tr wt ck pr ca bi ba S)] w (Gives w (.agg #[.int .i64 wk,.int .i64 cp,.int .i64 pg,.int .i64 st,.int .i64 tr,.int .i64 wt,.int .i64 ck,.int .i64 pr,.int .i64 ca,.int .i64 bi,.int .i64 ba])) := by
 have HC0 := hQQ (row_new w (layArr wk cp pg st tr wt ck pr ca bi ba S) 28)
 have HC : Hid (((w.alloc (.cells (layArr wk cp pg st tr wt ck pr ca bi ba S) 28)).alloc (.cells #[.int .i64 0,.int .i64 0,.int .i64 0,.int .i64 0,.int .i64 0,.int .i64 0,.int .i64 0,.int .i64 0,.int .i64 0,.int .i64 0,.int .i64 0] 23)).heap[w.heap.size]? = some (.cells (layArr wk cp pg st tr wt ck pr ca bi ba S) 28 (0,0))) := ((More.refl _).alloc _).block HC0.out
 have x0 := cell_more HC.out (More.refl _) (show (layArr wk cp pg st tr wt ck pr ca bi ba S)[0]? = some (.int .i64 wk) from rfl)
 have x1 := cell_more HC.out (More.refl _) (show (layArr wk cp pg st tr wt ck pr ca bi ba S)[1]? = some (.int .i64 cp) from rfl)
 have x2 := cell_more HC.out (More.refl _) (show (layArr wk cp pg st tr wt ck pr ca bi ba S)[2]? = some (.int .i64 pg) from rfl)
 have x3 := cell_more HC.out (More.refl _) (show (layArr wk cp pg st tr wt ck pr ca bi ba S)[3]? = some (.int .i64 st) from rfl)
 have x4 := cell_more HC.out (More.refl _) (show (layArr wk cp pg st tr wt ck pr ca bi ba S)[4]? = some (.int .i64 tr) from rfl)
 have x5 := cell_more HC.out (More.refl _) (show (layArr wk cp pg st tr wt ck pr ca bi ba S)[5]? = some (.int .i64 wt) from rfl)
 have x6 := cell_more HC.out (More.refl _) (show (layArr wk cp pg st tr wt ck pr ca bi ba S)[6]? = some (.int .i64 ck) from rfl)
 have x7 := cell_more HC.out (More.refl _) (show (layArr wk cp pg st tr wt ck pr ca bi ba S)[7]? = some (.int .i64 pr) from rfl)
 have x8 := cell_more HC.out (More.refl _) (show (layArr wk cp pg st tr wt ck pr ca bi ba S)[8]? = some (.int .i64 ca) from rfl)
 have x9 := cell_more HC.out (More.refl _) (show (layArr wk cp pg st tr wt ck pr ca bi ba S)[9]? = some (.int .i64 bi) from rfl)
 have x10 := cell_more HC.out (More.refl _) (show (layArr wk cp pg st tr wt ck pr ca bi ba S)[10]? = some (.int .i64 ba) from rfl)
 go_enter Tryz.func6,Tryz.ntmps6
 go_wp2_with fail
 refine bodyPost_ret (v:=.agg #[.int .i64 wk,.int .i64 cp,.int .i64 pg,.int .i64 st,.int .i64 tr,.int .i64 wt,.int .i64 ck,.int .i64 pr,.int .i64 ca,.int .i64 bi,.int .i64 ba]) (by simp [results,Tryz.results6,go_sem]) rfl ⟨rfl,?_⟩
 exact ((More.refl _).alloc _).alloc _
theorem lhead (c f : Int) (R : LayOk cp pg st ca bi S) :
   Calls Tryz.prog 59 #[.agg (layArr wk cp pg st tr wt ck pr ca bi ba S),.int .i64 c,.int .i64 f] w (Gives w (.int .i64 (lheadV S c f))) := by
 obtain ⟨r0,r1,r2,r3,r4,r5,r6,r7,r8,r9,r10,r11,r12,r13⟩ := R.all
 have HC := hQQ (row_new w (layArr wk cp pg st tr wt ck pr ca bi ba S) 28)
 have HM : Hid (More w (w.alloc (.cells (layArr wk cp pg st tr wt ck pr ca bi ba S) 28))) := (More.refl w).alloc _
 by_cases hc : 0 ≤ c ∧ c ≤ 4
 · obtain ⟨k,rfl⟩ : ∃ k : Nat,c = k := ⟨c.toNat,by omega⟩
   have hk : k ≤ 4 := by omega
   have b1 := btw_true hc.1 hc.2
   by_cases hf : 1 ≤ f ∧ f ≤ slotsV k
   · have b2 := btw_true hf.1 hf.2
     have b3 := slots_lo k (by omega) (by omega)
     have b4 := ahead_b k (by omega) (by omega)
     rw [show lheadV S k f = partV (S 7) (S 8) (aheadV k + f - 1) from if_pos (by omega)]
     have q0 : IntKind.i64.wrap (aheadV k + f) = aheadV k + f := wrap_in (by omega) (by omega)
     have q1 : IntKind.i64.wrap (aheadV k + f - 1) = aheadV k + f - 1 := wrap_in (by omega) (by omega)
     have HW := hQQ (fun W => lword wk cp pg st tr wt ck pr ca bi ba S W 7 (aheadV k + f - 1) (by omega) R)
     have HA := hQQ (fun W => lheadsAhead k (by omega) W)
     rw [aheadT_lo k hk] at HA
     go_enter Tryz.func59,Tryz.ntmps59
     go_wp2_with fail
     refine (lclass _ _).mono ?_
     rintro e w1 ⟨rfl,rfl⟩
     rw [b1]
     go_wp2_with fail
     refine (lblocks k hk _).mono ?_
     rintro e w2 ⟨rfl,rfl⟩
     go_wp2_with fail
     refine (lwithin _ _ _ _).mono ?_
     rintro e w3 ⟨rfl,rfl⟩
     rw [b2]
     go_wp2_with fail
     generalize w.alloc (.cells (layArr wk cp pg st tr wt ck pr ca bi ba S) 28) = W0 at *
     have hne : ∃ W,More W0 W := ⟨W0,More.refl _⟩
     refine wp_region_more (by kernel_rfl) (by kernel_rfl) ?_
     iterate 8
       first
       | (refine wpQuiet_load_row rfl 28 _ rfl _ rfl 28 _ _ _ (fun W hW => hW.block HC.out) Tryz.underlying28 rfl (by kernel_rfl) ?_)
       | (with_reducible refine wpQuiet_step (fun K hK => ?_)
          go_simp
          first
          | (refine hK _ ?_; clear hK K)
          | (apply Exists.intro
             refine ⟨fun W hW => ?_,hK _ ?_⟩
             first
          | (go_at_call 73; exact (HA.out W).mono (fun _ _ ⟨he,hw⟩ => ⟨he,hw ▸ hW⟩))
          | (go_at_call 29; exact Calls.more hW (HW.out W))
             | (skip; (try go_simp); try rfl)
             clear hK K))
     refine wpQuiet_nil ?_
     intro W hW
     have HX := hQQ hW
     clear hW
     go_wp2_with fail
     go_ret
     exact ⟨rfl,HM.out.trans HX.out⟩
   · have b2 := btw_false hf
     rw [show lheadV S k f = 0 from if_neg (by omega)]
     go_enter Tryz.func59,Tryz.ntmps59
     go_wp2_with fail
     refine (lclass _ _).mono ?_
     rintro e w1 ⟨rfl,rfl⟩
     rw [b1]
     go_wp2_with fail
     refine (lblocks k hk _).mono ?_
     rintro e w2 ⟨rfl,rfl⟩
     go_wp2_with fail
     refine (lwithin _ _ _ _).mono ?_
     rintro e w3 ⟨rfl,rfl⟩
     rw [b2]
     go_wp2_with fail
     go_ret
     exact ⟨rfl,HM.out⟩
 · have b1 := btw_false hc
   rw [show lheadV S c f = 0 from if_neg (by omega)]
   go_enter Tryz.func59,Tryz.ntmps59
   go_wp2_with fail
   refine (lclass _ _).mono ?_
   rintro e w1 ⟨rfl,rfl⟩
   rw [b1]
   go_wp2_with fail
   go_ret
   exact ⟨rfl,HM.out⟩
theorem laddr (p : Int) (R : LayOk cp pg st ca bi S) :
   Calls Tryz.prog 41 #[.agg (layArr wk cp pg st tr wt ck pr ca bi ba S),.int .i64 p] w (Gives w (.int .i64 (laddrV pg S p))) := by
 obtain ⟨r0,r1,r2,r3,r4,r5,r6,r7,r8,r9,r10,r11,r12,r13⟩ := R.all
 have HC := hQQ (row_new w (layArr wk cp pg st tr wt ck pr ca bi ba S) 28)
 have HM : Hid (More w (w.alloc (.cells (layArr wk cp pg st tr wt ck pr ca bi ba S) 28))) := (More.refl w).alloc _
 have g3 := R.pg0
 have g4 := R.pg1
 have x2 := cell_more HC.out (More.refl _) (show (layArr wk cp pg st tr wt ck pr ca bi ba S)[2]? = some (.int .i64 pg) from rfl)
 have q0 : IntKind.i64.wrap (pg - 1) = pg - 1 := wrap_in (by omega) (by omega)
 by_cases hc : 0 ≤ p ∧ p ≤ pg - 1
 · have b2 := btw_true hc.1 hc.2
   rw [show laddrV pg S p = partV (S 11) (S 12) (p * 32) from if_pos (by omega)]
   have q4 : IntKind.i64.wrap (p * 32) = p * 32 := wrap_in (by omega) (by omega)
   have HW := hQQ (fun W => lword wk cp pg st tr wt ck pr ca bi ba S W 11 (p * 32) (by omega) R)
   go_enter Tryz.func41,Tryz.ntmps41
   go_wp2_with fail
   refine (lwithin _ _ _ _).mono ?_
   rintro e w2 ⟨rfl,rfl⟩
   rw [b2]
   go_wp2_with (first | refine wpList_load_row rfl 28 _ rfl _ rfl 28 _ _ _ HC.out Tryz.underlying28 rfl (by kernel_rfl) ?_ | refine wpList_load_rowG rfl 28 _ rfl _ rfl 28 _ _ _ HC.out Tryz.underlying28 rfl (by kernel_rfl) ?_)
   refine (HW.out _).mono ?_
   rintro e w3 ⟨rfl,h3⟩
   go_wp2_with fail
   go_ret
   exact ⟨rfl,HM.out.trans h3⟩
 · have b2 := btw_false hc
   rw [show laddrV pg S p = 0 from if_neg (by omega)]
   go_enter Tryz.func41,Tryz.ntmps41
   go_wp2_with fail
   refine (lwithin _ _ _ _).mono ?_
   rintro e w2 ⟨rfl,rfl⟩
   rw [b2]
   go_wp2_with fail
   go_ret
   exact ⟨rfl,HM.out⟩
theorem lplace_in (a : Int) (R : LayOk cp pg st ca bi S) (c0 : S 11 ≤ a) (c1 : a < S 12) :
   Calls Tryz.prog 16 #[.agg (layArr wk cp pg st tr wt ck pr ca bi ba S),.int .i64 a] w (Gives w (.tuple #[.int .i64 ((a - S 11) / 32),.int .i64 ((a - S 11) % 32),.bool true])) := by
 obtain ⟨r0,r1,r2,r3,r4,r5,r6,r7,r8,r9,r10,r11,r12,r13⟩ := R.all
 have HC := hQQ (row_new w (layArr wk cp pg st tr wt ck pr ca bi ba S) 28)
 have HM : Hid (More w (w.alloc (.cells (layArr wk cp pg st tr wt ck pr ca bi ba S) 28))) := (More.refl w).alloc _
 have HU := hQQ (fun W => luser wk cp pg st tr wt ck pr ca bi ba S W)
 have HWd := hQQ (fun W => lwords wk cp pg st tr wt ck pr ca bi ba S W)
 have d0 : decide (a < S 11) = false := by simp; omega
 have d1 : decide (S 12 ≤ a) = false := by simp; omega
 have q1 : IntKind.i64.wrap (a - S 11) = a - S 11 := wrap_in (by omega) (by omega)
 have q2 : IntKind.i64.wrap ((a - S 11).tdiv 32) = (a - S 11) / 32 := by rw [Int.tdiv_eq_ediv_of_nonneg (by omega)]; exact wrap_in (by omega) (by omega)
 have q3 : IntKind.i64.wrap ((a - S 11).tmod 32) = (a - S 11) % 32 := by rw [Int.tmod_eq_emod_of_nonneg (by omega)]; exact wrap_in (by omega) (by omega)
 have q4 : (a - S 11).tmod 32 = (a - S 11) % 32 := Int.tmod_eq_emod_of_nonneg (by omega)
 go_enter Tryz.func16,Tryz.ntmps16
 go_wp2_with (first | refine wpList_load_row rfl 28 _ rfl _ rfl 28 _ _ _ HC.out Tryz.underlying28 rfl (by kernel_rfl) ?_ | refine wpList_load_rowG rfl 28 _ rfl _ rfl 28 _ _ _ HC.out Tryz.underlying28 rfl (by kernel_rfl) ?_)
 refine (HU.out _).mono ?_
 rintro e w1 ⟨rfl,h1⟩
 have H1 := hQQ (HM.out.trans h1)
 have HC := hQQ (h1.block HC.out)
 clear h1
 go_wp2_with (first | refine wpList_load_row rfl 28 _ rfl _ rfl 28 _ _ _ HC.out Tryz.underlying28 rfl (by kernel_rfl) ?_ | refine wpList_load_rowG rfl 28 _ rfl _ rfl 28 _ _ _ HC.out Tryz.underlying28 rfl (by kernel_rfl) ?_)
 refine (HWd.out _).mono ?_
 rintro e w2 ⟨rfl,h2⟩
 have H2 := hQQ (H1.out.trans h2)
 have HC := hQQ (h2.block HC.out)
 clear h2
 go_wp2_with (first | refine wpList_load_row rfl 28 _ rfl _ rfl 28 _ _ _ HC.out Tryz.underlying28 rfl (by kernel_rfl) ?_ | refine wpList_load_rowG rfl 28 _ rfl _ rfl 28 _ _ _ HC.out Tryz.underlying28 rfl (by kernel_rfl) ?_)
 refine (HU.out _).mono ?_
 rintro e w3 ⟨rfl,h3⟩
 go_wp2_with fail
 go_ret3
 exact ⟨rfl,H2.out.trans h3⟩
theorem lplace_out (a : Int) (R : LayOk cp pg st ca bi S) (c : a < S 11 ∨ S 12 ≤ a) :
   Calls Tryz.prog 16 #[.agg (layArr wk cp pg st tr wt ck pr ca bi ba S),.int .i64 a] w (Gives w (.tuple #[.int .i64 0,.int .i64 0,.bool false])) := by
 obtain ⟨r0,r1,r2,r3,r4,r5,r6,r7,r8,r9,r10,r11,r12,r13⟩ := R.all
 have HC := hQQ (row_new w (layArr wk cp pg st tr wt ck pr ca bi ba S) 28)
 have HM : Hid (More w (w.alloc (.cells (layArr wk cp pg st tr wt ck pr ca bi ba S) 28))) := (More.refl w).alloc _
 have HU := hQQ (fun W => luser wk cp pg st tr wt ck pr ca bi ba S W)
 have HWd := hQQ (fun W => lwords wk cp pg st tr wt ck pr ca bi ba S W)
 by_cases c0 : a < S 11
 · have d0 : decide (a < S 11) = true := by simp; omega
   go_enter Tryz.func16,Tryz.ntmps16
   go_wp2_with (first | refine wpList_load_row rfl 28 _ rfl _ rfl 28 _ _ _ HC.out Tryz.underlying28 rfl (by kernel_rfl) ?_ | refine wpList_load_rowG rfl 28 _ rfl _ rfl 28 _ _ _ HC.out Tryz.underlying28 rfl (by kernel_rfl) ?_)
   refine (HU.out _).mono ?_
   rintro e w1 ⟨rfl,h1⟩
   go_wp2_with fail
   go_ret3
   exact ⟨rfl,HM.out.trans h1⟩
 · have d0 : decide (a < S 11) = false := by simp; omega
   have d1 : decide (S 12 ≤ a) = true := by simp; omega
   go_enter Tryz.func16,Tryz.ntmps16
   go_wp2_with (first | refine wpList_load_row rfl 28 _ rfl _ rfl 28 _ _ _ HC.out Tryz.underlying28 rfl (by kernel_rfl) ?_ | refine wpList_load_rowG rfl 28 _ rfl _ rfl 28 _ _ _ HC.out Tryz.underlying28 rfl (by kernel_rfl) ?_)
   refine (HU.out _).mono ?_
   rintro e w1 ⟨rfl,h1⟩
   have H1 := hQQ (HM.out.trans h1)
   have HC := hQQ (h1.block HC.out)
   clear h1
   go_wp2_with (first | refine wpList_load_row rfl 28 _ rfl _ rfl 28 _ _ _ HC.out Tryz.underlying28 rfl (by kernel_rfl) ?_ | refine wpList_load_rowG rfl 28 _ rfl _ rfl 28 _ _ _ HC.out Tryz.underlying28 rfl (by kernel_rfl) ?_)
   refine (HWd.out _).mono ?_
   rintro e w2 ⟨rfl,h2⟩
   go_wp2_with fail
   go_ret3
   exact ⟨rfl,H1.out.trans h2⟩
section
variable {P : Program} {ops : Array Oper} {md : Region.Mode} {C : World → Prop}
def anyT (P : Program) (md : Region.Mode) (ops : Array Oper) (C : World → Prop) (n : Nat) (L : Array Bool → Act → Prop) : Nat → Array Bool → Act → Prop
 | 0,d,a => L d a
 | f + 1,d,a => Region.ready md ops d ≠ [] ∧ ∀ i ∈ Region.ready md ops d,i < n ∧ qOp P ops C i (anyT P md ops C n L f (d.setIfInBounds i true)) a
theorem any_of_T {n g : Nat} {L : Array Bool → Act → Prop} {Q : Exit → Act → World → Prop} (hL : ∀ d a w,C w → L d a → wpAny P md ops Q g d a w) (f : Nat) :
   ∀ (d : Array Bool) (a : Act) (w : World),C w → anyT P md ops C n L f d a → wpAny P md ops Q (f + g) d a w := by
 induction f with
 | zero => intro d a w hw h; rw [Nat.zero_add]; exact hL _ _ _ hw h
 | succ f ih =>
   intro d a w hw h
   rw [Nat.add_right_comm]
   exact ⟨fun q => absurd q h.1,fun i hi => wpOp_of_qOp hw (fun a' w' hw' k => ih _ a' w' hw' k) (h.2 i hi).2⟩
theorem anyT_first {n i : Nat} {o : Oper} {v : Value} {L : Array Bool → Act → Prop} (hi : ops[i]? = some o) (hsel : ∀ (j : Nat) (o : Oper) cs b,ops[j]? = some o → o.op ≠ .select cs b)
   (hwait : ∀ d,HeadInv md ops n d → d.getD i true = false → ∀ t,n ≤ t → t ∉ Region.ready md ops d) (hin : i < n)
   (hend : ∀ d a,L d a → ∀ j ∈ Region.ready md ops d,n ≤ j) (f : Nat) :
   ∀ (d : Array Bool) (a : Act),HeadInv md ops n d →
     (∀ j p,ops[j]? = some p → j ≠ i → d.getD j true = false → (∀ e ∈ p.after,Region.binds md e = true → e.on ≠ i) → o.apart ops p = true) →
     i ∈ Region.ready md ops d → YieldsIn P ops C o v a →
     anyT P md ops C n L f (d.setIfInBounds i true) (a.put o.dst v) → anyT P md ops C n L (f + 1) d a := by
 induction f with
 | zero =>
   intro d a inv _ hr hy H
   refine ⟨fun q => (by rw [q] at hr; cases hr),fun j hj => ?_⟩
   have hlt : j < n := Nat.lt_of_not_le fun q => hwait d inv (mem_ready.1 hr).1 j q hj
   refine ⟨hlt,?_⟩
   by_cases e : j = i
   · subst e; exact hy.qOp hi H
   · exact absurd (hend _ _ H j (ready_mono hj e)) (by omega)
 | succ f ih =>
   intro d a inv hfree hr hy H
   have hun := (mem_ready.1 hr).1
   refine ⟨fun q => (by rw [q] at hr; cases hr),fun j hj => ?_⟩
   have hlt : j < n := Nat.lt_of_not_le fun q => hwait d inv hun j q hj
   refine ⟨hlt,?_⟩
   by_cases e : j = i
   · subst e; exact hy.qOp hi H
   · obtain ⟨hjun,p,hp,hall⟩ := mem_ready.1 hj
     have hno : ∀ e ∈ p.after,Region.binds md e = true → e.on ≠ i := fun e he hb q => by
       have := hall e he hb
       rw [q,getD_both hun] at this
       cases this
     have k := qOp_put hp (hfree j p hp e hjun hno) (fun cs b => hsel i o cs b hi) (fun cs b => hsel j p cs b hp) hy (H.2 j (ready_mono hj e)).2
     refine qOp_mono (fun a' z => ih (d.setIfInBounds j true) a' (inv.set hj hlt) (fun x q hx hxi hun' hno' => hfree x q hx hxi ?_ hno') (ready_mono hr (Ne.symm e)) z.1 ?_) k
     · by_cases y : j = x
       · subst y; exact hjun
       · rw [getD_set_ne true y] at hun'; exact hun'
     · rw [Array.setIfInBounds_comm _ _ e]; exact z.2
theorem anyT_lex {n g k0 : Nat} {Z : Act → Prop} (hsel : Region.noSelect ops = true) (hwait : ∀ i,k0 ≤ i → i < n → ∀ d,HeadInv md ops n d → d.getD i true = false → ∀ t,n ≤ t → t ∉ Region.ready md ops d) (l : List Oper) :
   ∀ (k : Nat) (d : Array Bool) (a : Act),k0 ≤ k → (∀ j,j < l.length → l[j]? = ops[k + j]?) → k + l.length = n → HeadInv md ops n d →
   Region.lexHead md ops g l.length k d = true → wpQuiet P ops C Z l a →
   anyT P md ops C n (fun d' a' => Region.seqB md ops g n d' = true ∧ Z a') l.length d a := by
 induction l with
 | nil =>
   intro k d a _ _ hk _ hB h
   have : k = n := by simpa using hk
   subst this
   exact ⟨by simpa [Region.lexHead] using hB,h⟩
 | cons o l ih =>
   intro k d a hk0 hl hk inv hB h
   have h0 : ops[k]? = some o := by simpa using (hl 0 (by simp)).symm
   simp only [List.length_cons,Region.lexHead,Bool.and_eq_true] at hB hk
   have hr : k ∈ Region.ready md ops d := by simpa using hB.1.1
   have hst : qOp P ops C k (wpQuiet P ops C Z l) a := by unfold qOp; simp only [h0]; exact h
   obtain ⟨v,hy,hK⟩ := yieldsIn_of_qOp h0 hst
   exact anyT_first h0 (Region.noSelect_spec hsel) (hwait k hk0 (by omega)) (by omega) (fun _ _ z => seqB_ready z.1) l.length d a inv (Region.free_spec h0 hB.1.2) hr hy
     (ih (k + 1) _ _ (by omega) (fun j hj => by have := hl (j + 1) (by simp; omega); simpa [Nat.add_assoc,Nat.add_comm 1 j] using this) (by omega) (inv.set hr (by omega)) hB.2 hK)
end
theorem wp_region_quiet_tail {P : Program} {C : World → Prop} {id : Nat} {Q : Exit → Act → World → Prop} {a : Act} {w : World} {l : List Oper} (n : Nat) (hm : P.follows .mixedOrders = true) (hB : Region.lexTailB .any l.toArray n = true)
   (hC : C { w with drawn := w.drawn + 1 }) (h : wpQuiet P l.toArray C (fun a' => ∀ w',C w' → wpList P l.toArray Q (l.drop n) a' w') (l.take n) a) : (Code.region id l.toArray true).wp P Q a w := by
 simp only [Region.lexTailB,Bool.and_eq_true,decide_eq_true_eq] at hB
 obtain ⟨⟨⟨⟨hsel,hn⟩,hs⟩,hc⟩,hlex⟩ := hB
 have hn' : n < l.length := by simpa using hn
 have ht : (l.take n).length = n := by simp; omega
 have hd : (l.drop n).length = l.toArray.size - n := by simp
 have inv : HeadInv .any l.toArray n (Array.replicate l.toArray.size false) :=
   ⟨by simp,fun j p _ q => (by rw [getD_replicate_false] at q; cases q),fun t _ q => getD_in (by simpa using q) (getD_replicate_false _ _)⟩
 have H := anyT_lex (md:=.any) (g:=l.toArray.size - n) (k0:=0) hsel (fun i _ hi d inv hun t ht => tail_waits hs hc hn inv _ i rfl hi hun t ht) (l.take n) 0 _ a (by omega) (fun j hj => by
   have : j < n := by rw [ht] at hj; exact hj
   simp [this]) (by simpa using ht) inv (by rw [ht]; exact hlex) h
 have K := any_of_T (Q:=Q) (g:=l.toArray.size - n) (fun d a' w' hw z => by
   have := wpAny_of_seq (md:=.any) (Q' := Q) (l.drop n) n d a' w' (fun j => by simp [List.getElem?_drop]) (by rw [hd]; exact z.1) (z.2 w' hw)
   rwa [hd] at this) _ _ _ _ hC H
 rw [ht,show n + (l.toArray.size - n) = l.toArray.size by omega] at K
 exact wp_region_any hm K
def sinkFrom (md : Region.Mode) (ops : Array Oper) (k n : Nat) : Bool :=
 (List.range n).all fun i => decide (i < k) || (List.range (n + 1)).any fun j => decide (i < j) && Region.waitsFor md ops j i
theorem wp_region_more_tail {P : Program} {id : Nat} {Q : Exit → Act → World → Prop} {a : Act} {w : World} {l : List Oper} (n : Nat) (hm : P.follows .mixedOrders = true) (hB : Region.lexTailB .any l.toArray n = true)
   (h : wpQuiet P l.toArray (More w) (fun a' => ∀ w',More w w' → wpList P l.toArray Q (l.drop n) a' w') (l.take n) a) : (Code.region id l.toArray true).wp P Q a w :=
 wp_region_quiet_tail (C:=More w) n hm hB ((More.refl w).drewN 1) h
def lensArr (cp pg st ca bi : Int) : Array Value := #[.int .i64 st,.int .i64 (chunksV pg),.int .i64 pg,.int .i64 pg,.int .i64 pg,.int .i64 pg,.int .i64 pg,.int .i64 62,.int .i64 (cp * 5 * (ca + 1)),.int .i64 (5 * (bi + 1)),.int .i64 (pg * 32),.int .i64 (pg * 32)]
variable (wk cp pg st tr wt ck pr ca bi ba : Int) (w : World)
theorem llengths (R : CfgOk wk cp pg st tr wt ck pr ca bi ba) : Calls Tryz.prog 45 #[.agg #[.int .i64 wk,.int .i64 cp,.int .i64 pg,.int .i64 st,.int .i64 tr,.int .i64 wt,.int .i64 ck,.int .i64 pr,.int .i64 ca,.int .i64 bi,.int .i64 ba]] w (Gives w (.agg (lensArr cp pg st ca bi))) := by
 have g1 := R.cp1
 have g2 := R.cp2
 have g3 := R.ca1
 have g4 := R.ca2
 have g5 := R.bi1
 have g6 := R.bi2
 have g7 := R.pg1
 have g8 := R.pg2
 have g9 := mulB (a:=cp * 5) (b:=ca + 1) (A:=40) (B:=9) (by omega) (by omega) (by omega) (by omega)
 have q0 : IntKind.i64.wrap (cp * 5) = cp * 5 := wrap_in (by omega) (by omega)
 have q1 : IntKind.i64.wrap (ca + 1) = ca + 1 := wrap_in (by omega) (by omega)
 have q2 : IntKind.i64.wrap (cp * 5 * (ca + 1)) = cp * 5 * (ca + 1) := wrap_in (by omega) (by omega)
 have q3 : IntKind.i64.wrap (bi + 1) = bi + 1 := wrap_in (by omega) (by omega)
 have q4 : IntKind.i64.wrap (5 * (bi + 1)) = 5 * (bi + 1) := wrap_in (by omega) (by omega)
 have q5 : IntKind.i64.wrap (pg * 32) = pg * 32 := wrap_in (by omega) (by omega)
 have HH : Hid (∀ W,Calls Tryz.prog 73 #[.int .i64 5] W fun e w' => e = .returned (.int .i64 62) ∧ w' = W) := fun W => lheadsAhead 5 (by omega) W
 have HK := hQQ (fun W => lchunks wk cp pg st tr wt ck pr ca bi ba (by omega) g8 W)
 have HC0 := hQQ (row_new w #[.int .i64 wk,.int .i64 cp,.int .i64 pg,.int .i64 st,.int .i64 tr,.int .i64 wt,.int .i64 ck,.int .i64 pr,.int .i64 ca,.int .i64 bi,.int .i64 ba] 23)
 have HC : Hid (((w.alloc (.cells #[.int .i64 wk,.int .i64 cp,.int .i64 pg,.int .i64 st,.int .i64 tr,.int .i64 wt,.int .i64 ck,.int .i64 pr,.int .i64 ca,.int .i64 bi,.int .i64 ba] 23)).alloc (.cells #[.int .i64 0,.int .i64 0,.int .i64 0,.int .i64 0,.int .i64 0,.int .i64 0,.int .i64 0,.int .i64 0,.int .i64 0,.int .i64 0,.int .i64 0,.int .i64 0] 78)).heap[w.heap.size]? = some (.cells #[.int .i64 wk,.int .i64 cp,.int .i64 pg,.int .i64 st,.int .i64 tr,.int .i64 wt,.int .i64 ck,.int .i64 pr,.int .i64 ca,.int .i64 bi,.int .i64 ba] 23 (0,0))) := ((More.refl _).alloc _).block HC0.out
 have HB : Hid (((w.alloc (.cells #[.int .i64 wk,.int .i64 cp,.int .i64 pg,.int .i64 st,.int .i64 tr,.int .i64 wt,.int .i64 ck,.int .i64 pr,.int .i64 ca,.int .i64 bi,.int .i64 ba] 23)).alloc (.cells #[.int .i64 0,.int .i64 0,.int .i64 0,.int .i64 0,.int .i64 0,.int .i64 0,.int .i64 0,.int .i64 0,.int .i64 0,.int .i64 0,.int .i64 0,.int .i64 0] 78)).heap[w.heap.size + 1]? = some (.cells #[.int .i64 0,.int .i64 0,.int .i64 0,.int .i64 0,.int .i64 0,.int .i64 0,.int .i64 0,.int .i64 0,.int .i64 0,.int .i64 0,.int .i64 0,.int .i64 0] 78 (0,0))) := by
   have := row_new (w.alloc (.cells #[.int .i64 wk,.int .i64 cp,.int .i64 pg,.int .i64 st,.int .i64 tr,.int .i64 wt,.int .i64 ck,.int .i64 pr,.int .i64 ca,.int .i64 bi,.int .i64 ba] 23)) #[.int .i64 0,.int .i64 0,.int .i64 0,.int .i64 0,.int .i64 0,.int .i64 0,.int .i64 0,.int .i64 0,.int .i64 0,.int .i64 0,.int .i64 0,.int .i64 0] 78
   rwa [World.size_alloc] at this
 have HM : Hid (More w ((w.alloc (.cells #[.int .i64 wk,.int .i64 cp,.int .i64 pg,.int .i64 st,.int .i64 tr,.int .i64 wt,.int .i64 ck,.int .i64 pr,.int .i64 ca,.int .i64 bi,.int .i64 ba] 23)).alloc (.cells #[.int .i64 0,.int .i64 0,.int .i64 0,.int .i64 0,.int .i64 0,.int .i64 0,.int .i64 0,.int .i64 0,.int .i64 0,.int .i64 0,.int .i64 0,.int .i64 0] 78))) := ((More.refl w).alloc _).alloc _
 clear R g9
 go_enter Tryz.func45,Tryz.ntmps45
 go_wp2_with fail
 generalize (w.alloc (.cells #[.int .i64 wk,.int .i64 cp,.int .i64 pg,.int .i64 st,.int .i64 tr,.int .i64 wt,.int .i64 ck,.int .i64 pr,.int .i64 ca,.int .i64 bi,.int .i64 ba] 23)).alloc (.cells #[.int .i64 0,.int .i64 0,.int .i64 0,.int .i64 0,.int .i64 0,.int .i64 0,.int .i64 0,.int .i64 0,.int .i64 0,.int .i64 0,.int .i64 0,.int .i64 0] 78) = W0 at *
 have hne : ∃ W,More W0 W := ⟨W0,More.refl _⟩
 refine wp_region_more_tail 33 (by kernel_rfl) (by kernel_rfl) ?_
 simp only [List.take_succ_cons,List.take_zero,List.drop_succ_cons,List.drop_zero]
 iterate 33
   first
   | (refine wpQuiet_load_row rfl 23 _ rfl _ rfl 23 _ _ _ (fun W hW => hW.block HC.out) Tryz.underlying23 rfl (by kernel_rfl) ?_)
   | (with_reducible refine wpQuiet_step (fun K hK => ?_)
      go_simp
      first
      | (refine hK _ ?_; clear hK K)
      | (apply Exists.intro
         refine ⟨fun W hW => ?_,hK _ ?_⟩
         first
         | (go_at_call 73; exact (HH.out W).mono (fun _ _ ⟨he,hw⟩ => ⟨he,hw ▸ hW⟩))
         | (go_at_call 72; exact Calls.more hW (HK.out W))
         | (have x1 := cell_more HC.out hW (show (#[.int .i64 wk,.int .i64 cp,.int .i64 pg,.int .i64 st,.int .i64 tr,.int .i64 wt,.int .i64 ck,.int .i64 pr,.int .i64 ca,.int .i64 bi,.int .i64 ba] : Array Value)[1]? = some (.int .i64 cp) from rfl); have x2 := cell_more HC.out hW (show (#[.int .i64 wk,.int .i64 cp,.int .i64 pg,.int .i64 st,.int .i64 tr,.int .i64 wt,.int .i64 ck,.int .i64 pr,.int .i64 ca,.int .i64 bi,.int .i64 ba] : Array Value)[2]? = some (.int .i64 pg) from rfl); have x3 := cell_more HC.out hW (show (#[.int .i64 wk,.int .i64 cp,.int .i64 pg,.int .i64 st,.int .i64 tr,.int .i64 wt,.int .i64 ck,.int .i64 pr,.int .i64 ca,.int .i64 bi,.int .i64 ba] : Array Value)[3]? = some (.int .i64 st) from rfl); have x8 := cell_more HC.out hW (show (#[.int .i64 wk,.int .i64 cp,.int .i64 pg,.int .i64 st,.int .i64 tr,.int .i64 wt,.int .i64 ck,.int .i64 pr,.int .i64 ca,.int .i64 bi,.int .i64 ba] : Array Value)[8]? = some (.int .i64 ca) from rfl); have x9 := cell_more HC.out hW (show (#[.int .i64 wk,.int .i64 cp,.int .i64 pg,.int .i64 st,.int .i64 tr,.int .i64 wt,.int .i64 ck,.int .i64 pr,.int .i64 ca,.int .i64 bi,.int .i64 ba] : Array Value)[9]? = some (.int .i64 bi) from rfl); (try go_simp); try rfl)
         clear hK K))
 refine wpQuiet_nil ?_
 intro W hW
 have HX := hQQ hW
 clear hW
 refine wpList_store_row rfl 78 _ _ rfl _ _ rfl rfl 78 _ (HX.out.block HB.out) (by kernel_rfl) rfl (by simp [Value.oneCell']) ?_
 have HR := hQQ (setRow_heap W _ _ (lensArr cp pg st ca bi) _ _ (HX.out.block HB.out))
 have HY : Hid (More w (W.setRow (w.heap.size + 1) (lensArr cp pg st ca bi))) := (HM.out.trans HX.out).setRow _ _ (by omega)
 go_wp2_with fail
 refine bodyPost_ret (v:=.agg (lensArr cp pg st ca bi)) (results_cell_row Tryz.results45 _ _ _ 78 _ (0,0) _ rfl HR.out Tryz.underlying78 rfl (by kernel_rfl)) rfl ⟨rfl,?_⟩
 exact HY.out
theorem lcheck :
   Calls Tryz.prog 44 #[.agg #[.int .i64 wk,.int .i64 cp,.int .i64 pg,.int .i64 st,.int .i64 tr,.int .i64 wt,.int .i64 ck,.int .i64 pr,.int .i64 ca,.int .i64 bi,.int .i64 ba]] w (Gives w (.int .i64 (if rightB wk cp pg st tr wt ck pr ca bi ba = true then 0 else 2))) := by
 go_enter Tryz.func44,Tryz.ntmps44
 go_wp2_with (go_at_call 70; refine (lwithin _ _ _ _).mono ?_; rintro e w1 ⟨rfl,rfl⟩)
 all_goals go_ret
 all_goals exact ⟨by simp_all [rightB],(More.refl _).alloc _⟩
def startsV (cp pg st ca bi : Int) : Nat → Int
 | 0 => 3
 | 1 => tableV st
 | 2 => tableV st + chunksV pg
 | 3 => tableV st + chunksV pg + 1 * pg
 | 4 => tableV st + chunksV pg + 2 * pg
 | 5 => tableV st + chunksV pg + 3 * pg
 | 6 => tableV st + chunksV pg + 4 * pg
 | 7 => headsV st pg
 | 8 => cachesV st pg
 | 9 => binsV cp pg st ca
 | 10 => liveV cp pg st ca bi
 | 11 => userV cp pg st ca bi
 | _ => wordsV cp pg st ca bi
def nextV (cp pg st ca bi : Int) (k : Nat) : Int := if k = 11 then liveV cp pg st ca bi + pg * 32 else startsV cp pg st ca bi k
def lensV (cp pg st ca bi : Int) : Nat → Int
 | 0 => st
 | 1 => chunksV pg
 | 2 => pg
 | 3 => pg
 | 4 => pg
 | 5 => pg
 | 6 => pg
 | 7 => 62
 | 8 => cp * 5 * (ca + 1)
 | 9 => 5 * (bi + 1)
 | _ => pg * 32
def cutS (S : Nat → Int) (k p : Nat) : Int := if p < k then S p else 0
theorem ways12 {k : Nat} (h : k < 12) : k = 0 ∨ k = 1 ∨ k = 2 ∨ k = 3 ∨ k = 4 ∨ k = 5 ∨ k = 6 ∨ k = 7 ∨ k = 8 ∨ k = 9 ∨ k = 10 ∨ k = 11 := by omega
theorem ways13 {k : Nat} (h : k ≤ 12) : k = 0 ∨ k = 1 ∨ k = 2 ∨ k = 3 ∨ k = 4 ∨ k = 5 ∨ k = 6 ∨ k = 7 ∨ k = 8 ∨ k = 9 ∨ k = 10 ∨ k = 11 ∨ k = 12 := by omega
theorem lensArr_at {k : Nat} (h : k < 12) : (lensArr cp pg st ca bi)[k]? = some (.int .i64 (lensV cp pg st ca bi k)) := by
 rcases ways12 h with rfl | rfl | rfl | rfl | rfl | rfl | rfl | rfl | rfl | rfl | rfl | rfl <;> rfl
theorem mul5 (a b : Int) : a * 5 * b = 5 * a * b := by rw [Int.mul_comm a 5]
theorem start_of_next {k : Nat} (h : k < 11) : startsV cp pg st ca bi k = nextV cp pg st ca bi k := (if_neg (by omega)).symm
theorem next_step {k : Nat} (h : k < 12) : startsV cp pg st ca bi k + lensV cp pg st ca bi k = nextV cp pg st ca bi (k + 1) := by
 rcases ways12 h with rfl | rfl | rfl | rfl | rfl | rfl | rfl | rfl | rfl | rfl | rfl | rfl <;>
   simp only [startsV,lensV,nextV,tableV,headsV,cachesV,binsV,liveV,wordsV,mul5] <;> (try simp) <;> (try omega)
theorem user_of_next : (nextV cp pg st ca bi 11 + 127) / 128 * 128 = startsV cp pg st ca bi 11 := by
 simp only [nextV,startsV,userV]
 rw [Int.mul_comm pg 32]; rfl
theorem cut_set {S : Nat → Int} {k : Nat} (h : k ≤ 12) : (layArr wk cp pg st tr wt ck pr ca bi ba (cutS S k)).setIfInBounds (11 + k) (.int .i64 (S k)) = layArr wk cp pg st tr wt ck pr ca bi ba (cutS S (k + 1)) := by
 rcases ways13 h with rfl | rfl | rfl | rfl | rfl | rfl | rfl | rfl | rfl | rfl | rfl | rfl | rfl <;> rfl
theorem cut_none (S : Nat → Int) : #[.int .i64 wk,.int .i64 cp,.int .i64 pg,.int .i64 st,.int .i64 tr,.int .i64 wt,.int .i64 ck,.int .i64 pr,.int .i64 ca,.int .i64 bi,.int .i64 ba,.int .i64 0,.int .i64 0,.int .i64 0,.int .i64 0,.int .i64 0,.int .i64 0,.int .i64 0,.int .i64 0,.int .i64 0,.int .i64 0,.int .i64 0,.int .i64 0,.int .i64 0] = layArr wk cp pg st tr wt ck pr ca bi ba (cutS S 0) := rfl
section
variable {wk cp pg st tr wt ck pr ca bi ba}
theorem starts_b (R : CfgOk wk cp pg st tr wt ck pr ca bi ba) {k : Nat} (h : k ≤ 12) : 0 ≤ startsV cp pg st ca bi k ∧ startsV cp pg st ca bi k ≤ 18432 := by
 have b1 := tableB R; have b2 := chunksB R; have b3 := headsB R; have b4 := cachesB R; have b5 := binsB R; have b6 := liveB R; have b7 := userB R; have b8 := wordsB R
 have b9 := R.pg1; have b10 := R.pg2
 have hh : headsV st pg = tableV st + chunksV pg + 5 * pg := rfl
 rcases ways13 h with rfl | rfl | rfl | rfl | rfl | rfl | rfl | rfl | rfl | rfl | rfl | rfl | rfl <;> simp only [startsV] <;> omega
theorem next_b (R : CfgOk wk cp pg st tr wt ck pr ca bi ba) {k : Nat} (h : k ≤ 12) : 0 ≤ nextV cp pg st ca bi k ∧ nextV cp pg st ca bi k ≤ 18432 := by
 unfold nextV
 have b6 := liveB R; have b9 := R.pg1; have b10 := R.pg2
 split
 · omega
 · exact starts_b R h
theorem layOk_starts (R : CfgOk wk cp pg st tr wt ck pr ca bi ba) : LayOk cp pg st ca bi (startsV cp pg st ca bi) := {
 lo := (starts_b R (by omega)).1
 up := by
   intro p hp
   have b1 := tableB R; have b2 := chunksB R; have b3 := headsB R; have b4 := cachesB R; have b5 := binsB R; have b6 := liveB R; have b7 := userB R; have b8 := wordsB R
   have b9 := R.pg1; have b10 := R.pg2
   have b11 := prod5B R; have b12 := R.bi1
   have hh : headsV st pg = tableV st + chunksV pg + 5 * pg := rfl
   have hc : cachesV st pg = headsV st pg + 62 := rfl
   have hb : binsV cp pg st ca = cachesV st pg + 5 * cp * (ca + 1) := rfl
   have hl : liveV cp pg st ca bi = binsV cp pg st ca + 5 * (bi + 1) := rfl
   have hw : wordsV cp pg st ca bi = userV cp pg st ca bi + 32 * pg := rfl
   rcases ways12 hp with rfl | rfl | rfl | rfl | rfl | rfl | rfl | rfl | rfl | rfl | rfl | rfl <;> simp only [startsV] <;> omega
 hi := by have := (starts_b R (k:=12) (by omega)).2; omega
 cp0 := by have := R.cp1; omega
 cp1 := R.cp2
 pg0 := by have := R.pg1; omega
 pg1 := R.pg2
 st0 := by have := R.st1; omega
 st1 := R.st2
 ca0 := R.ca1
 ca1 := R.ca2
 bi0 := R.bi1
 bi1 := R.bi2
 empty := fun q => by have := R.st1; omega }
end
variable (wk cp pg st tr wt ck pr ca bi ba : Int) (w : World)
theorem results_row2 {P : Program} {fn : Func} {p u : Tmp} {ty : TypeId} (h : fn.results = #[.cell p ty,.tmp u]) (tmps : Array Value) (w : World) (g : Nat) (t : TypeId) (cs : Array Value) (fr : Nat × Nat) (d : TypeDesc)
   (hp : tmps.getD p undef = .pointer (some ⟨g,0,none⟩)) (hg : w.heap[g]? = some (.cells cs t fr))
   (hu : P.underlying ty = some d) (hd : (match d with | .struct _ | .array _ _ => true | _ => false) = true) (hi : (P.info? ty).map (·.size) = some cs.size) :
   (results fn tmps).run P w = .ok (.tuple #[.agg cs,tmps.getD u undef]) w := by
 rw [results_cell_tmp h,hp]
 simp [asAddr,run_loadVar_row w g t ty cs fr d hg hu hd hi]
theorem rightB_ok (R : CfgOk wk cp pg st tr wt ck pr ca bi ba) : rightB wk cp pg st tr wt ck pr ca bi ba = true := by
 obtain ⟨h0,h1,h2,h3,h4,h5,h6,h7,h8,h9,h10,h11,h12,h13,h14,h15,h16,h17,h18,h19,h20,h21⟩ := R
 simp [rightB,btw, *]
theorem of_right (R : CfgOk wk cp pg st tr wt ck pr ca bi ba) : Calls Tryz.prog 19 #[.agg #[.int .i64 wk,.int .i64 cp,.int .i64 pg,.int .i64 st,.int .i64 tr,.int .i64 wt,.int .i64 ck,.int .i64 pr,.int .i64 ca,.int .i64 bi,.int .i64 ba]] w (Gives w (.tuple #[.agg (layArr wk cp pg st tr wt ck pr ca bi ba (startsV cp pg st ca bi)),.int .i64 0])) := by
 have HC0 := hQQ (row_new w #[.int .i64 wk,.int .i64 cp,.int .i64 pg,.int .i64 st,.int .i64 tr,.int .i64 wt,.int .i64 ck,.int .i64 pr,.int .i64 ca,.int .i64 bi,.int .i64 ba] 23)
 have HC : Hid (((w.alloc (.cells #[.int .i64 wk,.int .i64 cp,.int .i64 pg,.int .i64 st,.int .i64 tr,.int .i64 wt,.int .i64 ck,.int .i64 pr,.int .i64 ca,.int .i64 bi,.int .i64 ba] 23)).alloc (.cells #[.int .i64 0,.int .i64 0,.int .i64 0,.int .i64 0,.int .i64 0,.int .i64 0,.int .i64 0,.int .i64 0,.int .i64 0,.int .i64 0,.int .i64 0,.int .i64 0,.int .i64 0,.int .i64 0,.int .i64 0,.int .i64 0,.int .i64 0,.int .i64 0,.int .i64 0,.int .i64 0,.int .i64 0,.int .i64 0,.int .i64 0,.int .i64 0] 28)).heap[w.heap.size]? = some (.cells #[.int .i64 wk,.int .i64 cp,.int .i64 pg,.int .i64 st,.int .i64 tr,.int .i64 wt,.int .i64 ck,.int .i64 pr,.int .i64 ca,.int .i64 bi,.int .i64 ba] 23 (0,0))) := ((More.refl _).alloc _).block HC0.out
 have HB : Hid (((w.alloc (.cells #[.int .i64 wk,.int .i64 cp,.int .i64 pg,.int .i64 st,.int .i64 tr,.int .i64 wt,.int .i64 ck,.int .i64 pr,.int .i64 ca,.int .i64 bi,.int .i64 ba] 23)).alloc (.cells #[.int .i64 0,.int .i64 0,.int .i64 0,.int .i64 0,.int .i64 0,.int .i64 0,.int .i64 0,.int .i64 0,.int .i64 0,.int .i64 0,.int .i64 0,.int .i64 0,.int .i64 0,.int .i64 0,.int .i64 0,.int .i64 0,.int .i64 0,.int .i64 0,.int .i64 0,.int .i64 0,.int .i64 0,.int .i64 0,.int .i64 0,.int .i64 0] 28)).heap[w.heap.size + 1]? = some (.cells #[.int .i64 0,.int .i64 0,.int .i64 0,.int .i64 0,.int .i64 0,.int .i64 0,.int .i64 0,.int .i64 0,.int .i64 0,.int .i64 0,.int .i64 0,.int .i64 0,.int .i64 0,.int .i64 0,.int .i64 0,.int .i64 0,.int .i64 0,.int .i64 0,.int .i64 0,.int .i64 0,.int .i64 0,.int .i64 0,.int .i64 0,.int .i64 0] 28 (0,0))) := by
   have := row_new (w.alloc (.cells #[.int .i64 wk,.int .i64 cp,.int .i64 pg,.int .i64 st,.int .i64 tr,.int .i64 wt,.int .i64 ck,.int .i64 pr,.int .i64 ca,.int .i64 bi,.int .i64 ba] 23)) #[.int .i64 0,.int .i64 0,.int .i64 0,.int .i64 0,.int .i64 0,.int .i64 0,.int .i64 0,.int .i64 0,.int .i64 0,.int .i64 0,.int .i64 0,.int .i64 0,.int .i64 0,.int .i64 0,.int .i64 0,.int .i64 0,.int .i64 0,.int .i64 0,.int .i64 0,.int .i64 0,.int .i64 0,.int .i64 0,.int .i64 0,.int .i64 0] 28
   rwa [World.size_alloc] at this
 have HM : Hid (More w ((w.alloc (.cells #[.int .i64 wk,.int .i64 cp,.int .i64 pg,.int .i64 st,.int .i64 tr,.int .i64 wt,.int .i64 ck,.int .i64 pr,.int .i64 ca,.int .i64 bi,.int .i64 ba] 23)).alloc (.cells #[.int .i64 0,.int .i64 0,.int .i64 0,.int .i64 0,.int .i64 0,.int .i64 0,.int .i64 0,.int .i64 0,.int .i64 0,.int .i64 0,.int .i64 0,.int .i64 0,.int .i64 0,.int .i64 0,.int .i64 0,.int .i64 0,.int .i64 0,.int .i64 0,.int .i64 0,.int .i64 0,.int .i64 0,.int .i64 0,.int .i64 0,.int .i64 0] 28))) := ((More.refl w).alloc _).alloc _
 have HK := hQQ (fun W => lcheck wk cp pg st tr wt ck pr ca bi ba W)
 rw [if_pos (rightB_ok _ _ _ _ _ _ _ _ _ _ _ R)] at HK
 have HL := hQQ (fun W => llengths wk cp pg st tr wt ck pr ca bi ba W R)
 have HRR := hQQ R
 have HS := hQQ (cut_none wk cp pg st tr wt ck pr ca bi ba (startsV cp pg st ca bi))
 have Hlen : Hid (((w.alloc (.cells #[.int .i64 wk,.int .i64 cp,.int .i64 pg,.int .i64 st,.int .i64 tr,.int .i64 wt,.int .i64 ck,.int .i64 pr,.int .i64 ca,.int .i64 bi,.int .i64 ba] 23)).alloc (.cells #[.int .i64 0,.int .i64 0,.int .i64 0,.int .i64 0,.int .i64 0,.int .i64 0,.int .i64 0,.int .i64 0,.int .i64 0,.int .i64 0,.int .i64 0,.int .i64 0,.int .i64 0,.int .i64 0,.int .i64 0,.int .i64 0,.int .i64 0,.int .i64 0,.int .i64 0,.int .i64 0,.int .i64 0,.int .i64 0,.int .i64 0,.int .i64 0] 28)).heap.size = w.heap.size + 1 + 1) := by rw [World.size_alloc,World.size_alloc]; exact rfl
 clear R
 go_enter Tryz.func19,Tryz.ntmps19
 go_wp2_with (refine wpList_load_row rfl 23 _ rfl _ rfl 23 _ _ _ (HC.out) Tryz.underlying23 rfl (by kernel_rfl) ?_)
 refine (HK.out _).mono ?_
 rintro e w1 ⟨rfl,h1⟩
 have H1 := hQQ h1
 have HC1 := hQQ (h1.block HC.out)
 have HB1 := hQQ (h1.block HB.out)
 have HM1 := hQQ (HM.out.trans h1)
 have hs1 := h1.size
 have hs1 : w.heap.size + 2 ≤ w1.heap.size := by have := Hlen.out; omega
 have Hs1 := hQQ hs1
 clear h1
 have HC1b : Hid (((w1.alloc (.cells #[.int .i64 0,.int .i64 0,.int .i64 0,.int .i64 0,.int .i64 0,.int .i64 0,.int .i64 0,.int .i64 0,.int .i64 0,.int .i64 0,.int .i64 0,.int .i64 0,.int .i64 0,.int .i64 0,.int .i64 0,.int .i64 0,.int .i64 0,.int .i64 0,.int .i64 0,.int .i64 0,.int .i64 0,.int .i64 0,.int .i64 0,.int .i64 0] 28)).setRow w1.heap.size #[.int .i64 wk,.int .i64 cp,.int .i64 pg,.int .i64 st,.int .i64 tr,.int .i64 wt,.int .i64 ck,.int .i64 pr,.int .i64 ca,.int .i64 bi,.int .i64 ba,.int .i64 0,.int .i64 0,.int .i64 0,.int .i64 0,.int .i64 0,.int .i64 0,.int .i64 0,.int .i64 0,.int .i64 0,.int .i64 0,.int .i64 0,.int .i64 0,.int .i64 0]).heap[w.heap.size]? = some (.cells #[.int .i64 wk,.int .i64 cp,.int .i64 pg,.int .i64 st,.int .i64 tr,.int .i64 wt,.int .i64 ck,.int .i64 pr,.int .i64 ca,.int .i64 bi,.int .i64 ba] 23 (0,0))) := by
   rw [setRow_other _ _ _ _ (by omega)]; exact ((More.refl _).alloc _).block HC1.out
 clear hs1
 go_wp2_with (first
   | (refine wpList_load_row rfl 23 _ rfl _ rfl 23 _ _ _ (HC1.out) Tryz.underlying23 rfl (by kernel_rfl) ?_)
   | (refine wpList_store_row rfl 28 _ _ rfl _ _ rfl rfl 28 _ (row_new w1 #[.int .i64 0,.int .i64 0,.int .i64 0,.int .i64 0,.int .i64 0,.int .i64 0,.int .i64 0,.int .i64 0,.int .i64 0,.int .i64 0,.int .i64 0,.int .i64 0,.int .i64 0,.int .i64 0,.int .i64 0,.int .i64 0,.int .i64 0,.int .i64 0,.int .i64 0,.int .i64 0,.int .i64 0,.int .i64 0,.int .i64 0,.int .i64 0] 28) (by kernel_rfl) rfl (by simp [Value.oneCell']) ?_)
   | (refine wpList_load_row rfl 23 _ rfl _ rfl 23 _ _ _ (HC1b.out) Tryz.underlying23 rfl (by kernel_rfl) ?_))
 have HMA : Hid (More w ((w1.alloc (.cells #[.int .i64 0,.int .i64 0,.int .i64 0,.int .i64 0,.int .i64 0,.int .i64 0,.int .i64 0,.int .i64 0,.int .i64 0,.int .i64 0,.int .i64 0,.int .i64 0,.int .i64 0,.int .i64 0,.int .i64 0,.int .i64 0,.int .i64 0,.int .i64 0,.int .i64 0,.int .i64 0,.int .i64 0,.int .i64 0,.int .i64 0,.int .i64 0] 28)).setRow w1.heap.size #[.int .i64 wk,.int .i64 cp,.int .i64 pg,.int .i64 st,.int .i64 tr,.int .i64 wt,.int .i64 ck,.int .i64 pr,.int .i64 ca,.int .i64 bi,.int .i64 ba,.int .i64 0,.int .i64 0,.int .i64 0,.int .i64 0,.int .i64 0,.int .i64 0,.int .i64 0,.int .i64 0,.int .i64 0,.int .i64 0,.int .i64 0,.int .i64 0,.int .i64 0])) := (HM1.out.alloc _).setRow _ _ (by have := Hs1.out; omega)
 have HBA : Hid (((w1.alloc (.cells #[.int .i64 0,.int .i64 0,.int .i64 0,.int .i64 0,.int .i64 0,.int .i64 0,.int .i64 0,.int .i64 0,.int .i64 0,.int .i64 0,.int .i64 0,.int .i64 0,.int .i64 0,.int .i64 0,.int .i64 0,.int .i64 0,.int .i64 0,.int .i64 0,.int .i64 0,.int .i64 0,.int .i64 0,.int .i64 0,.int .i64 0,.int .i64 0] 28)).setRow w1.heap.size #[.int .i64 wk,.int .i64 cp,.int .i64 pg,.int .i64 st,.int .i64 tr,.int .i64 wt,.int .i64 ck,.int .i64 pr,.int .i64 ca,.int .i64 bi,.int .i64 ba,.int .i64 0,.int .i64 0,.int .i64 0,.int .i64 0,.int .i64 0,.int .i64 0,.int .i64 0,.int .i64 0,.int .i64 0,.int .i64 0,.int .i64 0,.int .i64 0,.int .i64 0]).heap[w1.heap.size]? = some (.cells (layArr wk cp pg st tr wt ck pr ca bi ba (cutS (startsV cp pg st ca bi) 0)) 28 (0,0))) := setRow_heap _ _ _ _ _ _ (row_new w1 #[.int .i64 0,.int .i64 0,.int .i64 0,.int .i64 0,.int .i64 0,.int .i64 0,.int .i64 0,.int .i64 0,.int .i64 0,.int .i64 0,.int .i64 0,.int .i64 0,.int .i64 0,.int .i64 0,.int .i64 0,.int .i64 0,.int .i64 0,.int .i64 0,.int .i64 0,.int .i64 0,.int .i64 0,.int .i64 0,.int .i64 0,.int .i64 0] 28)
 have HRA : Hid (((w1.alloc (.cells #[.int .i64 0,.int .i64 0,.int .i64 0,.int .i64 0,.int .i64 0,.int .i64 0,.int .i64 0,.int .i64 0,.int .i64 0,.int .i64 0,.int .i64 0,.int .i64 0,.int .i64 0,.int .i64 0,.int .i64 0,.int .i64 0,.int .i64 0,.int .i64 0,.int .i64 0,.int .i64 0,.int .i64 0,.int .i64 0,.int .i64 0,.int .i64 0] 28)).setRow w1.heap.size #[.int .i64 wk,.int .i64 cp,.int .i64 pg,.int .i64 st,.int .i64 tr,.int .i64 wt,.int .i64 ck,.int .i64 pr,.int .i64 ca,.int .i64 bi,.int .i64 ba,.int .i64 0,.int .i64 0,.int .i64 0,.int .i64 0,.int .i64 0,.int .i64 0,.int .i64 0,.int .i64 0,.int .i64 0,.int .i64 0,.int .i64 0,.int .i64 0,.int .i64 0]).heap[w.heap.size + 1]? = some (.cells #[.int .i64 0,.int .i64 0,.int .i64 0,.int .i64 0,.int .i64 0,.int .i64 0,.int .i64 0,.int .i64 0,.int .i64 0,.int .i64 0,.int .i64 0,.int .i64 0,.int .i64 0,.int .i64 0,.int .i64 0,.int .i64 0,.int .i64 0,.int .i64 0,.int .i64 0,.int .i64 0,.int .i64 0,.int .i64 0,.int .i64 0,.int .i64 0] 28 (0,0))) := by
   rw [setRow_other _ _ _ _ (by have := Hs1.out; omega)]; exact ((More.refl _).alloc _).block HB1.out
 refine (HL.out _).mono ?_
 rintro e w2 ⟨rfl,h2⟩
 have HM2 := hQQ (HMA.out.trans h2)
 have HB2 := hQQ (h2.block HBA.out)
 have HR2 := hQQ (h2.block HRA.out)
 clear h2
 clear HC0 HC HB HM HK HL HS Hlen H1 HC1 HB1 HC1b HMA HBA HRA HM1
 go_wp2_with fail
 go_loopw [6,7,8,19] (fun nx _ _ i wr => ∃ k : Nat,k ≤ 12 ∧ i = .int .i64 k ∧ nx = .int .i64 (nextV cp pg st ca bi k) ∧ wr.heap[w1.heap.size]? = some (.cells (layArr wk cp pg st tr wt ck pr ca bi ba (cutS (startsV cp pg st ca bi) k)) 28 (0,0)) ∧ wr.heap[w.heap.size + 1]? = some (.cells #[.int .i64 0,.int .i64 0,.int .i64 0,.int .i64 0,.int .i64 0,.int .i64 0,.int .i64 0,.int .i64 0,.int .i64 0,.int .i64 0,.int .i64 0,.int .i64 0,.int .i64 0,.int .i64 0,.int .i64 0,.int .i64 0,.int .i64 0,.int .i64 0,.int .i64 0,.int .i64 0,.int .i64 0,.int .i64 0,.int .i64 0,.int .i64 0] 28 (0,0)) ∧ More w wr) (fun _ _ _ i _ => 12 - (intOf i).toNat)
 case atStart => exact ⟨0,by omega,rfl,rfl,HB2.out,HR2.out,HM2.out⟩
 case round =>
   clear HB2 HR2 HM2
   obtain ⟨k,hk,rfl,rfl,hb,hr,hm⟩ := hrel
   have nb := next_b HRR.out hk
   have sb := starts_b HRR.out hk
   have xc : wr.cell? ⟨w1.heap.size,11 + k,none⟩ = some (.int .i64 (cutS (startsV cp pg st ca bi) k k)) := by rw [cell_of_row _ _ _ _ _ _ hb]; exact layArr_start wk cp pg st tr wt ck pr ca bi ba _ k hk
   have xf : wr.frozen? ⟨w1.heap.size,11 + k,none⟩ = false := by simp [World.frozen?,hb]
   have HE := hQQ (setCell_eq_setRow wr w1.heap.size (11 + k) _ 28 (0,0) (.int .i64 (startsV cp pg st ca bi k)) hb)
   have HN := hQQ (setRow_heap wr w1.heap.size _ ((layArr wk cp pg st tr wt ck pr ca bi ba (cutS (startsV cp pg st ca bi) k)).setIfInBounds (11 + k) (.int .i64 (startsV cp pg st ca bi k))) 28 (0,0) hb)
   rw [cut_set wk cp pg st tr wt ck pr ca bi ba hk] at HE HN
   have HO : Hid ((wr.setRow w1.heap.size (layArr wk cp pg st tr wt ck pr ca bi ba (cutS (startsV cp pg st ca bi) (k + 1)))).heap[w.heap.size + 1]? = some (.cells #[.int .i64 0,.int .i64 0,.int .i64 0,.int .i64 0,.int .i64 0,.int .i64 0,.int .i64 0,.int .i64 0,.int .i64 0,.int .i64 0,.int .i64 0,.int .i64 0,.int .i64 0,.int .i64 0,.int .i64 0,.int .i64 0,.int .i64 0,.int .i64 0,.int .i64 0,.int .i64 0,.int .i64 0,.int .i64 0,.int .i64 0,.int .i64 0] 28 (0,0))) := by
     rw [setRow_other _ _ _ _ (by have := Hs1.out; omega)]; exact hr
   have HP : Hid (More w (wr.setRow w1.heap.size (layArr wk cp pg st tr wt ck pr ca bi ba (cutS (startsV cp pg st ca bi) (k + 1))))) := hm.setRow _ _ (by have := Hs1.out; omega)
   clear hb hr hm
   by_cases hlt : k < 12
   · have d0 : decide ((k : Int) < 12) = true := by simp; omega
     have hl : ∀ W,(Instr.index 78 (.agg (lensArr cp pg st ca bi)) (.int .i64 k)).run Tryz.prog W = .ok (.int .i64 (lensV cp pg st ca bi k)) W := fun W => run_index_row W Tryz.underlying78 Tryz.underlying3 (by kernel_rfl) hlt (lensArr_at cp pg st ca bi hlt)
     have HQ := hQQ (next_step cp pg st ca bi hlt)
     have nb2 := next_b HRR.out (show k + 1 ≤ 12 by omega)
     have q0 : IntKind.i64.wrap (startsV cp pg st ca bi k + lensV cp pg st ca bi k) = nextV cp pg st ca bi (k + 1) := by rw [HQ.out]; exact wrap_in (by omega) (by omega)
     have r0 : (0 : Int) ≤ (k : Int) := by omega
     have r1 : (k : Int) < 13 := by omega
     by_cases h11 : k = 11
     · have d1 : decide ((k : Int) = 11) = true := by simp; omega
       have HU : Hid ((nextV cp pg st ca bi k + 127) / 128 * 128 = startsV cp pg st ca bi k) := by subst h11; exact user_of_next cp pg st ca bi
       have d2 : ((k : Int) == 11) = true := by simp; omega
       have d3 : decide (k = 11) = true := by simp; omega
       clear h11
       go_wp2_with fail
       refine (laligned _ nb.1 (by omega) _).mono ?_
       rw [HU.out]
       rintro e w3 ⟨rfl,rfl⟩
       go_wp2_with fail
       rw [HE.out]
       go_roundw
       case rel => exact ⟨k + 1,by omega,by go_num,rfl,HN.out,HO.out,HP.out⟩
       case measure => simp [intOf]; omega
     · have d1 : decide ((k : Int) = 11) = false := by simp; omega
       rw [← start_of_next cp pg st ca bi (by omega : k < 11)]
       go_wp2_with fail
       rw [HE.out]
       go_roundw
       case rel => exact ⟨k + 1,by omega,by go_num,rfl,HN.out,HO.out,HP.out⟩
       case measure => simp [intOf]; omega
   · have he : k = 12 := by omega
     subst he
     rw [show nextV cp pg st ca bi 12 = startsV cp pg st ca bi 12 from rfl]
     go_wp2_with (first
       | (refine wpList_load_row rfl 28 _ rfl _ rfl 28 _ _ _ (HN.out) Tryz.underlying28 rfl (by kernel_rfl) ?_)
       | (rw [HE.out]; refine wpList_load_row rfl 28 _ rfl _ rfl 28 _ _ _ (HN.out) Tryz.underlying28 rfl (by kernel_rfl) ?_)
       | (refine wpList_store_row rfl 28 _ _ rfl _ _ rfl rfl 28 _ HO.out (by kernel_rfl) rfl (layArr_one ..) ?_))
     have HF := hQQ (setRow_heap _ (w.heap.size + 1) _ (layArr wk cp pg st tr wt ck pr ca bi ba (startsV cp pg st ca bi)) _ _ HO.out)
     have HG : Hid (More w ((wr.setRow w1.heap.size (layArr wk cp pg st tr wt ck pr ca bi ba (startsV cp pg st ca bi))).setRow (w.heap.size + 1) (layArr wk cp pg st tr wt ck pr ca bi ba (startsV cp pg st ca bi)))) := HP.out.setRow _ _ (by omega)
     refine bodyPost_ret (v:=.tuple #[.agg (layArr wk cp pg st tr wt ck pr ca bi ba (startsV cp pg st ca bi)),.int .i64 0]) (results_row2 Tryz.results19 _ _ _ 28 _ (0,0) _ rfl HF.out Tryz.underlying28 rfl (by kernel_rfl)) rfl ⟨rfl,HG.out⟩
end Go.Proofs.YtmafllcmkhgidaaGreatDoor
