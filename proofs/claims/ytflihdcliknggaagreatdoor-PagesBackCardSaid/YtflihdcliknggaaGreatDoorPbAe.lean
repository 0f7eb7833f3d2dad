/-
  Small programs over words, step by step, as plain functions: what a run needs, or writes; and what they do over words.
-/
import Derived.Test.YtflihdcliknggaaGreatDoorPbAd
import Derived.Maps.OwnSet
import Derived.WalkArith
import Derived.LaidEqlPtr
import Derived.Outline
import Derived.WalkSmall
import Derived.WalkLawsBesides
import Derived.StillTailTactics
import Derived.Test.YtflihdcliknggaaGreatDoorChecked
import Derived.Deep.AppendLies
import Derived.WalkSpells
import Derived.Handy
import Derived.Deep.DeepMust
import Derived.Recover
import Derived.RangeFuncBox
import Derived.RangeFuncLeaves
import Derived.RangeFuncCalls
import Derived.Shelf.Abstract
import Derived.OwnWalkIn
import Derived.TacticsInMore
import Derived.LoopNIn
import Derived.LoopIn
import Derived.Carry
import Derived.RangeFuncNested
import Derived.Maps.OwnIn
set_option maxRecDepth 100000
set_option maxHeartbeats 8000000
set_option linter.unusedVariables false
set_option linter.unusedSimpArgs false
set_option linter.unusedSectionVars false
namespace Go.Proofs.YtflihdcliknggaaGreatDoor
def W64 (x : Int) : Prop := -9223372036854775808 ≤ x ∧ x ≤ 9223372036854775807
abbrev Ins3 := Int × Int × Int
inductive Ran where
 | need (a : Int)
 | done (D : List KV)
def wordV (kn : Int → Option Int) (D : List KV) (a : Int) : Option Int :=
 if a < 0 then some 0 else (look D a).or (kn a)
def writeV (D : List KV) (a x : Int) : List KV := if a < 0 then D else putD D a x
def runP (kn : Int → Option Int) : List Ins3 → Bool → Int → List KV → Ran
 | [],_,_,D => .done D
 | _ :: r,true,x,D => runP kn r false x D
 | (k,a,b) :: r,false,x,D =>
   if k = 0 then (match wordV kn D a with | none => .need a | some y => runP kn r false y D)
   else if k = 1 then runP kn r false x (writeV D a b)
   else if k = 2 then runP kn r false x (writeV D a x)
   else if k = 3 then (match wordV kn D x with | none => .need x | some y => runP kn r false y D)
   else if k = 4 then runP kn r (decide (x = b)) x D
   else runP kn r false x D
def OkP (l : List Ins3) : Prop := ∀ i ∈ l,W64 i.2.1 ∧ W64 i.2.2
def OkK (kn : Int → Option Int) : Prop := ∀ a v,kn a = some v → W64 v
def OkD (D : List KV) : Prop := ∀ p ∈ D,0 ≤ p.1 ∧ W64 p.1 ∧ W64 p.2
theorem okD_nil : OkD [] := fun p h => by cases h
theorem mem_putD {D : List KV} {k v : Int} {p : KV} (h : p ∈ putD D k v) : p = (k,v) ∨ p ∈ D := by
 unfold putD less more at h
 rw [List.mem_append,List.mem_cons] at h
 rcases h with h | h | h
 · exact .inr (List.mem_filter.1 h).1
 · exact .inl h
 · exact .inr (List.mem_filter.1 h).1
theorem okD_write {D : List KV} (h : OkD D) {a x : Int} (ha : W64 a) (hx : W64 x) : OkD (writeV D a x) := by
 unfold writeV
 split
 · exact h
 · intro p hp
   rcases mem_putD hp with rfl | hp
   · exact ⟨by simp; omega,ha,hx⟩
   · exact h p hp
theorem asc_write {D : List KV} (h : Asc D) (a x : Int) : Asc (writeV D a x) := by
 unfold writeV
 split
 · exact h
 · exact asc_putD h a x
theorem word_ok {kn : Int → Option Int} (hk : OkK kn) {D : List KV} (hD : OkD D) {a y : Int} (h : wordV kn D a = some y) : W64 y := by
 unfold wordV at h
 split at h
 · cases h; unfold W64; omega
 · cases e : look D a with
   | none => rw [e] at h; exact hk a y (by simpa using h)
   | some v =>
     rw [e] at h
     have : v = y := by simpa using h
     subst this
     exact (hD _ (look_mem e)).2.2
theorem word_none {kn : Int → Option Int} {D : List KV} {a : Int} (h : wordV kn D a = none) : 0 ≤ a ∧ look D a = none ∧ kn a = none := by
 unfold wordV at h
 split at h
 · cases h
 · cases e : look D a with
   | none => rw [e] at h; exact ⟨by omega,rfl,by simpa using h⟩
   | some v => rw [e] at h; simp at h
def Fine (kn : Int → Option Int) (n : Nat) : Ran → Prop
 | .need a => 0 ≤ a ∧ W64 a ∧ kn a = none
 | .done D => OkD D ∧ Asc D ∧ D.length ≤ n
section
variable {kn : Int → Option Int} {l : List Ins3} {i : Nat} {k a b x y : Int} {D : List KV} {R : Ran}
end
end Go.Proofs.YtflihdcliknggaaGreatDoor
namespace Go.Proofs.YtflihdcliknggaaGreatDoor
open Go.RowKit Go.Sort Go.Maps
theorem wf_of {x : Int} (h : W64 x) : (Lit.int .i64 x).wf = true := WalkArith.wf_i64 h
theorem of_wf {x : Int} (h : (Lit.int .i64 x).wf = true) : W64 x := by
 simp only [Lit.wf,Bool.and_eq_true,decide_eq_true_eq] at h
 exact ⟨h.1,h.2⟩
theorem law_int : Keyed Tryz.prog 3 := int_keyed Tryz.underlying3
theorem zero_int (w : World) : (zeroValue 3).run Tryz.prog w = .ok (.int .i64 0) w := by kernel_rfl
theorem key_int {x : Int} (h : W64 x) : keyOf Tryz.prog 3 (.int .i64 x) = some (.int .i64 x) := keyOf_int_mk Tryz.underlying3 (wf_of h)
def KnownAt (w : World) (M n : Nat) (kn : Int → Option Int) : Prop :=
 ∃ D : DataW Unit,w.ownsMap Tryz.prog 3 (plainElem Tryz.prog 3) M n D ∧ ∀ x,W64 x → Maps.has D (.int .i64 x) = (kn x).isSome ∧ D.atKey (.int .i64 x) (.lit (.int .i64 0)) = .lit (.int .i64 ((kn x).getD 0))
namespace KnownAt
variable {w w' : World} {M n : Nat} {kn : Int → Option Int}
theorem lt (h : KnownAt w M n kn) : M < w.heap.size := by obtain ⟨D,hD,_⟩ := h; exact hD.lt
theorem keep (h : KnownAt w M n kn) {S : Nat → Prop} (t : Turned S w w') (hs : ¬ S M) : KnownAt w' M n kn := by
 obtain ⟨D,⟨es,clock,hb,F⟩,hk⟩ := h
 exact ⟨D,⟨es,clock,(Turned.block t M (lt_of_heap hb) hs).trans hb,F⟩,hk⟩
theorem more (h : KnownAt w M n kn) (t : More w w') : KnownAt w' M n kn := h.keep t (fun q => q)
theorem look (h : KnownAt w M n kn) {a : Int} (ha : W64 a) : (Instr.lookup 70 (.map (some M)) (.int .i64 a) true).run Tryz.prog w = .ok (.tuple #[.int .i64 ((kn a).getD 0),.bool (kn a).isSome]) w := by
 obtain ⟨D,hD,hk⟩ := h
 obtain ⟨v,ps,hr,hv⟩ := hD.look_ok law_int Tryz.underlying70 (zero_int w) (plainElem_int Tryz.underlying3 (by decide)) (key_int ha)
 obtain ⟨c,rfl,hc,_⟩ := plainElem_int_inv Tryz.underlying3 hv
 obtain ⟨h1,h2⟩ := hk a ha
 rw [h1] at hr
 rw [h2] at hc
 simp only [Prod.mk.injEq,DataW.lit.injEq,Lit.int.injEq,true_and] at hc
 rw [hr,← hc.1]
theorem made (w : World) : KnownAt (w.alloc (.map #[] 0)) w.heap.size 0 (fun _ => none) :=
 ⟨.map [],World.ownsMap_made _ _ _ _,fun x _ => ⟨rfl,rfl⟩⟩
theorem store (h : KnownAt w M n kn) {a x : Int} (ha : W64 a) (hx : W64 x) (hn : n < maxLen) :
   ∃ w',(Instr.mapUpdate 70 (.map (some M)) (.int .i64 a) (.int .i64 x)).run Tryz.prog w = .ok () w' ∧ KnownAt w' M (n + 1) (fun y => if y = a then some x else kn y) ∧ Turned (fun k => k = M) w w' := by
 obtain ⟨D,hD,hk⟩ := h
 obtain ⟨w',hr,h1,h2⟩ := hD.update law_int Tryz.underlying70 hn (key_int ha) (plainElem_int Tryz.underlying3 (wf_of hx))
 refine ⟨w',hr,⟨_,h1,fun y hy => ?_⟩,⟨h2.os,h2.tape,h2.output,h2.size,fun k hk hne => h2.block k hk (fun e => hne (Option.some.inj e))⟩⟩
 by_cases e : y = a
 · subst e
   dsimp only
   rw [if_pos rfl]
   refine ⟨has_put_same hD.isMap ?_ _,atKey_put_same hD.isMap ?_ _ _⟩ <;> exact law_int.key (key_int ha)
 · have hne : (Lit.int .i64 y) ≠ Lit.int .i64 a := fun q => e (by simpa using q)
   dsimp only
   rw [if_neg e,has_put_other hne,atKey_put_other hne]
   exact hk y hy
end KnownAt
def viewCells (self : Option Addr) (M q : Nat) (need : Int) : Array Value := #[.pointer self,.map (some M),.pointer (some ⟨q,0,none⟩),.int .i64 need]
structure ViewAt (w : World) (F : Nat → Prop) (p : Nat) (kn : Int → Option Int) (D : List KV) : Prop where
 ex : ∃ M q n F0,w.heap[p]? = some (.cells (viewCells (some ⟨p,0,none⟩) M q (-1)) 95 (0,0)) ∧ KnownAt w M n kn ∧ MapAt w F0 q D ∧ F p ∧ (∀ k,F0 k → F k ∧ k ≠ p) ∧ ¬ F M
 lt : ∀ k,F k → k < w.heap.size
def DeadAt (w : World) (p : Nat) (need : Int) : Prop := ∃ M q,w.heap[p]? = some (.cells (viewCells none M q need) 95 (0,0))
theorem ViewAt.keep {w w' : World} {F S : Nat → Prop} {p : Nat} {kn : Int → Option Int} {D : List KV} (h : ViewAt w F p kn D) (ht : Turned S w w') (hs : ∀ k,F k → ¬ S k) (hM : ∀ k,S k → F k ∨ False) : ViewAt w' F p kn D := by
 obtain ⟨M,q,n,F0,hp,hk,hm,fp,f0,fM⟩ := h.ex
 refine ⟨⟨M,q,n,F0,by rw [Turned.block ht p (lt_of_heap hp) (hs p fp)]; exact hp,hk.keep ht (fun q => ?_),hm.keep ht (fun k q => hs k (f0 k q).1),fp,f0,fM⟩,fun k hk => Nat.lt_of_lt_of_le (h.lt k hk) ht.size⟩
 rcases hM M q with r | r
 · exact fM r
 · exact r
theorem ViewAt.more {w w' : World} {F : Nat → Prop} {p : Nat} {kn : Int → Option Int} {D : List KV} (h : ViewAt w F p kn D) (ht : More w w') : ViewAt w' F p kn D := h.keep ht (fun _ _ q => q) (fun _ q => .inr q)
theorem DeadAt.keep {w w' : World} {S : Nat → Prop} {p : Nat} {a : Int} (h : DeadAt w p a) (ht : Turned S w w') (hs : ¬ S p) : DeadAt w' p a := by
 obtain ⟨M,q,hp⟩ := h
 exact ⟨M,q,by rw [Turned.block ht p (lt_of_heap hp) hs]; exact hp⟩
def endOf (p : Nat) : List PanicEntry := [{ v := .iface 97 (.agg #[.pointer (some ⟨p,0,none⟩)]),recovered := false }]
theorem view_cells {w : World} {p M q : Nat} {self : Option Addr} {need : Int} (h : w.heap[p]? = some (.cells (viewCells self M q need) 95 (0,0))) :
   w.cell? ⟨p,0,none⟩ = some (.pointer self) ∧ w.cell? ⟨p,1,none⟩ = some (.map (some M)) ∧ w.cell? ⟨p,2,none⟩ = some (.pointer (some ⟨q,0,none⟩)) ∧ w.cell? ⟨p,3,none⟩ = some (.int .i64 need) ∧ (∀ j,w.frozen? ⟨p,j,none⟩ = false) ∧ p < w.heap.size :=
 ⟨by simp [World.cell?,h,viewCells],by simp [World.cell?,h,viewCells],by simp [World.cell?,h,viewCells],by simp [World.cell?,h,viewCells],fun j => by simp [World.frozen?,h],lt_of_heap h⟩
theorem info_view : ∃ j,Tryz.prog.info? 95 = some j := by
 have h : (Tryz.prog.info? 95).isSome = true := by kernel_rfl
 exact Option.isSome_iff_exists.1 h
theorem eql_view (p : Addr) (w : World) : Sem.run Tryz.prog (binOp BinOp.eql 44 (.pointer (some p)) (.pointer (some p))) w = .ok (.bool true) w := by
 obtain ⟨j,hj⟩ := info_view
 exact run_eql_ptr_same w p Tryz.underlying44 hj
theorem run_equalIn_none {P : Program} (w : World) (d : Nat) (t : TypeId) {e : TypeId} (h : P.underlying t = some (.pointer e)) (p : Addr) : (Op.equalIn (d + 1) t (.pointer none) (.pointer (some p))).run P w = .ok false w := by
 simp [Op.equalIn,run_underlying h]
theorem eql_none (p : Addr) (w : World) : Sem.run Tryz.prog (binOp BinOp.eql 44 (.pointer none) (.pointer (some p))) w = .ok (.bool false) w := by
 have h : Sem.run Tryz.prog (Op.equal 44 (.pointer none) (.pointer (some p))) w = .ok false w := run_equalIn_none w 9999 _ Tryz.underlying44 p
 simp only [binOp]
 simp [h]
theorem neq_view (p : Addr) (w : World) : Sem.run Tryz.prog (binOp BinOp.neq 44 (.pointer (some p)) (.pointer (some p))) w = .ok (.bool false) w := by
 obtain ⟨j,hj⟩ := info_view
 have h : Sem.run Tryz.prog (Op.equal 44 (.pointer (some p)) (.pointer (some p))) w = .ok true w := by
   have := run_eql_ptr_same (P:=Tryz.prog) w p Tryz.underlying44 hj
   simp only [binOp] at this
   cases e : Sem.run Tryz.prog (Op.equal 44 (.pointer (some p)) (.pointer (some p))) w <;> rw [Sem.run_bind,e] at this <;> simp [Result.andThen] at this
   obtain ⟨rfl,rfl⟩ := this
   rfl
 simp only [binOp]
 simp [h]
theorem stands_yes (p : Nat) (w : World) (h : w.cell? ⟨p,0,none⟩ = some (.pointer (some ⟨p,0,none⟩))) : Calls Tryz.prog 138 #[.pointer (some ⟨p,0,none⟩)] w fun e w' => e = .returned (.bool true) ∧ w' = w := by
 have hq := fun w => eql_view ⟨p,0,none⟩ w
 go_enter Tryz.func138,Tryz.ntmps138
 go_wp2_with fail
 go_ret
 exact ⟨rfl,rfl⟩
theorem stands_no (p : Nat) (w : World) (h : w.cell? ⟨p,0,none⟩ = some (.pointer none)) : Calls Tryz.prog 138 #[.pointer (some ⟨p,0,none⟩)] w fun e w' => e = .returned (.bool false) ∧ w' = w := by
 have hq := fun w => eql_none ⟨p,0,none⟩ w
 go_enter Tryz.func138,Tryz.ntmps138
 go_wp2_with fail
 go_ret
 exact ⟨rfl,rfl⟩
theorem read_low (F : Nat → Prop) (p : Nat) (kn : Int → Option Int) (D : List KV) (a : Int) (w : World) (h : ViewAt w F p kn D) (ha : a < 0) :
   Calls Tryz.prog 97 #[.pointer (some ⟨p,0,none⟩),.int .i64 a] w fun e w' => e = .returned (.int .i64 0) ∧ ∃ n,w' = w.drewN n := by
 obtain ⟨M,q,n,F0,hp,hk,hm,_⟩ := h.ex
 obtain ⟨c0,_⟩ := view_cells hp
 have S := hQQ (stands_yes p w c0)
 have d : decide (a < 0) = true := by simp; omega
 have E : ∃ n,w = w.drewN n := ⟨0,rfl⟩
 clear h hp hk hm c0 ha
 go_enter Tryz.func97,Tryz.ntmps97
 go_wp2_with (go_at_call 138; refine S.out.mono ?_; rintro e w' ⟨rfl,rfl⟩)
 go_ret
 exact ⟨rfl,0,rfl⟩
theorem read_wrote (F : Nat → Prop) (p : Nat) (kn : Int → Option Int) (D : List KV) (a y : Int) (w : World) (h : ViewAt w F p kn D) (ha : 0 ≤ a) (hy : look D a = some y) :
   Calls Tryz.prog 97 #[.pointer (some ⟨p,0,none⟩),.int .i64 a] w fun e w' => e = .returned (.int .i64 y) ∧ ∃ n,w' = w.drewN n := by
 obtain ⟨M,q,n,F0,hp,hk,hm,_⟩ := h.ex
 obtain ⟨c0,c1,c2,c3,_,hl⟩ := view_cells hp
 have S := hQQ (stands_yes p w c0)
 have G := get_ok F0 q D a w hm
 rw [hy] at G
 have G := hQQ G
 have d : decide (a < 0) = false := by simp; omega
 clear h hp hk hm ha c0 c1 c3
 go_enter Tryz.func97,Tryz.ntmps97
 go_wp2_with (first | (go_at_call 138; refine S.out.mono ?_; rintro e w' ⟨rfl,rfl⟩) | (go_at_call 139; refine G.out.mono ?_; rintro e w' ⟨rfl,n,rfl⟩))
 go_ret
 exact ⟨rfl,n,rfl⟩
theorem read_known (F : Nat → Prop) (p : Nat) (kn : Int → Option Int) (D : List KV) (a y : Int) (w : World) (h : ViewAt w F p kn D) (ha : 0 ≤ a) (hw : W64 a) (hy : look D a = none) (hk' : kn a = some y) :
   Calls Tryz.prog 97 #[.pointer (some ⟨p,0,none⟩),.int .i64 a] w fun e w' => e = .returned (.int .i64 y) ∧ ∃ n,w' = w.drewN n := by
 obtain ⟨M,q,n,F0,hp,hk,hm,_⟩ := h.ex
 have S := hQQ (stands_yes p w (view_cells hp).1)
 have G := get_ok F0 q D a w hm
 rw [hy] at G
 have G := hQQ G
 have L : ∀ m,Sem.run Tryz.prog (Instr.lookup 70 (.map (some M)) (.int .i64 a) true) (w.drewN m) = .ok (.tuple #[.int .i64 y,.bool true]) (w.drewN m) := fun m => by
   have := (hk.more (more_drewN w m)).look hw
   rw [hk'] at this
   exact this
 have d : decide (a < 0) = false := by simp; omega
 obtain ⟨c0,c1,c2,c3,_,hl⟩ := view_cells hp
 clear h hp hk hm ha c0 c3
 go_enter Tryz.func97,Tryz.ntmps97
 go_wp2_with (first | (go_at_call 138; refine S.out.mono ?_; rintro e w' ⟨rfl,rfl⟩) | (go_at_call 139; refine G.out.mono ?_; rintro e w' ⟨rfl,n,rfl⟩))
 go_ret
 exact ⟨rfl,n,rfl⟩
theorem read_some (F : Nat → Prop) (p : Nat) (kn : Int → Option Int) (D : List KV) (a y : Int) (w : World) (h : ViewAt w F p kn D) (hw : W64 a) (hy : wordV kn D a = some y) :
   Calls Tryz.prog 97 #[.pointer (some ⟨p,0,none⟩),.int .i64 a] w fun e w' => e = .returned (.int .i64 y) ∧ ∃ n,w' = w.drewN n := by
 unfold wordV at hy
 split at hy
 · cases hy; exact read_low F p kn D a w h (by omega)
 · cases e : look D a with
   | none => rw [e] at hy; exact read_known F p kn D a y w h (by omega) hw e (by simpa using hy)
   | some v =>
     rw [e] at hy
     have : v = y := by simpa using hy
     subst this
     exact read_wrote F p kn D a v w h (by omega) e
def Ended (w : World) (F : Nat → Prop) (p : Nat) (a : Int) (e : Ending) (w' : World) : Prop := e = .panicked (endOf p) ∧ DeadAt w' p a ∧ Turned F w w'
theorem ended_of {w : World} {F : Nat → Prop} {p M q : Nat} {a : Int} {n : Nat} (hp : w.heap[p]? = some (.cells (viewCells (some ⟨p,0,none⟩) M q (-1)) 95 (0,0))) (fp : F p) :
   DeadAt (((w.drewN n).setCell ⟨p,0,none⟩ (.pointer none)).setCell ⟨p,3,none⟩ (.int .i64 a)) p a ∧ Turned F w (((w.drewN n).setCell ⟨p,0,none⟩ (.pointer none)).setCell ⟨p,3,none⟩ (.int .i64 a)) := by
 have h1 : (w.drewN n).heap[p]? = _ := hp
 have h2 := heap_setCell (o:=0) (.pointer none) h1
 have h4 := heap_setCell (o:=3) (.int .i64 a) h2
 exact ⟨⟨M,q,by rw [h4]; simp [viewCells]⟩,turned_setCell (turned_setCell ((Turned.refl F w).drewN n) (fun _ => fp) _) (fun _ => fp) _⟩
theorem read_need (F : Nat → Prop) (p : Nat) (kn : Int → Option Int) (D : List KV) (a : Int) (w : World) (h : ViewAt w F p kn D) (hw : W64 a) (hy : wordV kn D a = none) :
   Calls Tryz.prog 97 #[.pointer (some ⟨p,0,none⟩),.int .i64 a] w (Ended w F p a) := by
 obtain ⟨ha,hy,hk'⟩ := word_none hy
 obtain ⟨M,q,n,F0,hp,hk,hm,fp,_⟩ := h.ex
 have S := hQQ (stands_yes p w (view_cells hp).1)
 have G := get_ok F0 q D a w hm
 rw [hy] at G
 have G := hQQ G
 have L : ∀ m,Sem.run Tryz.prog (Instr.lookup 70 (.map (some M)) (.int .i64 a) true) (w.drewN m) = .ok (.tuple #[.int .i64 0,.bool false]) (w.drewN m) := fun m => by
   have := (hk.more (more_drewN w m)).look hw
   rw [hk'] at this
   exact this
 have d : decide (a < 0) = false := by simp; omega
 obtain ⟨c0,c1,c2,c3,hf,hl⟩ := view_cells hp
 have FIN : Hid (∀ n,DeadAt (((w.drewN n).setCell ⟨p,0,none⟩ (.pointer none)).setCell ⟨p,3,none⟩ (.int .i64 a)) p a ∧ Turned F w (((w.drewN n).setCell ⟨p,0,none⟩ (.pointer none)).setCell ⟨p,3,none⟩ (.int .i64 a))) := hQQ fun n => ended_of hp fp
 clear h hp hk hm ha
 go_enter Tryz.func97,Tryz.ntmps97
 go_wp2_with (first | (go_at_call 138; refine S.out.mono ?_; rintro e w' ⟨rfl,rfl⟩) | (go_at_call 139; refine G.out.mono ?_; rintro e w' ⟨rfl,n,rfl⟩))
 exact ⟨rfl,rfl,FIN.out n⟩
def DidView (w : World) (F : Nat → Prop) (p : Nat) (kn : Int → Option Int) (D : List KV) (v : Value) (e : Ending) (w' : World) : Prop :=
 e = .returned v ∧ ∃ F',ViewAt w' F' p kn D ∧ Turned F w w' ∧ ∀ k,F' k → F k ∨ w.heap.size ≤ k
theorem DidView.same {w w' : World} {F : Nat → Prop} {p : Nat} {kn : Int → Option Int} {D : List KV} {v : Value} (h : ViewAt w F p kn D) (t : More w w') : DidView w F p kn D v (.returned v) w' :=
 ⟨rfl,F,h.more t,Turned.mono t (fun _ _ q => q.elim),fun k hk => .inl hk⟩
theorem did_put {w w' : World} {F F0 F1 : Nat → Prop} {p M q n : Nat} {kn : Int → Option Int} {D' : List KV} {v : Value} (hp : w.heap[p]? = some (.cells (viewCells (some ⟨p,0,none⟩) M q (-1)) 95 (0,0)))
   (hk : KnownAt w M n kn) (fp : F p) (f0 : ∀ k,F0 k → F k ∧ k ≠ p) (fM : ¬ F M) (hl : ∀ k,F k → k < w.heap.size) (hm : MapAt w' F1 q D') (ht : Turned F0 w w') (h1 : ∀ k,F1 k → F0 k ∨ w.heap.size ≤ k) : DidView w F p kn D' v (.returned v) w' := by
 have hlM := hk.lt
 have hlp := lt_of_heap hp
 refine ⟨rfl,fun k => F k ∨ F1 k,⟨⟨M,q,n,F1,?_,hk.keep ht (fun r => fM (f0 M r).1),hm,.inl fp,fun k r => ⟨.inr r,fun e => ?_⟩,fun r => ?_⟩,fun k r => ?_⟩,ht.mono (fun k _ r => (f0 k r).1),fun k r => ?_⟩
 · rw [Turned.block ht p hlp (fun r => (f0 p r).2 rfl)]; exact hp
 · subst e
   rcases h1 k r with q | q
   · exact (f0 k q).2 rfl
   · omega
 · rcases r with r | r
   · exact fM r
   · rcases h1 M r with q | q
     · exact fM (f0 M q).1
     · omega
 · rcases r with r | r
   · exact Nat.lt_of_lt_of_le (hl k r) ht.size
   · exact hm.lt k r
 · rcases r with r | r
   · exact .inl r
   · exact (h1 k r).imp (fun q => (f0 k q).1) id
theorem write_ok (F : Nat → Prop) (p : Nat) (kn : Int → Option Int) (D : List KV) (a x : Int) (w : World) (h : ViewAt w F p kn D) (hs : D.length < 100000) :
   Calls Tryz.prog 103 #[.pointer (some ⟨p,0,none⟩),.int .i64 a,.int .i64 x] w (DidView w F p kn (writeV D a x) (.tuple #[])) := by
 obtain ⟨M,q,n,F0,hp,hk,hm,fp,f0,fM⟩ := h.ex
 have S := hQQ (stands_yes p w (view_cells hp).1)
 have P := hQQ (put_ok F0 q D a x w hm hs)
 by_cases ha : a < 0
 · have e : writeV D a x = D := by unfold writeV; rw [if_pos ha]
   have FIN := hQQ (DidView.same (v:=.tuple #[]) h (More.refl w))
   rw [e]
   have d : decide (0 ≤ a) = false := by simp; omega
   clear h hp hk hm e ha P
   go_enter Tryz.func103,Tryz.ntmps103
   go_wp2_with (go_at_call 138; refine S.out.mono ?_; rintro e w' ⟨rfl,rfl⟩)
   go_end0
   exact FIN.out
 · have e : writeV D a x = putD D a x := by unfold writeV; rw [if_neg ha]
   rw [e]
   have d : decide (0 ≤ a) = true := by simp; omega
   have hl := h.lt
   have FIN : Hid (∀ w' F1,MapAt w' F1 q (putD D a x) → Turned F0 w w' → (∀ k,F1 k → F0 k ∨ w.heap.size ≤ k) → DidView w F p kn (putD D a x) (.tuple #[]) (.returned (.tuple #[])) w') :=
     hQQ fun w' F1 m t f => did_put hp hk fp f0 fM hl m t f
   obtain ⟨c0,c1,c2,c3,hf,hlp⟩ := view_cells hp
   clear h hp hk hm e ha fp f0 fM hl
   go_enter Tryz.func103,Tryz.ntmps103
   go_wp2_with (first | (go_at_call 138; refine S.out.mono ?_; rintro e w' ⟨rfl,rfl⟩) | (go_at_call 145; refine P.out.mono ?_; rintro e w1 ⟨rfl,F1,m,t,f⟩; have M1 := hQQ m; have T1 := hQQ t; have N1 := hQQ f; clear m t f))
   go_end0
   exact FIN.out _ _ M1.out T1.out N1.out
theorem read_dead (p : Nat) (n a : Int) (w : World) (h : DeadAt w p n) : Calls Tryz.prog 97 #[.pointer (some ⟨p,0,none⟩),.int .i64 a] w fun e w' => e = .returned (.int .i64 0) ∧ w' = w := by
 obtain ⟨M,q,hp⟩ := h
 have S := hQQ (stands_no p w (view_cells hp).1)
 clear hp
 go_enter Tryz.func97,Tryz.ntmps97
 go_wp2_with (go_at_call 138; refine S.out.mono ?_; rintro e w' ⟨rfl,rfl⟩)
 go_ret
 exact ⟨rfl,rfl⟩
theorem write_dead (p : Nat) (n a x : Int) (w : World) (h : DeadAt w p n) : Calls Tryz.prog 103 #[.pointer (some ⟨p,0,none⟩),.int .i64 a,.int .i64 x] w fun e w' => e = .returned (.tuple #[]) ∧ w' = w := by
 obtain ⟨M,q,hp⟩ := h
 have S := hQQ (stands_no p w (view_cells hp).1)
 clear hp
 go_enter Tryz.func103,Tryz.ntmps103
 go_wp2_with (go_at_call 138; refine S.out.mono ?_; rintro e w' ⟨rfl,rfl⟩)
 go_end0
 exact ⟨rfl,rfl⟩
def IsIns (w : World) (a : Option Addr) (l : List Ins3) : Prop :=
 l = [] ∨ ∃ s o,a = some ⟨s,o,none⟩ ∧ s < w.heap.size ∧ ∀ i t,l[i]? = some t → w.cell? ⟨s,o + i * 3,none⟩ = some (.int .i64 t.1) ∧ w.cell? ⟨s,o + i * 3 + 1,none⟩ = some (.int .i64 t.2.1) ∧ w.cell? ⟨s,o + i * 3 + 2,none⟩ = some (.int .i64 t.2.2)
def IsPairs (w : World) (a : Option Addr) (l : List KV) : Prop :=
 l = [] ∨ ∃ s o,a = some ⟨s,o,none⟩ ∧ s < w.heap.size ∧ ∀ i t,l[i]? = some t → w.cell? ⟨s,o + i * 2,none⟩ = some (.int .i64 t.1) ∧ w.cell? ⟨s,o + i * 2 + 1,none⟩ = some (.int .i64 t.2)
def leads (a : Option Addr) (k : Nat) : Prop := a.map (·.block) = some k
theorem cell_turned {S : Nat → Prop} {w w' : World} (t : Turned S w w') {s o : Nat} {v : Value} (hs : ¬ S s) (h : w.cell? ⟨s,o,none⟩ = some v) : w'.cell? ⟨s,o,none⟩ = some v := by
 rw [World.cell?_of_block (w:=w) (Turned.block t s (lt_of_cell h) hs)]; exact h
theorem IsIns.keep {w w' : World} {a : Option Addr} {l : List Ins3} (h : IsIns w a l) {S : Nat → Prop} (t : Turned S w w') (hs : ∀ k,leads a k → ¬ S k) : IsIns w' a l := by
 rcases h with h | ⟨s,o,rfl,hl,hc⟩
 · exact .inl h
 · exact .inr ⟨s,o,rfl,Nat.lt_of_lt_of_le hl t.size,fun i u hi => by
     obtain ⟨c0,c1,c2⟩ := hc i u hi
     exact ⟨cell_turned t (hs s rfl) c0,cell_turned t (hs s rfl) c1,cell_turned t (hs s rfl) c2⟩⟩
theorem IsIns.more {w w' : World} {a : Option Addr} {l : List Ins3} (h : IsIns w a l) (t : More w w') : IsIns w' a l := h.keep t (fun _ _ q => q)
theorem IsPairs.keep {w w' : World} {a : Option Addr} {l : List KV} (h : IsPairs w a l) {S : Nat → Prop} (t : Turned S w w') (hs : ∀ k,leads a k → ¬ S k) : IsPairs w' a l := by
 rcases h with h | ⟨s,o,rfl,hl,hc⟩
 · exact .inl h
 · exact .inr ⟨s,o,rfl,Nat.lt_of_lt_of_le hl t.size,fun i u hi => by
     obtain ⟨c0,c1⟩ := hc i u hi
     exact ⟨cell_turned t (hs s rfl) c0,cell_turned t (hs s rfl) c1⟩⟩
theorem turned_own {F F' : Nat → Prop} {W w w' : World} (h : Turned F W w) (t : Turned F' w w') (n : ∀ k,F' k → F k ∨ W.heap.size ≤ k) : Turned F W w' :=
 ⟨t.os.trans h.os,t.tape.trans h.tape,t.output.trans h.output,Nat.le_trans h.size t.size,fun k hk hs => by
   rw [Turned.block t k (Nat.lt_of_lt_of_le hk h.size) (fun q => by rcases n k q with r | r; exact hs r; omega)]
   exact Turned.block h k hk hs⟩
structure On (W wr : World) (F : Nat → Prop) (p : Nat) (kn : Int → Option Int) (l : List Ins3) (R : Ran) (i : Nat) (x : Int) : Prop where
 ex : ∃ F' D,ViewAt wr F' p kn D ∧ (∀ k,F' k → F k ∨ W.heap.size ≤ k) ∧ runP kn (l.drop i) false x D = R ∧ OkD D ∧ D.length ≤ i
 turn : Turned F W wr
 x64 : W64 x
theorem turned_of_grown {S : Nat → Prop} {wa w w' : World} {v : Value} {e : TypeId} {s n : Nat} {xs : List Value} (hW : Turned S wa w) (h : w.ownsRow wa.heap.size e s v n xs) (g : w.grownBy w' v.ownBlock) : Turned S wa w' :=
 ⟨g.os.trans hW.os,g.tape.trans hW.tape,g.output.trans hW.output,Nat.le_trans hW.size g.size,fun k hk hs => by
   rw [g.block k (Nat.lt_of_lt_of_le hk hW.size) (by
     rcases h.2 with ⟨rfl,_⟩ | ⟨b,cap,cur,rfl,hb,_⟩
     · simp [Value.ownBlock]
     · simp only [Value.ownBlock,ne_eq,Option.some.injEq]; omega)]
   exact Turned.block hW k hk hs⟩
theorem ownsRow_keep {w w' : World} {base : Nat} {e : TypeId} {s n : Nat} {v : Value} {xs : List Value} (h : w.ownsRow base e s v n xs) {S : Nat → Prop} (hW : Turned S w w') (hs : ∀ k,base ≤ k → ¬ S k) : w'.ownsRow base e s v n xs := by
 refine ⟨h.1,?_⟩
 rcases h.2 with q | ⟨g,cap,cur,h1,h2,h3,h4⟩
 · exact .inl q
 · exact .inr ⟨g,cap,cur,h1,h2,by rw [Turned.block hW g (lt_of_heap h3) (hs g h2)]; exact h3,h4⟩
theorem ownsRow_lower {w : World} {base base' : Nat} {e : TypeId} {s n : Nat} {v : Value} {xs : List Value} (h : w.ownsRow base e s v n xs) (hb : base' ≤ base) : w.ownsRow base' e s v n xs := by
 refine ⟨h.1,?_⟩
 rcases h.2 with q | ⟨g,cap,cur,h1,h2,h3,h4⟩
 · exact .inl q
 · exact .inr ⟨g,cap,cur,h1,by omega,h3,h4⟩
def pairCells (ps : List KV) : List Value := ps.flatMap fun p => [.int .i64 p.1,.int .i64 p.2]
theorem pairCells_snoc (ps : List KV) (p : KV) : pairCells (ps ++ [p]) = pairCells ps ++ [.int .i64 p.1,.int .i64 p.2] := by simp [pairCells]
theorem pairCells_cons (p : KV) (ps : List KV) : pairCells (p :: ps) = .int .i64 p.1 :: .int .i64 p.2 :: pairCells ps := by simp [pairCells]
theorem pairCells_len : ∀ ps : List KV,(pairCells ps).length = ps.length * 2
 | [] => rfl
 | p :: ps => by rw [pairCells_cons,List.length_cons,List.length_cons,pairCells_len ps,List.length_cons]; omega
theorem pairCells_get : ∀ (ps : List KV) (i : Nat) (p : KV),ps[i]? = some p → (pairCells ps)[i * 2]? = some (.int .i64 p.1) ∧ (pairCells ps)[i * 2 + 1]? = some (.int .i64 p.2)
 | [],i,p,h => by cases h
 | q :: ps,0,p,h => by
   simp at h; subst h
   rw [pairCells_cons]; exact ⟨rfl,rfl⟩
 | q :: ps,i + 1,p,h => by
   have := pairCells_get ps i p (by simpa using h)
   rw [pairCells_cons,show (i + 1) * 2 = i * 2 + 1 + 1 by omega]
   exact this
theorem pair_info : ∃ i : TypeInfo,Tryz.prog.info? 75 = some i ∧ i.zero = some (.agg #[.int .i64 0,.int .i64 0]) ∧ i.size = 2 ∧ i.bytes = 16 := by
 have h1 : (Tryz.prog.info? 75).map (·.size) = some 2 := by kernel_rfl
 have h2 : (Tryz.prog.info? 75).bind (·.zero) = some (.agg #[.int .i64 0,.int .i64 0]) := by kernel_rfl
 have h3 : (Tryz.prog.info? 75).map (·.bytes) = some 16 := by kernel_rfl
 cases q : Tryz.prog.info? 75 with
 | none => rw [q] at h1; simp at h1
 | some i => rw [q] at h1 h2 h3; exact ⟨i,rfl,by simpa using h2,by simpa using h1,by simpa using h3⟩
def PRw (base : Nat) (w : World) (v : Value) (ps : List KV) : Prop := w.ownsRow base 75 2 v ps.length (pairCells ps)
theorem PRw.nil (base : Nat) (w : World) : PRw base w (.slice none 0 0) [] := World.ownsRow_nil w base _ 2
theorem PRw.keep {base : Nat} {w w' : World} {v : Value} {ps : List KV} (h : PRw base w v ps) {S : Nat → Prop} (hW : Turned S w w') (hs : ∀ k,base ≤ k → ¬ S k) : PRw base w' v ps := ownsRow_keep h hW hs
theorem PRw.more {base : Nat} {w w' : World} {v : Value} {ps : List KV} (h : PRw base w v ps) (hW : More w w') : PRw base w' v ps := ownsRow_keep h hW (fun _ _ q => q)
theorem PRw.mono {base base' : Nat} {w : World} {v : Value} {ps : List KV} (h : PRw base w v ps) (hb : base' ≤ base) : PRw base' w v ps := ownsRow_lower h hb
theorem PRw.reads {base : Nat} {w : World} {v : Value} {ps : List KV} (h : PRw base w v ps) : ∃ a cap,v = .slice a ps.length cap ∧ IsPairs w a ps ∧ ∀ k,leads a k → base ≤ k := by
 rcases h.2 with ⟨rfl,h0⟩ | ⟨g,cap,cur,rfl,hb,hg,_,_,hs,ht⟩
 · have : ps = [] := List.length_eq_zero_iff.1 h0
   subst this
   exact ⟨none,0,rfl,.inl rfl,fun k hk => by cases hk⟩
 · refine ⟨_,cap,rfl,.inr ⟨g,0,rfl,lt_of_heap hg,fun i t hi => ?_⟩,fun k hk => by cases hk; exact hb⟩
   have hil := (List.getElem?_eq_some_iff.1 hi).1
   have hcell : ∀ j u,(pairCells ps)[j]? = some u → w.cell? ⟨g,0 + j,none⟩ = some u := fun j u hj => by
     have hj' : j < ps.length * 2 := by have := (List.getElem?_eq_some_iff.1 hj).1; rw [pairCells_len] at this; exact this
     have e : cur.toList[j]? = some u := by
       have h1 : (cur.toList.take (ps.length * 2))[j]? = some u := by rw [ht]; exact hj
       rw [List.getElem?_take,if_pos (by omega)] at h1
       exact h1
     simp [World.cell?,hg]
     simpa using e
   obtain ⟨p1,p2⟩ := pairCells_get ps i t hi
   exact ⟨hcell _ _ p1,by have := hcell _ _ p2; rwa [← Nat.add_assoc] at this⟩
theorem wpList_pair {ops : Array Oper} {rest : List Oper} {o : Oper} {a : Act} {Q : Exit → Act → World → Prop} {S : Nat → Prop} {w wa : World} {v : Value} {ps : List KV} (p q : Int) (hgd : o.guard = none) (s x : Operand)
   (ho : o.op = .call { callee := .builtin .append,args := #[s,x],argTypes := #[40,40] })
   (hs : a.eval s = v) (hn : PRw wa.heap.size w v ps) (hW : Turned S wa w) (hl : ps.length ≤ 1000000)
   (hx : a.eval x = .slice (some ⟨w.heap.size,0,none⟩) 1 1)
   (h : ∀ g cap w',PRw wa.heap.size w' (.slice (some ⟨g,0,none⟩) (ps.length + 1) cap) (ps ++ [(p,q)]) → Turned S wa w' → (∀ k ob,w.heap[k]? = some ob → v.ownBlock ≠ some k → w'.heap[k]? = some ob) → wpList Tryz.prog ops Q rest (a.put o.dst (.slice (some ⟨g,0,none⟩) (ps.length + 1) cap)) w') : wpList Tryz.prog ops Q (o :: rest) a (w.alloc (.cells #[.int .i64 p,.int .i64 q] 75)) := by
 obtain ⟨i,i1,i2,i3,i4⟩ := pair_info
 have hn' := hn.more ((More.refl w).alloc (.cells #[.int .i64 p,.int .i64 q] 75))
 have hB := heap_new w (.cells #[.int .i64 p,.int .i64 q] 75)
 refine wpList_append_lies _ hgd s x 40 ho wa.heap.size 75 i _ 2 16 Tryz.underlying40 i1 i2 i3 i4 rfl (by omega) v ps.length _ hs hn' ⟨w.heap.size,0,none⟩ 1 1 [.int .i64 p,.int .i64 q] hx (by simp)
   (fun j u hu => World.news_of_block hB j u (by simpa using hu)) (by intro u hu; simp at hu; rcases hu with rfl | rfl <;> rfl) (by omega) (by simp only [maxLen]; omega) (by omega) (by have := hW.size; simp; omega) _ rfl ?_
 intro g cap w1 hown hgrow _ _
 refine h g cap w1 ?_ (turned_of_grown (hW.alloc _) hn' hgrow) (fun k ob hk hne => ?_)
 · unfold PRw
   rw [List.length_append,pairCells_snoc]
   exact hown
 · rw [hgrow.block k (by have := lt_of_heap hk; simp; omega) (Ne.symm hne),Below.heap_alloc _ _ _ (lt_of_heap hk)]; exact hk
theorem run_equalIn_func {P : Program} (w : World) (d : Nat) (t : TypeId) {a b c} (h : P.underlying t = some (.func a b c)) (f : Fn) (xs ys : Array Value) :
   (Op.equalIn (d + 1) t (.func f xs ys) .nilFunc).run P w = .ok false w := by
 simp [Op.equalIn,run_underlying h]
theorem run_eql_func {P : Program} (w : World) (t : TypeId) {a b c} (h : P.underlying t = some (.func a b c)) (f : Fn) (xs ys : Array Value) : Sem.run P (binOp BinOp.eql t (Value.func f xs ys) Value.nilFunc) w = .ok (.bool false) w := by
 have : Sem.run P (Op.equal t (Value.func f xs ys) Value.nilFunc) w = .ok false w := run_equalIn_func w 9999 t h f xs ys
 simp [binOp,this]
theorem box_cells {w : World} {b : Nat} {v : Value} {T : TypeId} (h : w.heap[b]? = some (.cells #[v] T (0,0))) : w.cell? ⟨b,0,none⟩ = some v ∧ w.frozen? ⟨b,0,none⟩ = false ∧ b < w.heap.size :=
 ⟨by simp [World.cell?,h],by simp [World.frozen?,h],lt_of_heap h⟩
theorem box_put {w : World} {b : Nat} {v : Value} {T : TypeId} (x : Value) (h : w.heap[b]? = some (.cells #[v] T (0,0))) : (w.setCell ⟨b,0,none⟩ x).heap[b]? = some (.cells #[x] T (0,0)) := by
 have := heap_setCell (o:=0) x h
 simpa using this
structure Tell (wa W : World) (b : Nat) (ps : List KV) : Prop where
 ex : ∃ v,W.heap[b]? = some (.cells #[v] 40 (0,0)) ∧ PRw wa.heap.size W v ps
 turn : Turned (fun k => k = b) wa W
theorem Tell.more {wa W W' : World} {b : Nat} {ps : List KV} (h : Tell wa W b ps) (t : More W W') : Tell wa W' b ps := by
 obtain ⟨v,hb,hv⟩ := h.ex
 exact ⟨⟨v,t.block hb,hv.more t⟩,turned_own (F' := fun _ => False) h.turn t (fun _ q => q.elim)⟩
theorem tell_ok (wa W : World) (b : Nat) (ps : List KV) (x y : Int) (hlt : b < wa.heap.size) (h : Tell wa W b ps) (hl : ps.length ≤ 100000) :
   Calls Tryz.prog 110 #[.int .i64 x,.int .i64 y,.pointer (some ⟨b,0,none⟩)] W fun e w' => e = .returned (.bool true) ∧ Tell wa w' b (ps ++ [(x,y)]) := by
 obtain ⟨v,hb,hv⟩ := h.ex
 obtain ⟨c0,f0,l0⟩ := box_cells hb
 have HB := hQQ hb
 have HV := hQQ hv
 have HT := hQQ h.turn
 have FIN : Hid (∀ v' w',PRw wa.heap.size w' v' (ps ++ [(x,y)]) → Turned (fun k => k = b) wa w' → w'.heap[b]? = some (.cells #[v] 40 (0,0)) → Tell wa (w'.setCell ⟨b,0,none⟩ v') b (ps ++ [(x,y)])) := hQQ fun v' w' hp ht hbb =>
   ⟨⟨v',box_put v' hbb,hp.keep (turned_setCell (S:=fun k => k = b) (Turned.refl _ w') (fun _ => rfl) v') (fun k hk e => by omega)⟩,turned_setCell ht (fun _ => rfl) v'⟩
 have NE : Hid (∀ k,v.ownBlock = some k → k ≠ b) := hQQ fun k hk e => by have := hv.lt k hk; omega
 clear h hb hv
 go_enter Tryz.func110,Tryz.ntmps110
 go_wp2_with (at_builtin; refine wpList_pair (S:=fun k => k = b) (wa:=wa) (v:=v) (ps:=ps) x y rfl _ _ rfl rfl HV.out HT.out (by omega) rfl ?_; intro g' c' w1 hp1 ht1 hk1; have H1 := hQQ hp1; have T1 := hQQ ht1; have B1 := hQQ (hk1 b _ HB.out (fun e => NE.out b e rfl)); have c1 := (box_cells B1.out).1; have f1 := (box_cells B1.out).2.1; clear hp1 ht1 hk1)
 go_ret
 exact ⟨rfl,FIN.out _ _ H1.out T1.out B1.out⟩
theorem each_told (F : Nat → Prop) (q : Nat) (D : List KV) (b : Nat) (W : World) (h : MapAt W F q D) (hb : W.heap[b]? = some (.cells #[.slice none 0 0] 40 (0,0))) (hF : ¬ F b) :
   Calls Tryz.prog 109 #[.pointer (some ⟨q,0,none⟩),.func (.func 110) #[] #[.pointer (some ⟨b,0,none⟩)]] W fun e w' => e = .returned (.tuple #[]) ∧ Turned (fun k => k = b) W w' ∧ ∃ v,w'.heap[b]? = some (.cells #[v] 40 (0,0)) ∧ PRw W.heap.size w' v D := by
 have hq : ∀ w,Sem.run Tryz.prog (binOp BinOp.eql 62 (Value.func (.func 110) #[] #[.pointer (some ⟨b,0,none⟩)]) Value.nilFunc) w = .ok (.bool false) w := fun w => run_eql_func w _ Tryz.underlying62 _ _ _
 have hlb := lt_of_heap hb
 have hsm := h.small
 have CP := hQQ (copy_ok F q D W h)
 have HB := hQQ hb
 clear h hb hF
 go_enter Tryz.func109,Tryz.ntmps109
 go_wp2_with fail
 refine CP.out.mono ?_
 rintro e w1 ⟨Fc,c,rfl,mc,M1,nc⟩
 have MC := hQQ mc
 have K1 := hQQ M1
 have T0 := hQQ (show Tell w1 w1 b [] from ⟨⟨_,M1.block HB.out,PRw.nil _ _⟩,Turned.refl _ _⟩)
 have hlb1 : b < w1.heap.size := Nat.lt_of_lt_of_le hlb M1.size
 have NC : Hid (∀ x,Fc x → ¬ x = b) := hQQ (fun x hx q => by have := nc x hx; omega)
 have FIN : Hid (∀ wr,Tell w1 wr b D → Turned (fun k => k = b) W wr ∧ ∃ v,wr.heap[b]? = some (.cells #[v] 40 (0,0)) ∧ PRw W.heap.size wr v D) := hQQ fun wr ht => by
   obtain ⟨v,h1,h2⟩ := ht.ex
   exact ⟨(Turned.mono K1.out (fun _ _ q => q.elim)).trans ht.turn,v,h1,h2.mono K1.out.size⟩
 clear mc M1 nc
 go_wp2_with fail
 refine (len_ok Fc c D w1 MC.out).mono ?_
 rintro e w2 ⟨rfl,h2⟩
 obtain rfl : w2 = w1 := h2
 go_wp2_with fail
 go_loopw [15] (fun i wr => ∃ t : Nat,t ≤ D.length ∧ i = .int .i64 (t : Nat) ∧ Tell w2 wr b (D.take t)) (fun i _ => D.length - (intOf i).toNat)
 case atStart => exact ⟨0,Nat.zero_le _,rfl,T0.out⟩
 case round =>
   obtain ⟨t,ht,rfl,htell⟩ := hrel
   have T3 := hQQ htell; have C3 := hQQ (MC.out.keep htell.turn NC.out)
   clear htell
   by_cases hlt3 : t < D.length
   · obtain ⟨x,hx⟩ : ∃ x,D[t]? = some x := ⟨_,List.getElem?_eq_getElem hlt3⟩
     have TK : Hid (D.take (t + 1) = D.take t ++ [x]) := hQQ (by rw [List.take_add_one,hx]; rfl)
     have HX := hQQ hx
     clear hx
     obtain ⟨xk,xv⟩ := x
     go_wp2_with fail
     refine (at_ok Fc c D t (xk,xv) wr C3.out HX.out).mono ?_
     rintro e w4 ⟨rfl,n4,rfl⟩
     have C4 := hQQ (C3.out.more (more_drewN wr n4)); have T4 := hQQ (T3.out.more (more_drewN wr n4))
     clear C3 T3
     generalize wr.drewN n4 = w4 at C4 T4 ⊢
     simp only
     go_wp2_with fail
     refine (tell_ok w2 w4 b (D.take t) xk xv hlb1 T4.out (by simp; omega)).mono ?_
     rintro e w5 ⟨rfl,htell⟩
     have T5 := hQQ htell
     clear htell C4 T4
     go_wp2_with fail
     go_roundw
     case rel => exact ⟨t + 1,by omega,by go_num,by rw [TK.out]; exact T5.out⟩
     case measure => simp [intOf]; omega
   · obtain rfl : t = D.length := by omega
     have FIN2 : Hid (∀ wr',wr' = wr → Turned (fun k => k = b) W wr' ∧ ∃ v,wr'.heap[b]? = some (.cells #[v] 40 (0,0)) ∧ PRw W.heap.size wr' v D) := hQQ (fun wr' e => by subst e; exact FIN.out _ (by have := T3.out; rwa [List.take_length] at this))
     go_wp2_with fail
     go_end0
     exact ⟨rfl,FIN2.out _ rfl⟩
theorem told_ok (F : Nat → Prop) (p q : Nat) (D : List KV) (W : World) (hp : W.cell? ⟨p,2,none⟩ = some (.pointer (some ⟨q,0,none⟩))) (hm : MapAt W F q D) :
   Calls Tryz.prog 73 #[.pointer (some ⟨p,0,none⟩)] W fun e w' => ∃ v,e = .returned v ∧ PRw W.heap.size w' v D ∧ More W w' := by
 have M1 : More W (W.alloc (.cells #[.slice none 0 0] 40)) := (More.refl W).alloc _
 have hb := heap_new W (.cells #[.slice none 0 0] 40)
 have E := hQQ (each_told F q D W.heap.size _ (hm.more M1) hb (fun r => by have := hm.lt _ r; omega))
 have hp1 := M1.cell hp
 have hlp := lt_of_cell hp
 have HM := hQQ M1
 clear hm hb M1
 go_enter Tryz.func73,Tryz.ntmps73
 go_wp2_with fail
 refine E.out.mono ?_
 rintro e w1 ⟨rfl,ht,v,hv,hr⟩
 have FIN : Hid (PRw W.heap.size w1 v D ∧ More W w1) := hQQ ⟨hr.mono (by simp),Turned.mono (turned_own (F:=fun _ => False) HM.out ht (fun k hk => .inr (by omega))) (fun _ _ q => q)⟩
 obtain ⟨c0,f0,l0⟩ := box_cells hv
 clear ht hr hv
 go_wp2_with fail
 go_ret
 exact ⟨_,rfl,FIN.out⟩
theorem assert_end (v : Value) (w : World) : (Instr.typeAssert (.iface 97 v) 20 97 true).run Tryz.prog w = .ok (.tuple #[v,.bool true]) w := by kernel_rfl
theorem assert_none (w : World) : (Instr.typeAssert .nilIface 20 97 true).run Tryz.prog w = .ok (.tuple #[.agg #[.pointer none],.bool false]) w := by kernel_rfl
def Caught (w : World) (p bn : Nat) (a : Int) (w' : World) : Prop := DeadAt w' p a ∧ w'.heap[bn]? = some (.cells #[.int .i64 a] 3 (0,0)) ∧ Turned (fun k => k = p ∨ k = bn) w w'
theorem catch_end (p bv bn : Nat) (a n : Int) (w : World) (h : DeadAt w p a) (hv : w.heap[bv]? = some (.cells #[.pointer (some ⟨p,0,none⟩)] 44 (0,0))) (hn : w.heap[bn]? = some (.cells #[.int .i64 n] 3 (0,0))) (h1 : bv ≠ p) (h2 : bn ≠ p) (h3 : bv ≠ bn) :
   CallsD Tryz.prog 72 #[.pointer (some ⟨bv,0,none⟩),.pointer (some ⟨bn,0,none⟩)] (.panicking (endOf p)) w fun e u' w' =>
     e = .returned (.tuple #[]) ∧ u' = .panicking [{ v := .iface 97 (.agg #[.pointer (some ⟨p,0,none⟩)]),recovered := true }] ∧ Caught w p bn a w' := by
 have hq := fun w => neq_view ⟨p,0,none⟩ w
 obtain ⟨M,q,hp⟩ := h
 obtain ⟨c0,c1,c2,c3,cf,cl⟩ := view_cells hp
 obtain ⟨v0,vf,vl⟩ := box_cells hv
 obtain ⟨n0,nf,nl⟩ := box_cells hn
 refine callsD_of_wpS Tryz.func72 rfl fun c₀ cs hu => ?_
 apply wpS_seq
 apply wpS_region
 simp [wpOpsS,go_sem,recoverD,hu,Tryz.ntmps72,Exit.thenS,v0,c0,cf,vf]
 apply wpS_seq
 apply wpS_seq
 apply wpS_region
 simp [wpOpsS,go_sem,recoverD,hu,endOf,Exit.thenS,Array.replicate_succ,v0,c0,cf,vf,assert_end]
 have t1 : Turned (fun k => k = p ∨ k = bn) w ((w.setCell ⟨p,0,none⟩ (.pointer none)).alloc (.cells #[.pointer (some ⟨p,0,none⟩)] 97)) := Turned.alloc (turned_setCell (Turned.refl _ w) (fun _ => .inl rfl) _) _
 have hp1 : ((w.setCell ⟨p,0,none⟩ (.pointer none)).alloc (.cells #[.pointer (some ⟨p,0,none⟩)] 97)).heap[p]? = some (.cells (viewCells none M q a) 95 (0,0)) := by
   rw [Below.heap_alloc _ _ _ (by simpa using cl)]
   have := heap_setCell (o:=0) (.pointer none) hp
   simpa [viewCells] using this
 have hv1 : ((w.setCell ⟨p,0,none⟩ (.pointer none)).alloc (.cells #[.pointer (some ⟨p,0,none⟩)] 97)).heap[bv]? = some (.cells #[.pointer (some ⟨p,0,none⟩)] 44 (0,0)) := by
   rw [Turned.block t1 bv vl (by omega)]; exact hv
 have hs1 := heap_new (w.setCell ⟨p,0,none⟩ (.pointer none)) (.cells #[.pointer (some ⟨p,0,none⟩)] 97)
 rw [show (w.setCell ⟨p,0,none⟩ (.pointer none)).heap.size = w.heap.size by simp] at hs1
 have hn1 : ((w.setCell ⟨p,0,none⟩ (.pointer none)).alloc (.cells #[.pointer (some ⟨p,0,none⟩)] 97)).heap[bn]? = some (.cells #[.int .i64 n] 3 (0,0)) := by
   rw [Below.heap_alloc _ _ _ (by simpa using nl),Below.heap_setCell _ _ _ _ h2]; exact hn
 generalize (w.setCell ⟨p,0,none⟩ (.pointer none)).alloc (.cells #[.pointer (some ⟨p,0,none⟩)] 97) = W1 at t1 hp1 hv1 hs1 hn1 ⊢
 generalize w.heap.size = bs at hs1 ⊢
 obtain ⟨_,_,_,x3,_,xl⟩ := view_cells hp1
 obtain ⟨y0,yf,yl⟩ := box_cells hv1
 obtain ⟨z0,zf,zl⟩ := box_cells hs1
 obtain ⟨n1,nf1,nl1⟩ := box_cells hn1
 have FIN : Hid (Caught w p bn a (W1.setCell ⟨bn,0,none⟩ (.int .i64 a))) := hQQ ⟨⟨M,q,by rw [Below.heap_setCell _ _ _ _ (Ne.symm h2)]; exact hp1⟩,box_put _ hn1,turned_setCell t1 (fun _ => .inr rfl) _⟩
 clear c0 c1 c2 c3 cf cl v0 vf vl n0 nf nl hp hv hn hp1 hv1 hs1 hn1 t1
 refine wpS_of_wp ?_
 go_wp2_with fail
 refine wpS_of_wp ?_
 go_wp2_with fail
 exact ⟨rfl,_,rfl,_,results_none rfl _ _ _,rfl,rfl,FIN.out⟩
theorem catch_idle (p bv bn M q : Nat) (n : Int) (w : World) (hp : w.heap[p]? = some (.cells (viewCells (some ⟨p,0,none⟩) M q (-1)) 95 (0,0))) (hv : w.heap[bv]? = some (.cells #[.pointer (some ⟨p,0,none⟩)] 44 (0,0))) (hn : w.heap[bn]? = some (.cells #[.int .i64 n] 3 (0,0))) (h1 : bv ≠ p) (h2 : bn ≠ p) (h3 : bv ≠ bn) :
   CallsD Tryz.prog 72 #[.pointer (some ⟨bv,0,none⟩),.pointer (some ⟨bn,0,none⟩)] .returning w fun e u' w' =>
     e = .returned (.tuple #[]) ∧ u' = .returning ∧ Caught w p bn (-1) w' := by
 obtain ⟨c0,c1,c2,c3,cf,cl⟩ := view_cells hp
 obtain ⟨v0,vf,vl⟩ := box_cells hv
 obtain ⟨n0,nf,nl⟩ := box_cells hn
 refine callsD_of_wpS Tryz.func72 rfl fun c₀ cs hu => ?_
 apply wpS_seq
 apply wpS_region
 simp [wpOpsS,go_sem,recoverD,hu,Tryz.ntmps72,Exit.thenS,v0,c0,cf,vf]
 apply wpS_seq
 apply wpS_seq
 apply wpS_region
 simp [wpOpsS,go_sem,recoverD,hu,endOf,Exit.thenS,Array.replicate_succ,v0,c0,cf,vf,assert_none]
 have t1 : Turned (fun k => k = p ∨ k = bn) w ((w.setCell ⟨p,0,none⟩ (.pointer none)).alloc (.cells #[.pointer none] 97)) := Turned.alloc (turned_setCell (Turned.refl _ w) (fun _ => .inl rfl) _) _
 have hp1 : ((w.setCell ⟨p,0,none⟩ (.pointer none)).alloc (.cells #[.pointer none] 97)).heap[p]? = some (.cells (viewCells none M q (-1)) 95 (0,0)) := by
   rw [Below.heap_alloc _ _ _ (by simpa using cl)]
   have := heap_setCell (o:=0) (.pointer none) hp
   simpa [viewCells] using this
 have hv1 : ((w.setCell ⟨p,0,none⟩ (.pointer none)).alloc (.cells #[.pointer none] 97)).heap[bv]? = some (.cells #[.pointer (some ⟨p,0,none⟩)] 44 (0,0)) := by
   rw [Turned.block t1 bv vl (by omega)]; exact hv
 have hn1 : ((w.setCell ⟨p,0,none⟩ (.pointer none)).alloc (.cells #[.pointer none] 97)).heap[bn]? = some (.cells #[.int .i64 n] 3 (0,0)) := by
   rw [Below.heap_alloc _ _ _ (by simpa using nl),Below.heap_setCell _ _ _ _ h2]; exact hn
 generalize (w.setCell ⟨p,0,none⟩ (.pointer none)).alloc (.cells #[.pointer none] 97) = W1 at t1 hp1 hv1 hn1 ⊢
 obtain ⟨_,_,_,x3,_,xl⟩ := view_cells hp1
 obtain ⟨y0,yf,yl⟩ := box_cells hv1
 obtain ⟨n1,nf1,nl1⟩ := box_cells hn1
 have FIN : Hid (Caught w p bn (-1) (W1.setCell ⟨bn,0,none⟩ (.int .i64 (-1)))) := hQQ ⟨⟨M,q,by rw [Below.heap_setCell _ _ _ _ (Ne.symm h2)]; exact hp1⟩,box_put _ hn1,turned_setCell t1 (fun _ => .inr rfl) _⟩
 clear c0 c1 c2 c3 cf cl v0 vf vl n0 nf nl hp hv hn hp1 hv1 hn1 t1
 refine wpS_of_wp ?_
 go_wp2_with fail
 refine wpS_of_wp ?_
 go_wp2_with fail
 refine ⟨rfl,.returning,?_,_,results_none rfl _ _ _,rfl,rfl,FIN.out⟩
 cases c₀
 simp_all
structure Begun (w W : World) (F : Nat → Prop) (p bv bn : Nat) (kn : Int → Option Int) : Prop where
 view : ViewAt W F p kn []
 v : W.heap[bv]? = some (.cells #[.pointer (some ⟨p,0,none⟩)] 44 (0,0))
 n : W.heap[bn]? = some (.cells #[.int .i64 0] 3 (0,0))
 more : More w W
 new : ∀ k,F k → w.heap.size ≤ k
 fv : ¬ F bv
 fn : ¬ F bn
 vn : bv ≠ bn
 lv : w.heap.size ≤ bv
 ln : w.heap.size ≤ bn
 lp : w.heap.size ≤ p
theorem begun_of {w w1 : World} {M q n : Nat} {F0 : Nat → Prop} {kn : Int → Option Int} (hk : KnownAt w M n kn) (hm : MapAt w1 F0 q []) (hM : More (w.alloc (.cells #[.int .i64 0] 3)) w1) (hn : ∀ k,F0 k → (w.alloc (.cells #[.int .i64 0] 3)).heap.size ≤ k) :
   ∃ F,Begun w ((w1.alloc (.cells (viewCells (some ⟨w1.heap.size,0,none⟩) M q (-1)) 95)).alloc (.cells #[.pointer (some ⟨w1.heap.size,0,none⟩)] 44)) F w1.heap.size (w1.heap.size + 1) w.heap.size kn := by
 have m0 : More w (w.alloc (.cells #[.int .i64 0] 3)) := (More.refl w).alloc _
 have hb := heap_new w (.cells #[.int .i64 0] 3)
 have hs0 : (w.alloc (.cells #[.int .i64 0] 3)).heap.size = w.heap.size + 1 := by simp
 rw [hs0] at hn
 have h1 := hM.size
 rw [hs0] at h1
 have hp := heap_new w1 (.cells (viewCells (some ⟨w1.heap.size,0,none⟩) M q (-1)) 95)
 have m2 : More w1 (w1.alloc (.cells (viewCells (some ⟨w1.heap.size,0,none⟩) M q (-1)) 95)) := (More.refl w1).alloc _
 have hs2 : (w1.alloc (.cells (viewCells (some ⟨w1.heap.size,0,none⟩) M q (-1)) 95)).heap.size = w1.heap.size + 1 := by simp
 generalize w1.alloc (.cells (viewCells (some ⟨w1.heap.size,0,none⟩) M q (-1)) 95) = w2 at hp m2 hs2 ⊢
 have hv := heap_new w2 (.cells #[.pointer (some ⟨w1.heap.size,0,none⟩)] 44)
 rw [hs2] at hv
 have m3 : More w2 (w2.alloc (.cells #[.pointer (some ⟨w1.heap.size,0,none⟩)] 44)) := (More.refl w2).alloc _
 have hs3 : (w2.alloc (.cells #[.pointer (some ⟨w1.heap.size,0,none⟩)] 44)).heap.size = w1.heap.size + 2 := by simp [hs2]
 generalize w2.alloc (.cells #[.pointer (some ⟨w1.heap.size,0,none⟩)] 44) = w3 at hv m3 hs3 ⊢
 have lM := hk.lt
 have all : More w w3 := ((m0.trans hM).trans m2).trans m3
 refine ⟨fun k => F0 k ∨ k = w1.heap.size,⟨⟨⟨M,q,n,F0,m3.block hp,hk.more all,(hm.more m2).more m3,.inr rfl,fun k hk => ⟨.inl hk,fun e => by have := hm.lt k hk; omega⟩,fun r => ?_⟩,fun k r => ?_⟩,hv,m3.block (m2.block (hM.block hb)),all,fun k r => ?_,fun r => ?_,fun r => ?_,by omega,by omega,Nat.le_refl _,by omega⟩⟩
 · rcases r with r | r
   · have := hn M r; omega
   · omega
 · rcases r with r | r
   · have := hm.lt k r; omega
   · omega
 · rcases r with r | r
   · have := hn k r; omega
   · omega
 · rcases r with r | r
   · have := hm.lt _ r; omega
   · omega
 · rcases r with r | r
   · have := hn _ r; omega
   · omega
theorem ran_turn {w W w2 w3 : World} {F S : Nat → Prop} {p bv bn : Nat} {kn : Int → Option Int} (hb : Begun w W F p bv bn kn) (t : Turned (fun k => F k ∨ S k) W w2) (t' : Turned (fun k => k = p ∨ k = bn) w2 w3) : Turned S w w3 := by
 have m : Turned S w W := Turned.mono hb.more (fun _ _ q => q.elim)
 have h1 : Turned S w w2 := turned_own m t (fun k q => by rcases q with q | q; exact .inr (hb.new k q); exact .inl q)
 exact turned_own h1 t' (fun k q => by have := hb.lp; have := hb.ln; rcases q with q | q <;> exact .inr (by omega))
theorem ran_box {w W w2 : World} {F S : Nat → Prop} {p bv bn : Nat} {kn : Int → Option Int} (hb : Begun w W F p bv bn kn) (hS : ∀ k,S k → k < w.heap.size) (t : Turned (fun k => F k ∨ S k) W w2) :
   w2.heap[bv]? = some (.cells #[.pointer (some ⟨p,0,none⟩)] 44 (0,0)) ∧ w2.heap[bn]? = some (.cells #[.int .i64 0] 3 (0,0)) ∧ bv ≠ p ∧ bn ≠ p := by
 obtain ⟨M,q,n,F0,hp,_,_,fp,_⟩ := hb.view.ex
 refine ⟨?_,?_,fun e => hb.fv (e ▸ fp),fun e => hb.fn (e ▸ fp)⟩
 · rw [Turned.block t bv (lt_of_heap hb.v) (fun q => by rcases q with q | q; exact hb.fv q; have := hS _ q; have := hb.lv; omega)]; exact hb.v
 · rw [Turned.block t bn (lt_of_heap hb.n) (fun q => by rcases q with q | q; exact hb.fn q; have := hS _ q; have := hb.ln; omega)]; exact hb.n
end Go.Proofs.YtflihdcliknggaaGreatDoor
namespace Go.Proofs.YtflihdcliknggaaGreatDoor
open Go.RowKit Go.Sort Go.Maps Go.Shelf
attribute [local go_sem] Oper.semAt_some
theorem more_of_below {w w' : World} (h : Below w.heap.size w w') : More w w' := ⟨h.1,h.2,h.3,h.4,fun k hk _ => h.5 k hk⟩
def Keeps2 (a b : Nat) (w w' : World) : Prop := w'.heap[a]? = w.heap[a]? ∧ w'.heap[b]? = w.heap[b]?
theorem Keeps2.refl (a b : Nat) (w : World) : Keeps2 a b w w := ⟨rfl,rfl⟩
theorem Keeps2.trans {a b : Nat} {w w' w'' : World} (h : Keeps2 a b w w') (k : Keeps2 a b w' w'') : Keeps2 a b w w'' := ⟨k.1.trans h.1,k.2.trans h.2⟩
theorem Keeps2.cell2 {a b o : Nat} {w w' : World} {v : Value} (h : Keeps2 a b w w') (hc : w.cell? ⟨b,o,none⟩ = some v) : w'.cell? ⟨b,o,none⟩ = some v := by
 rw [World.cell?_of_block (w:=w) h.2]; exact hc
theorem keeps2_put {a b n : Nat} (ha : a < n) (hb : b < n) (W : World) (l : Nat) (o o' : Obj) (hl : n ≤ l) (h : W.heap[l]? = some o) (_ : o.isCells = false) (_ : o.isWalk = false) : Keeps2 a b W (W.putObj l o') :=
 ⟨World.putObj_heap_other (by omega),World.putObj_heap_other (by omega)⟩
def pairAt (l : List KV) (i : Nat) : KV := l.getD i (0,0)
attribute [local go_sem] Oper.semAt_some
def OkPs (ps : List KV) : Prop := ∀ p ∈ ps,W64 p.1 ∧ W64 p.2
def knOf (ps : List KV) (pre : List Nat) (x : Int) : Option Int := look (pre.reverse.map (pairAt ps)) x
structure Fills (w : World) (ps : List KV) (pre : List Nat) (W : World) : Prop where
 box : Boxed W (w.heap.size + 1) 70 (.map (some w.heap.size))
 known : KnownAt W w.heap.size pre.length (knOf ps pre)
 below : Below w.heap.size w W
 big : w.heap.size + 3 ≤ W.heap.size
end Go.Proofs.YtflihdcliknggaaGreatDoor
