/-
  A region whose order is left open, with calls that write: what reads the same in every world of a class, which all of its calls keep, may be taken first.
-/
import Derived.Test.YtmafllcmkhgidaaGreatDoorPfAa
import Derived.Test.YtmafllcmkhgidaaGreatDoorPfAe
import Derived.Test.YtmafllcmkhgidaaGreatDoorPfAf
import Derived.Test.YtmafllcmkhgidaaGreatDoorPfAg
set_option maxRecDepth 100000
set_option maxHeartbeats 8000000
set_option linter.unusedVariables false
set_option linter.unusedSimpArgs false
set_option linter.unusedSectionVars false
namespace Go.Proofs.YtmafllcmkhgidaaGreatDoor
open Go.RowKit
section
variable {P : Program} {ops : Array Oper} {md : Region.Mode} {C : World → Prop} {Q : Exit → Act → World → Prop}
def YieldsC (P : Program) (ops : Array Oper) (C : World → Prop) (o : Oper) (v : Value) (a : Act) : Prop :=
 (Region.wanted o (yielded ops a.tmps) = true ∧ ∀ w,C w → (execOp a.eval o).run P w = .ok (.value v) w) ∨
 (Region.wanted o (yielded ops a.tmps) = false ∧ v = undef)
theorem YieldsC.wpOp {i : Nat} {o : Oper} {v : Value} {a : Act} (hi : ops[i]? = some o) (hy : YieldsC P ops C o v a)
   {K : Act → World → Prop} {w : World} (hC : C w) (h : K (a.put o.dst v) w) : wpOp P ops Q i K a w := by
 unfold Go.wpOp
 simp only [hi]
 rcases hy with ⟨hw,hv⟩ | ⟨hw,rfl⟩
 · simp only [hw,if_true,Oper.wp,hv w hC,Oper.upon]; exact .inl h
 · simp only [hw,Bool.false_eq_true,if_false]; exact h
theorem YieldsC.of_same {o : Oper} {v : Value} {a a' : Act} (hy : YieldsC P ops C o v a) (he : execOp a'.eval o = execOp a.eval o)
   (hw : Region.wanted o (yielded ops a'.tmps) = Region.wanted o (yielded ops a.tmps)) : YieldsC P ops C o v a' := by
 unfold YieldsC at *
 rw [he,hw]
 exact hy
theorem wpOp_putC {j : Nat} {oi oj : Oper} {v : Value} (hj : ops[j]? = some oj) (hap : oi.apart ops oj = true)
   (hsi : ∀ cs b,oi.op ≠ .select cs b) (hsj : ∀ cs b,oj.op ≠ .select cs b)
   (hQ : ∀ c a w,Q (.panic c) (a.put oi.dst v) w → Q (.panic c) a w) {K : Act → World → Prop} {a : Act} {w : World}
   (hy : YieldsC P ops C oi v a) (h : wpOp P ops Q j K (a.put oi.dst v) w) :
   wpOp P ops Q j (fun a' w' => YieldsC P ops C oi v a' ∧ K (a'.put oi.dst v) w') a w := by
 obtain ⟨h1,h2,h3⟩ := Oper.apart_spec hap
 have keep : ∀ (a : Act),YieldsC P ops C oi v a → ∀ u,YieldsC P ops C oi v (a.put oj.dst u) := fun a hy u =>
   hy.of_same (execOp_put oi hsi a oj.dst u h3) (wanted_put oi a oj.dst u h3)
 have keepD : ∀ d,YieldsC P ops C oi v { a with defers := d :: a.defers } := fun d => hy.of_same rfl rfl
 unfold wpOp at *
 simp only [hj] at *
 rw [wanted_put oj a oi.dst v h1] at h
 split
 · rename_i hw
   simp only [hw,if_true] at h
   rcases h with h | ⟨hasks,hlets⟩
   case inr => exact .inr ⟨by unfold Oper.asks at *; rw [execOp_put oj hsj a oi.dst v h1] at hasks; exact hasks,hlets⟩
   refine .inl ?_
   unfold Oper.wp at *
   rw [execOp_put oj hsj a oi.dst v h1] at h
   generalize (execOp a.eval oj).run P w = r at *
   cases r with
   | ok n w' =>
     cases n <;> simp only [Oper.upon] at h ⊢
     case value u => exact ⟨keep a hy u,by rw [← Act.put_comm a v u h2]; exact h⟩
     case skip => exact ⟨keep a hy _,by rw [← Act.put_comm a v undef h2]; exact h⟩
     case defer d =>
       refine ⟨keep _ (keepD d) _,?_⟩
       rw [← Act.put_comm _ v undef h2,← Act.put_defers]
       exact h
     case enter f args =>
       refine Calls.mono h fun e w'' he => ?_
       cases e with
       | returned u => exact ⟨keep a hy u,by rw [← Act.put_comm a v u h2]; exact he⟩
       | panicked c => exact hQ _ _ _ he
       | outgrown => exact he
     case row row args => exact Rows.mono h fun u w'' he => ⟨keep a hy u,by rw [← Act.put_comm a v u h2]; exact he⟩
   | halt x w' =>
     cases x <;> simp only [Oper.upon] at h ⊢
     case panic u => exact hQ _ _ _ h
 · rename_i hw
   simp only [hw] at h
   exact ⟨keep a hy _,by rw [← Act.put_comm a v undef h2]; exact h⟩
def anyC (P : Program) (md : Region.Mode) (ops : Array Oper) (C : World → Prop) (Q : Exit → Act → World → Prop) : Nat → Array Bool → Act → World → Prop
 | 0,d,a,w => Region.ready md ops d = [] ∧ Q .normal a w
 | f + 1,d,a,w => (Region.ready md ops d = [] → Q .normal a w) ∧ ∀ i ∈ Region.ready md ops d,wpOp P ops Q i (fun a' w' => C w' ∧ anyC P md ops C Q f (d.setIfInBounds i true) a' w') a w
theorem any_of_C : ∀ (f : Nat) (d : Array Bool) (a : Act) (w : World),anyC P md ops C Q f d a w → wpAny P md ops Q f d a w := by
 intro f
 induction f with
 | zero => intro d a w h; exact h
 | succ f ih => intro d a w h; exact ⟨h.1,fun i hi => wpOp_mono (fun a' w' z => ih _ a' w' z.2) (h.2 i hi)⟩
theorem anyC_first {i : Nat} {oi : Oper} {v : Value} (hi : ops[i]? = some oi) (hsel : ∀ (j : Nat) (o : Oper) cs b,ops[j]? = some o → o.op ≠ .select cs b)
   (hQ : ∀ c a w,Q (.panic c) (a.put oi.dst v) w → Q (.panic c) a w) :
   ∀ (fuel : Nat) (listed : Array Bool) (a : Act) (w : World),C w →
     (∀ j oj,ops[j]? = some oj → j ≠ i → listed.getD j true = false → (∀ e ∈ oj.after,Region.binds md e = true → e.on ≠ i) → oi.apart ops oj = true) →
     i ∈ Region.ready md ops listed → YieldsC P ops C oi v a →
     anyC P md ops C Q fuel (listed.setIfInBounds i true) (a.put oi.dst v) w → anyC P md ops C Q (fuel + 1) listed a w := by
 intro fuel
 induction fuel with
 | zero =>
   intro listed a w hC _ hr hy H
   refine ⟨fun h => (by rw [h] at hr; cases hr),fun j hj => ?_⟩
   by_cases hji : j = i
   · subst hji; exact hy.wpOp hi hC ⟨hC,H⟩
   · have := ready_mono hj hji
     rw [H.1] at this
     cases this
 | succ fuel ih =>
   intro listed a w hC hfree hr hy H
   refine ⟨fun h => (by rw [h] at hr; cases hr),fun j hj => ?_⟩
   by_cases hji : j = i
   · subst hji; exact hy.wpOp hi hC ⟨hC,H⟩
   · have h1 := H.2 j (ready_mono hj hji)
     obtain ⟨hjun,oj,hoj,hall⟩ := mem_ready.1 hj
     have hnot : ∀ e ∈ oj.after,Region.binds md e = true → e.on ≠ i := fun e he hb heq => by
       have h1 := hall e he hb
       have h0 := (mem_ready.1 hr).1
       rw [heq] at h1
       rcases Nat.lt_or_ge i listed.size with h' | h'
       · simp [h'] at h0 h1; rw [h0] at h1; cases h1
       · simp [Array.getElem?_eq_none h'] at h1
     have h2 := wpOp_putC hoj (hfree j oj hoj hji hjun hnot) (fun cs b => hsel i oi cs b hi) (fun cs b => hsel j oj cs b hoj) hQ hy h1
     have hfree' : ∀ k ok,ops[k]? = some ok → k ≠ i → (listed.setIfInBounds j true).getD k true = false →
         (∀ e ∈ ok.after,Region.binds md e = true → e.on ≠ i) → oi.apart ops ok = true := fun k ok hk hki hun hno => by
       refine hfree k ok hk hki ?_ hno
       by_cases hjk : j = k
       · subst hjk; exact hjun
       · rw [getD_set_ne true hjk] at hun; exact hun
     refine wpOp_mono (fun a' w' h3 => ⟨h3.2.1,ih (listed.setIfInBounds j true) a' w' h3.2.1 hfree' (ready_mono hr (Ne.symm hji)) h3.1 ?_⟩) h2
     rw [Array.setIfInBounds_comm _ _ hji]
     exact h3.2.2
theorem anyC_take {i : Nat} {oi : Oper} {v : Value} {fuel : Nat} {listed : Array Bool} {a : Act} {w : World} (hi : ops[i]? = some oi)
   (hs : Region.noSelect ops = true) (hf : Region.free md ops listed i = true) (hr : (Region.ready md ops listed).contains i = true)
   (hQ : ∀ c a w,Q (.panic c) (a.put oi.dst v) w → Q (.panic c) a w) (hC : C w) (hy : YieldsC P ops C oi v a)
   (h : anyC P md ops C Q fuel (listed.setIfInBounds i true) (a.put oi.dst v) w) : anyC P md ops C Q (fuel + 1) listed a w :=
 anyC_first hi (Region.noSelect_spec hs) hQ fuel listed a w hC (Region.free_spec hi hf) (by simpa using hr) hy h
theorem anyC_takeD {i : Nat} {oi : Oper} {v : Value} {fuel : Nat} {listed : Array Bool} {a : Act} {w : World} (d : Option Tmp) (hi : ops[i]? = some oi) (hd : oi.dst = d)
   (hs : Region.noSelect ops = true) (hf : Region.free md ops listed i = true) (hr : (Region.ready md ops listed).contains i = true)
   (hQ : ∀ c a w,Q (.panic c) (a.put d v) w → Q (.panic c) a w) (hC : C w) (hy : YieldsC P ops C oi v a)
   (h : anyC P md ops C Q fuel (listed.setIfInBounds i true) (a.put d v) w) : anyC P md ops C Q (fuel + 1) listed a w := by
 subst hd; exact anyC_take hi hs hf hr hQ hC hy h
theorem anyC_one {i : Nat} {o : Oper} {fuel : Nat} {listed : Array Bool} {a : Act} {w : World} (hr : Region.ready md ops listed = [i]) (hi : ops[i]? = some o) (hw : Region.wanted o (yielded ops a.tmps) = true)
   (h : Oper.wp P o a w (fun a' w' => C w' ∧ anyC P md ops C Q fuel (listed.setIfInBounds i true) a' w') Q) : anyC P md ops C Q (fuel + 1) listed a w := by
 refine ⟨fun q => (by rw [hr] at q; cases q),fun j hj => ?_⟩
 rw [hr] at hj
 obtain rfl : j = i := by simpa using hj
 unfold Go.wpOp
 simp only [hi,hw,if_true]
 exact .inl h
theorem anyC_done {fuel : Nat} {listed : Array Bool} {a : Act} {w : World} (hr : Region.ready md ops listed = []) (h : Q .normal a w) : anyC P md ops C Q fuel listed a w := by
 cases fuel with
 | zero => exact ⟨hr,h⟩
 | succ f => exact ⟨fun _ => h,fun i hi => (by rw [hr] at hi; cases hi)⟩
theorem yieldsC_row {o : Oper} {a : Act} (hw : Region.wanted o (yielded ops a.tmps) = true) (ty : TypeId) (x : Operand) (ho : o.op = .load ty x) (g : Nat) (hx : a.eval x = .pointer (some ⟨g,0,none⟩)) (t : TypeId) (cs : Array Value) (fr : Nat × Nat) (d : TypeDesc) (hg : ∀ w,C w → w.heap[g]? = some (.cells cs t fr))
   (hu : P.underlying ty = some d) (hd : (match d with | .struct _ | .array _ _ => true | _ => false) = true) (hi : (P.info? ty).map (·.size) = some cs.size) : YieldsC P ops C o (.agg cs) a := by
 refine .inl ⟨hw,fun w hC => ?_⟩
 unfold execOp
 simp only [ho,hx,Instr.loadAt,Instr.sureAddr,Sem.run_bind,Sem.run_pure,Result.andThen_ok,run_loadVar_row w g t ty cs fr d (hg w hC) hu hd hi]
end
theorem wp_region_anyC {P : Program} {ops : Array Oper} {id : Nat} {a : Act} {w : World} {Q : Exit → Act → World → Prop} (C : World → Prop) (hm : P.follows .mixedOrders = true)
   (h : anyC P .any ops C Q ops.size (Array.replicate ops.size false) a { w with drawn := w.drawn + 1 }) : (Code.region id ops true).wp P Q a w := wp_region_any hm (any_of_C _ _ _ _ h)
section
variable {P : Program} {o : Oper} {a : Act} {w : World} {K : Act → World → Prop} {Q : Exit → Act → World → Prop}
theorem wp_call2 {f : Nat} {x0 x1 : Operand} {v0 v1 : Value} {ts : Array TypeId} (ho : o.op = .call { callee := .value (.func f),args := #[x0,x1],argTypes := ts }) (h0 : a.eval x0 = v0) (h1 : a.eval x1 = v1) (he : ∀ (vs : Array Value) (w : World),Sem.run P (callFunc f vs) w = .ok (.enter f vs) w)
   (h : Calls P f #[v0,v1] w (fun | .returned v,w'' => K (a.put o.dst v) w'' | .panicked ch,w'' => Q (.panic ch) a w'' | .outgrown,_ => LetsOut Q)) : o.wp P a w K Q := by
 have hv : a.eval (.func f) = .func (.func f) #[] #[] := rfl
 unfold Oper.wp Oper.upon
 generalize hρ : a.eval = ρ at h0 h1 hv ⊢
 simp [execOp,ho,resolve,invoke,hv,h0,h1,he,Sem.run_bind,Result.andThen,go_sem]
 exact h
end
theorem any_start {P : Program} {md : Region.Mode} {ops : Array Oper} {Q : Exit → Act → World → Prop} {n : Nat} {dn : Array Bool} {a : Act} {w : World} (Φ : World → Prop) (ch : List PanicEntry) (fin : ∀ a w,a.defers = [] → Φ w → Q (.panic ch) a w) (h : ∀ Q' : Exit → Act → World → Prop,(∀ a w,a.defers = [] → Φ w → Q' (.panic ch) a w) → wpAny P md ops Q' n dn a w) : wpAny P md ops Q n dn a w := h Q fin
def AG (m : Nat) (a : Act) (L : List (Nat × Value)) : Prop := (m ≤ a.tmps.size ∧ a.defers = []) ∧ ∀ q ∈ L,a.eval (.tmp q.1) = q.2
theorem AG.put {m : Nat} {a : Act} {L : List (Nat × Value)} (h : AG m a L) (d : Nat) (v : Value) (hd : d < m) (hn : L.all (fun q => q.1 != d) = true) : AG m (a.put (some d) v) ((d,v) :: L) := by
 have hs := h.1.1
 refine ⟨⟨by simp [Act.put]; exact hs,h.1.2⟩,?_⟩
 intro q hq
 rcases List.mem_cons.1 hq with rfl | hq
 · have hlt : d < a.tmps.size := by omega
   simp [Act.put,Act.eval,Array.getD,hlt]
 · rw [Act.eval_put (by have := List.all_eq_true.1 hn q hq; simp at this; rintro _ ⟨⟩; simp [this])]
   exact h.2 q hq
theorem AG.get {m : Nat} {a : Act} {L : List (Nat × Value)} (h : AG m a L) (i : Nat) {k : Nat} {v : Value} (hm : L[i]? = some (k,v)) : a.eval (.tmp k) = v := h.2 (k,v) (List.mem_of_getElem? hm)
theorem frame_g {P : Program} {md : Region.Mode} {ops : Array Oper} {Q : Exit → Act → World → Prop} {n : Nat} {dn : Array Bool} {A : Act} {W : World} (m : Nat) (L : List (Nat × Value)) (hA : AG m A L) (h : ∀ a,AG m a L → wpAny P md ops Q n dn a W) : wpAny P md ops Q n dn A W := h A hA
section
variable {P : Program} {o : Oper} {a : Act} {w : World} {K : Act → World → Prop} {Q : Exit → Act → World → Prop}
theorem wp_call3 {f : Nat} {x0 x1 x2 : Operand} {v0 v1 v2 : Value} {ts : Array TypeId} (ho : o.op = .call { callee := .value (.func f),args := #[x0,x1,x2],argTypes := ts }) (h0 : a.eval x0 = v0) (h1 : a.eval x1 = v1) (h2 : a.eval x2 = v2) (he : ∀ (vs : Array Value) (w : World),Sem.run P (callFunc f vs) w = .ok (.enter f vs) w)
   (h : Calls P f #[v0,v1,v2] w (fun | .returned v,w'' => K (a.put o.dst v) w'' | .panicked ch,w'' => Q (.panic ch) a w'' | .outgrown,_ => LetsOut Q)) : o.wp P a w K Q := by
 have hv : a.eval (.func f) = .func (.func f) #[] #[] := rfl
 unfold Oper.wp Oper.upon
 generalize hρ : a.eval = ρ at h0 h1 h2 hv ⊢
 simp [execOp,ho,resolve,invoke,hv,h0,h1,h2,he,Sem.run_bind,Result.andThen,go_sem]
 exact h
theorem wp_callv1 {xf : Operand} {f : Nat} {clo : Array Value} {x0 : Operand} {v0 : Value} {ts : Array TypeId} (ho : o.op = .call { callee := .value xf,args := #[x0],argTypes := ts }) (hf : a.eval xf = .func (.func f) #[] clo) (h0 : a.eval x0 = v0) (he : ∀ (vs : Array Value) (w : World),Sem.run P (callFunc f vs) w = .ok (.enter f vs) w)
   (h : Calls P f (#[v0] ++ clo) w (fun | .returned v,w'' => K (a.put o.dst v) w'' | .panicked ch,w'' => Q (.panic ch) a w'' | .outgrown,_ => LetsOut Q)) : o.wp P a w K Q := by
 unfold Oper.wp Oper.upon
 generalize hρ : a.eval = ρ at h0 hf ⊢
 simp [execOp,ho,resolve,invoke,hf,h0,he,Sem.run_bind,Result.andThen,go_sem]
 exact h
end
theorem anyC_start {P : Program} {md : Region.Mode} {ops : Array Oper} {C : World → Prop} {Q : Exit → Act → World → Prop} {f : Nat} {d : Array Bool} {a : Act} {w : World} (Φ : Act → World → Prop) (Ψ : World → Prop) (ch : List PanicEntry) (fp : ∀ a w,a.defers = [] → Ψ w → Q (.panic ch) a w) (fq : ∀ c a k v w,Q (.panic c) (Act.put a (some k) v) w → Q (.panic c) a w) (fn : ∀ a w,Φ a w → Q .normal a w)
   (h : ∀ Q' : Exit → Act → World → Prop,(∀ a w,Φ a w → Q' .normal a w) → (∀ a w,a.defers = [] → Ψ w → Q' (.panic ch) a w) → (∀ c a k v w,Q' (.panic c) (Act.put a (some k) v) w → Q' (.panic c) a w) → anyC P md ops C Q' f d a w) : anyC P md ops C Q f d a w := h Q fn fp fq
theorem frame_c {P : Program} {md : Region.Mode} {ops : Array Oper} {C : World → Prop} {Q : Exit → Act → World → Prop} {n : Nat} {dn : Array Bool} {A : Act} {W : World} (m : Nat) (L : List (Nat × Value)) (hA : AG m A L) (h : ∀ a,AG m a L → anyC P md ops C Q n dn a W) : anyC P md ops C Q n dn A W := h A hA
theorem AG.getD {m : Nat} {a : Act} {L : List (Nat × Value)} (h : AG m a L) (i : Nat) {k : Nat} {v : Value} (hm : L[i]? = some (k,v)) : a.tmps[k]?.getD undef = v := by
 have := h.get i hm
 simpa [Act.eval] using this
section
variable {P : Program} {ops : Array Oper} {md : Region.Mode} {C : World → Prop} {Q : Exit → Act → World → Prop}
theorem wanted_g {o : Oper} {tmps : Array Value} (g : Nat) (b : Bool) (d : Tmp) (hg : o.guard = some (g,b)) (hd : (ops[g]?).bind (·.dst) = some d) (h : tmps[d]? = some (.bool b)) : Region.wanted o (yielded ops tmps) = true := by
 simp [Region.wanted,hg,yielded,hd,h]
theorem wanted_none {o : Oper} {f : Nat → Option Bool} (hg : o.guard = none) : Region.wanted o f = true := by simp [Region.wanted,hg]
theorem AG.at {m : Nat} {a : Act} {L : List (Nat × Value)} (h : AG m a L) {k : Nat} (hk : k < m) (i : Nat) {v : Value} (hm : L[i]? = some (k,v)) : a.tmps[k]? = some v := by
 have h1 := h.getD i hm
 have hl : k < a.tmps.size := Nat.lt_of_lt_of_le hk h.1.1
 rw [Array.getElem?_eq_getElem hl] at h1 ⊢
 simpa using h1
theorem yieldsC_moveG {o : Oper} {a : Act} {v : Value} (hw : Region.wanted o (yielded ops a.tmps) = true) (x : Operand) (ho : o.op = .move x) (hx : a.eval x = v) : YieldsC P ops C o v a :=
 .inl ⟨hw,fun w _ => by unfold execOp; simp only [ho,hx]; rfl⟩
theorem yieldsC_pickT {o : Oper} {a : Act} {v : Value} {x y z : Operand} (hw : Region.wanted o (yielded ops a.tmps) = true) (ho : o.op = .pick x y z) (hx : a.eval x = .bool true) (hy : a.eval y = v) : YieldsC Tryz.prog ops C o v a :=
 .inl ⟨hw,fun w _ => by unfold execOp; generalize a.eval = ρ at hx hy ⊢; simp only [ho,hx,hy]; go_simp⟩
theorem anyC_oneK {i : Nat} {o : Oper} {fuel : Nat} {listed : Array Bool} {a : Act} {w : World} (d : Option Tmp) (hr : Region.ready md ops listed = [i]) (hi : ops[i]? = some o) (hw : Region.wanted o (yielded ops a.tmps) = true) (hd : o.dst = d)
   (h : ∀ K : Act → World → Prop,(∀ v w',C w' → anyC P md ops C Q fuel (listed.setIfInBounds i true) (a.put d v) w' → K (a.put o.dst v) w') → Oper.wp P o a w K Q) : anyC P md ops C Q (fuel + 1) listed a w := by
 subst hd
 exact anyC_one hr hi hw (h _ (fun v w' hc hA => ⟨hc,hA⟩))
theorem anyC_last {i : Nat} {o : Oper} {fuel : Nat} {listed : Array Bool} {a : Act} {w : World} (hr : Region.ready md ops listed = [i]) (hr2 : Region.ready md ops (listed.setIfInBounds i true) = []) (hi : ops[i]? = some o) (hw : Region.wanted o (yielded ops a.tmps) = true)
   (h : ∀ K : Act → World → Prop,(∀ v w',C w' → Q .normal (a.put o.dst v) w' → K (a.put o.dst v) w') → Oper.wp P o a w K Q) : anyC P md ops C Q (fuel + 1) listed a w :=
 anyC_one hr hi hw (h _ (fun v w' hc hq => ⟨hc,anyC_done hr2 hq⟩))
variable {o : Oper} {a : Act} {w : World} {K : Act → World → Prop}
theorem wp_call5 {f : Nat} {x0 x1 x2 x3 x4 : Operand} {v0 v1 v2 v3 v4 : Value} {ts : Array TypeId} (ho : o.op = .call { callee := .value (.func f),args := #[x0,x1,x2,x3,x4],argTypes := ts }) (h0 : a.eval x0 = v0) (h1 : a.eval x1 = v1) (h2 : a.eval x2 = v2) (h3 : a.eval x3 = v3) (h4 : a.eval x4 = v4) (he : ∀ (vs : Array Value) (w : World),Sem.run P (callFunc f vs) w = .ok (.enter f vs) w)
   (h : Calls P f #[v0,v1,v2,v3,v4] w (fun | .returned v,w'' => K (a.put o.dst v) w'' | .panicked ch,w'' => Q (.panic ch) a w'' | .outgrown,_ => LetsOut Q)) : o.wp P a w K Q := by
 have hv : a.eval (.func f) = .func (.func f) #[] #[] := rfl
 unfold Oper.wp Oper.upon
 generalize hρ : a.eval = ρ at h0 h1 h2 h3 h4 hv ⊢
 simp [execOp,ho,resolve,invoke,hv,h0,h1,h2,h3,h4,he,Sem.run_bind,Result.andThen,go_sem]
 exact h
end
section
variable {P : Program} {ops : Array Oper} {md : Region.Mode} {C : World → Prop} {Q : Exit → Act → World → Prop} {o : Oper} {a : Act} {v : Value}
theorem yieldsC_addI {x y : Operand} {u z : Int} (hw : Region.wanted o (yielded ops a.tmps) = true) (ho : o.op = .binOp .add 3 x y 3) (hx : a.eval x = .int .i64 u) (hy : a.eval y = .int .i64 z) (t : Int) (hq : IntKind.i64.wrap (u + z) = t) : YieldsC Tryz.prog ops C o (.int .i64 t) a :=
 .inl ⟨hw,fun w _ => by unfold execOp; generalize a.eval = ρ at hx hy ⊢; simp only [ho,hx,hy]; subst hq; go_simp⟩
theorem yieldsC_eqI {x y : Operand} {u z : Int} (hw : Region.wanted o (yielded ops a.tmps) = true) (ho : o.op = .binOp .eql 3 x y 3) (hx : a.eval x = .int .i64 u) (hy : a.eval y = .int .i64 z) (b : Bool) (hb : (u == z) = b) : YieldsC Tryz.prog ops C o (.bool b) a :=
 .inl ⟨hw,fun w _ => by unfold execOp; generalize a.eval = ρ at hx hy ⊢; simp only [ho,hx,hy]; subst hb; go_simp⟩
variable {w : World} {K : Act → World → Prop}
theorem wp_call4 {f : Nat} {x0 x1 x2 x3 : Operand} {v0 v1 v2 v3 : Value} {ts : Array TypeId} (ho : o.op = .call { callee := .value (.func f),args := #[x0,x1,x2,x3],argTypes := ts }) (h0 : a.eval x0 = v0) (h1 : a.eval x1 = v1) (h2 : a.eval x2 = v2) (h3 : a.eval x3 = v3) (he : ∀ (vs : Array Value) (w : World),Sem.run P (callFunc f vs) w = .ok (.enter f vs) w)
   (h : Calls P f #[v0,v1,v2,v3] w (fun | .returned v,w'' => K (a.put o.dst v) w'' | .panicked ch,w'' => Q (.panic ch) a w'' | .outgrown,_ => LetsOut Q)) : o.wp P a w K Q := by
 have hv : a.eval (.func f) = .func (.func f) #[] #[] := rfl
 unfold Oper.wp Oper.upon
 generalize hρ : a.eval = ρ at h0 h1 h2 h3 hv ⊢
 simp [execOp,ho,resolve,invoke,hv,h0,h1,h2,h3,he,Sem.run_bind,Result.andThen,go_sem]
 exact h
end
section
variable {P : Program} {ops : Array Oper} {md : Region.Mode} {C : World → Prop} {Q : Exit → Act → World → Prop}
theorem anyC_two {i j : Nat} {oi oj : Oper} {fuel : Nat} {listed : Array Bool} {a : Act} {w : World} (di dj : Option Tmp) (hr : Region.ready md ops listed = [i,j]) (hi : ops[i]? = some oi) (hj : ops[j]? = some oj) (wi : Region.wanted oi (yielded ops a.tmps) = true) (wj : Region.wanted oj (yielded ops a.tmps) = true) (hdi : oi.dst = di) (hdj : oj.dst = dj)
   (h1 : ∀ K : Act → World → Prop,(∀ v w',C w' → anyC P md ops C Q fuel (listed.setIfInBounds i true) (a.put di v) w' → K (a.put oi.dst v) w') → Oper.wp P oi a w K Q)
   (h2 : ∀ K : Act → World → Prop,(∀ v w',C w' → anyC P md ops C Q fuel (listed.setIfInBounds j true) (a.put dj v) w' → K (a.put oj.dst v) w') → Oper.wp P oj a w K Q) : anyC P md ops C Q (fuel + 1) listed a w := by
 subst hdi
 subst hdj
 refine ⟨fun q => (by rw [hr] at q; cases q),fun k hk => ?_⟩
 rw [hr] at hk
 rcases List.mem_cons.1 hk with rfl | hk
 · unfold Go.wpOp
   simp only [hi,wi,if_true]
   exact .inl (h1 _ (fun v w' hc hA => ⟨hc,hA⟩))
 · obtain rfl := List.mem_singleton.1 hk
   unfold Go.wpOp
   simp only [hj,wj,if_true]
   exact .inl (h2 _ (fun v w' hc hA => ⟨hc,hA⟩))
theorem yieldsC_assign {o : Oper} {a : Act} {v : Value} (hw : Region.wanted o (yielded ops a.tmps) = true) (x : Operand) (ho : o.op = .assign x) (hx : a.eval x = v) : YieldsC P ops C o v a :=
 .inl ⟨hw,fun w _ => by unfold execOp; simp only [ho,hx]; rfl⟩
theorem AG.sub {m : Nat} {a : Act} {L L' : List (Nat × Value)} (h : AG m a L) (hs : ∀ q ∈ L',q ∈ L) : AG m a L' := ⟨h.1,fun q hq => h.2 q (hs q hq)⟩
variable {o : Oper} {a : Act} {w : World} {K : Act → World → Prop}
theorem wp_build1 {x : Operand} (ho : o.op = .buildSlice 29 1 #[(0,x)]) (z : Int) (hx : a.eval x = .int .i64 z) (h : K (a.put o.dst (.slice (some ⟨w.heap.size,0,none⟩) 1 1)) (w.alloc (.cells #[.int .i64 z] 3))) : Oper.wp Tryz.prog o a w K Q := by
 unfold Oper.wp Oper.upon execOp
 simp only [ho]
 generalize a.eval = ρ at hx ⊢
 go_simp
 exact h
theorem wp_push {base g : Nat} {v : Value} {xs : List Int} (y : Int) (s x : Operand)
   (ho : o.op = .call { callee := .builtin .append,args := #[s,x],argTypes := #[29,29] })
   (hs : a.eval s = v) (hn : Rw base w v xs) (hb : base ≤ w.heap.size) (hl : xs.length ≤ 1000000)
   (hx : a.eval x = .slice (some ⟨g,0,none⟩) 1 1) (hg : w.heap[g]? = some (.cells #[.int .i64 y] 3 (0,0)))
   (h : ∀ v' w',Rw base w' v' (xs ++ [y]) → Turned (fun k => v.ownBlock = some k) w w' → (∀ k,v'.ownBlock = some k → v.ownBlock = some k ∨ k = w.heap.size) → K (a.put o.dst v') w') : o.wp Tryz.prog a w K Q := by
 obtain ⟨i,i1,i2,i3,i4⟩ := int_info
 refine wp_append_lies w s x 29 ho base 3 i _ 1 8 Tryz.underlying29 i1 i2 i3 i4 rfl (by omega) v xs.length _ hs hn ⟨g,0,none⟩ 1 1 [.int .i64 y] hx (by simp)
   (fun j u hu => World.news_of_block hg j u (by simpa using hu)) (by intro u hu; simp at hu; subst hu; rfl) (by omega) (by simp only [maxLen]; omega) (by omega) hb _ rfl ?_
 intro g' cap w1 hown hgrow h4 _
 have ht : Turned (fun k => v.ownBlock = some k) w w1 := ⟨hgrow.os,hgrow.tape,hgrow.output,hgrow.size,fun k hk hne => hgrow.block k hk (fun e => hne e.symm)⟩
 refine h _ w1 ?_ ht (fun k q => ?_)
 · unfold Rw
   rw [List.length_append,List.map_append]
   exact hown
 · have : k = g' := by simpa [Value.ownBlock,eq_comm] using q
   subst this
   exact h4
end
section
variable {P : Program} {ops : Array Oper} {C : World → Prop} {o : Oper} {a : Act}
theorem yieldsC_cell (hw : Region.wanted o (yielded ops a.tmps) = true) (ty : TypeId) (x : Operand) (ho : o.op = .load ty x) (g i : Nat) (hx : a.eval x = .pointer (some ⟨g,i,none⟩)) (v : Value) (d : TypeDesc) (hu : P.underlying ty = some d) (hd : (match d with | .struct _ | .array _ _ => true | _ => false) = false) (hg : ∀ w,C w → w.cell? ⟨g,i,none⟩ = some v) : YieldsC P ops C o v a :=
 .inl ⟨hw,fun w hC => by
   have hl : (loadVar ty ⟨g,i,none⟩).run P w = .ok v w := run_loadVar_cell hu hd (hg w hC)
   unfold execOp
   simp only [ho,hx,Instr.loadAt,Instr.sureAddr,Sem.run_bind,Sem.run_pure,Result.andThen_ok,hl]⟩
end
end Go.Proofs.YtmafllcmkhgidaaGreatDoor
namespace Go.Proofs.YtmafllcmkhgidaaGreatDoor
end Go.Proofs.YtmafllcmkhgidaaGreatDoor
namespace Go.Proofs.YtmafllcmkhgidaaGreatDoor
open Go.RowKit Go.Sort Go.Maps Go.Shelf
theorem y_of {c : Cfg} (R : c.Ok) (w : World) : Calls Tryz.prog 19 #[.agg c.cells] w (Gives w (.tuple #[.agg c.arr,.int .i64 0])) := of_right c.wk c.cp c.pg c.st c.tr c.wt c.ck c.pr c.ca c.bi c.ba w R
theorem y_rwords {c : Cfg} (R : c.Ok) (w : World) : Calls Tryz.prog 50 #[.agg c.cells] w (Gives w (.int .i64 c.words)) := rwords c.wk c.cp c.pg c.st c.tr c.wt c.ck c.pr c.ca c.bi c.ba w R
theorem build_ref (c : Cfg) (W : World) : (Instr.build 56 #[(0,.agg c.cells)]).run Tryz.prog W = .ok (.agg c.cells) W := run_build W _ _ _ (by kernel_rfl)
theorem cells_one (c : Cfg) : c.cells.all (·.oneCell') = true := by simp [Cfg.cells,Value.oneCell']
theorem arr_one (c : Cfg) : c.arr.all (·.oneCell') = true := layArr_one ..
theorem wpList_ref {ops : Array Oper} {rest : List Oper} {o : Oper} {a : Act} {w : World} {Q : Exit → Act → World → Prop} (hw : Region.wanted o (yielded ops a.tmps) = true) (x : Operand) (ho : o.op = .build 56 #[(0,x)]) (c : Cfg)
   (hx : a.eval x = .agg c.cells) (h : wpList Tryz.prog ops Q rest (a.put o.dst (.agg c.cells)) w) : wpList Tryz.prog ops Q (o :: rest) a w :=
 wpList_wanted hw fun K hK => by
   have hb := build_ref c w
   unfold Oper.wp execOp
   simp only [ho,List.map_toArray,List.map_cons,List.map_nil,hx,Sem.run_bind,hb,Result.andThen_ok]
   exact hK _ _ h
theorem results_cct {P : Program} {fn : Func} {p q u : Tmp} {tp tq : TypeId} (h : fn.results = #[.cell p tp,.cell q tq,.tmp u]) (tmps : Array Value) (w : World) (g g' : Nat) (v v' : Value) (hp : tmps.getD p undef = .pointer (some ⟨g,0,none⟩)) (hq : tmps.getD q undef = .pointer (some ⟨g',0,none⟩))
   (h1 : (loadVar tp ⟨g,0,none⟩).run P w = .ok v w) (h2 : (loadVar tq ⟨g',0,none⟩).run P w = .ok v' w) : (results fn tmps).run P w = .ok (.tuple #[v,v',tmps.getD u undef]) w := by
 have hp' : tmps[p]?.getD undef = .pointer (some ⟨g,0,none⟩) := by simpa using hp
 have hq' : tmps[q]?.getD undef = .pointer (some ⟨g',0,none⟩) := by simpa using hq
 simp [results,h,asAddr,hp',hq',h1,h2,Sem.run_bind,Result.andThen]
def Begun8 (w : World) (c : Cfg) (e : Ending) (w' : World) : Prop :=
 ∃ (g n : Nat),(n : Int) = c.words ∧ e = .returned (.tuple #[.agg c.arr,.agg c.cells,.slice (some ⟨g,0,none⟩) n n]) ∧ Rw w.heap.size w' (.slice (some ⟨g,0,none⟩) n n) (zeros n) ∧ More w w'
section
variable {P : Program} {o : Oper} {a : Act} {w : World} {K : Act → World → Prop} {Q : Exit → Act → World → Prop}
theorem wp_call1 {f : Nat} {x0 : Operand} {v0 : Value} {ts : Array TypeId} (ho : o.op = .call { callee := .value (.func f),args := #[x0],argTypes := ts }) (h0 : a.eval x0 = v0) (he : ∀ (vs : Array Value) (w : World),Sem.run P (callFunc f vs) w = .ok (.enter f vs) w)
   (h : Calls P f #[v0] w (fun | .returned v,w'' => K (a.put o.dst v) w'' | .panicked ch,w'' => Q (.panic ch) a w'' | .outgrown,_ => LetsOut Q)) : o.wp P a w K Q := by
 have hv : a.eval (.func f) = .func (.func f) #[] #[] := rfl
 unfold Oper.wp Oper.upon
 generalize hρ : a.eval = ρ at h0 hv ⊢
 simp [execOp,ho,resolve,invoke,hv,h0,he,Sem.run_bind,Result.andThen,go_sem]
 exact h
theorem wp_make {t e : TypeId} {x : Operand} (ho : o.op = .makeSlice t x x) {n : Nat} {L : Int} (hx : a.eval x = .int .i64 L) (hL : L = (n : Int)) (i : TypeInfo) (z : Value) (h1 : P.underlying t = some (.slice e)) (h2 : P.info? e = some i) (h3 : i.zero = some z) (h4 : i.size = 1) (b2 : i.bytes * n ≤ 281474976710656) (b3 : n ≤ maxLen)
   (h : ∀ w',w'.ownsRow w.heap.size e 1 (.slice (some ⟨w.heap.size,0,none⟩) n n) n (madeCells z.cells (n * 1)).toList → w.grownBy w' none → K (a.put o.dst (.slice (some ⟨w.heap.size,0,none⟩) n n)) w') : o.wp P a w K Q := by
 obtain ⟨w',hrun,r1,r2⟩ := run_make_full (P:=P) (w:=w) w.heap.size t e i z 1 h1 h2 h3 h4 .i64 .i64 n b2 b3 (Nat.le_refl _)
 subst hL
 unfold Oper.wp Oper.upon
 generalize hρ : a.eval = ρ at hx ⊢
 simp [execOp,ho,hx,hrun,Result.andThen,Sem.run_bind]
 exact h w' r1 r2
theorem wp_assign {x : Operand} (ho : o.op = .assign x) {v : Value} (hx : a.eval x = v) (h : K (a.put o.dst v) w) : o.wp P a w K Q := by
 unfold Oper.wp execOp
 simp only [ho,hx]
 exact h
theorem ready_step {md : Region.Mode} {ops : Array Oper} {fuel : Nat} {listed : Array Bool} {i : Nat} {rs : List Nat} (d : Option Tmp) (ho : ops[i]? = some o) (hg : o.guard = none) (hd : o.dst = d)
   (h : ∀ K' : Act → World → Prop,(∀ v w,wpAny P md ops Q fuel (listed.setIfInBounds i true) (a.put d v) w → K' (a.put o.dst v) w) → Oper.wp P o a w K' Q)
   (hs : AllReady P md ops Q fuel listed a w rs) : AllReady P md ops Q fuel listed a w (i :: rs) :=
 AllReady.cons ho (fun K hK => by
   rw [if_pos (by simp [Region.wanted,hg])]
   exact h K fun v w' q => hK _ _ (by rw [hd]; exact q)) hs
end
def AF (a : Act) (L : List (Nat × Value)) : Prop := (22 ≤ a.tmps.size ∧ a.defers = []) ∧ ∀ q ∈ L,a.eval (.tmp q.1) = q.2
structure BS (w w6 : World) (d : Cfg) (x1 x2 : Array Value) (W : World) : Prop where
 a1 : W.heap[w6.heap.size]? = some (.cells d.arr 28 (0,0))
 a2 : W.heap[w6.heap.size + 1]? = some (.cells d.cells 56 (0,0))
 r1 : W.heap[w.heap.size + 1]? = some (.cells x1 28 (0,0))
 r2 : W.heap[w.heap.size + 2]? = some (.cells x2 56 (0,0))
 more : More w W
 s6 : w.heap.size + 3 ≤ w6.heap.size
theorem BS.step {w w6 W W' : World} {d : Cfg} {x1 x2 : Array Value} (h : BS w w6 d x1 x2 W) (m : More W W') : BS w w6 d x1 x2 W' := ⟨m.block h.a1,m.block h.a2,m.block h.r1,m.block h.r2,h.more.trans m,h.s6⟩
theorem BS.put1 {w w6 W : World} {d : Cfg} {x1 x2 : Array Value} (h : BS w w6 d x1 x2 W) (ys : Array Value) : BS w w6 d ys x2 (W.setRow (w.heap.size + 1) ys) :=
 ⟨(setRow_other _ _ _ _ (by have := h.s6; omega)).trans h.a1,(setRow_other _ _ _ _ (by have := h.s6; omega)).trans h.a2,setRow_heap _ _ _ _ _ _ h.r1,(setRow_other _ _ _ _ (by omega)).trans h.r2,h.more.setRow _ _ (by omega),h.s6⟩
theorem BS.put2 {w w6 W : World} {d : Cfg} {x1 x2 : Array Value} (h : BS w w6 d x1 x2 W) (ys : Array Value) : BS w w6 d x1 ys (W.setRow (w.heap.size + 2) ys) :=
 ⟨(setRow_other _ _ _ _ (by have := h.s6; omega)).trans h.a1,(setRow_other _ _ _ _ (by have := h.s6; omega)).trans h.a2,(setRow_other _ _ _ _ (by omega)).trans h.r1,setRow_heap _ _ _ _ _ _ h.r2,h.more.setRow _ _ (by omega),h.s6⟩
theorem rw_setRow {w W : World} {g k n : Nat} {v : Value} {xs : List Int} {cs : Array Value} (h : Rw w.heap.size W v xs) (hk : ∀ g',v.ownBlock = some g' → g' ≠ k) : Rw w.heap.size (W.setRow k cs) v xs := by
 refine ⟨h.1,?_⟩
 rcases h.2 with q | ⟨g,cap,cur,h1,h2,h3,h4⟩
 · exact .inl q
 · exact .inr ⟨g,cap,cur,h1,h2,(setRow_other _ _ _ _ (hk g (by rw [h1]; rfl))).trans h3,h4⟩
abbrev zero11 : Array Value := #[.int .i64 0,.int .i64 0,.int .i64 0,.int .i64 0,.int .i64 0,.int .i64 0,.int .i64 0,.int .i64 0,.int .i64 0,.int .i64 0,.int .i64 0]
abbrev zero24 : Array Value := #[.int .i64 0,.int .i64 0,.int .i64 0,.int .i64 0,.int .i64 0,.int .i64 0,.int .i64 0,.int .i64 0,.int .i64 0,.int .i64 0,.int .i64 0,.int .i64 0,.int .i64 0,.int .i64 0,.int .i64 0,.int .i64 0,.int .i64 0,.int .i64 0,.int .i64 0,.int .i64 0,.int .i64 0,.int .i64 0,.int .i64 0,.int .i64 0]
theorem begin_any {c : Cfg} (R : c.Ok) (y0 y1 y2 y3 y4 y5 y6 y7 y8 y9 y10 : Int) (w : World) (hS : ∀ W,Calls Tryz.prog 43 #[.agg #[.int .i64 y0,.int .i64 y1,.int .i64 y2,.int .i64 y3,.int .i64 y4,.int .i64 y5,.int .i64 y6,.int .i64 y7,.int .i64 y8,.int .i64 y9,.int .i64 y10]] W (Gives W (.agg #[.int .i64 c.wk,.int .i64 c.cp,.int .i64 c.pg,.int .i64 c.st,.int .i64 c.tr,.int .i64 c.wt,.int .i64 c.ck,.int .i64 c.pr,.int .i64 c.ca,.int .i64 c.bi,.int .i64 c.ba]))) :
   Calls Tryz.prog 24 #[.agg #[.int .i64 y0,.int .i64 y1,.int .i64 y2,.int .i64 y3,.int .i64 y4,.int .i64 y5,.int .i64 y6,.int .i64 y7,.int .i64 y8,.int .i64 y9,.int .i64 y10]] w (Begun8 w (smallC c)) := by
 have S := small_small R
 have SM := hQQ (fun W => small_any R y0 y1 y2 y3 y4 y5 y6 y7 y8 y9 y10 _ W hS rfl)
 generalize smallC c = d at S SM ⊢
 have RR := hQQ S.ok
 obtain ⟨wd0,wd1⟩ := S.words
 clear hS R S
 obtain ⟨n,hn⟩ : ∃ n : Nat,(n : Int) = d.words := ⟨d.words.toNat,by omega⟩
 obtain ⟨i0,hi0,hz0,hz1,hz2⟩ := int_info
 obtain ⟨w3,e3,hb0,hb1,hb2,m3,s3⟩ := entry3 w (.cells #[.int .i64 y0,.int .i64 y1,.int .i64 y2,.int .i64 y3,.int .i64 y4,.int .i64 y5,.int .i64 y6,.int .i64 y7,.int .i64 y8,.int .i64 y9,.int .i64 y10] 23) (.cells zero24 28) (.cells zero11 56)
 have e4 : ((w.alloc (.cells #[.int .i64 y0,.int .i64 y1,.int .i64 y2,.int .i64 y3,.int .i64 y4,.int .i64 y5,.int .i64 y6,.int .i64 y7,.int .i64 y8,.int .i64 y9,.int .i64 y10] 23)).alloc (.cells #[.int .i64 0,.int .i64 0,.int .i64 0,.int .i64 0,.int .i64 0,.int .i64 0,.int .i64 0,.int .i64 0,.int .i64 0,.int .i64 0,.int .i64 0,.int .i64 0,.int .i64 0,.int .i64 0,.int .i64 0,.int .i64 0,.int .i64 0,.int .i64 0,.int .i64 0,.int .i64 0,.int .i64 0,.int .i64 0,.int .i64 0,.int .i64 0] 28)).alloc (.cells #[.int .i64 0,.int .i64 0,.int .i64 0,.int .i64 0,.int .i64 0,.int .i64 0,.int .i64 0,.int .i64 0,.int .i64 0,.int .i64 0,.int .i64 0] 56) = w3 := e3
 clear e3
 have H0 := hQQ hb0
 have H1 := hQQ hb1
 have H2 := hQQ hb2
 have M3 := hQQ m3
 clear hb0 hb1 hb2 m3
 go_enter Tryz.func24,Tryz.ntmps24
 go_wp2_with (refine wpList_load_row rfl 23 _ rfl w.heap.size rfl 23 _ _ _ H0.out Tryz.underlying23 rfl (by kernel_rfl) ?_)
 refine (SM.out _).mono ?_
 rintro e w4 ⟨rfl,m4⟩
 have H0 := hQQ (m4.block H0.out)
 have H1 := hQQ (m4.block H1.out)
 have H2 := hQQ (m4.block H2.out)
 have M4 := hQQ (M3.out.trans m4)
 have s4 : w.heap.size + 3 ≤ w4.heap.size := by have := m4.size; omega
 clear m4
 go_wp2_with (first
   | (refine wpList_store_row rfl 23 _ _ rfl w.heap.size _ rfl rfl 23 _ H0.out (by kernel_rfl) rfl (cells_one d) ?_)
   | (refine wpList_load_row rfl 23 _ rfl w.heap.size rfl 23 _ _ _ (setRow_heap _ _ _ _ _ _ H0.out) Tryz.underlying23 rfl (by kernel_rfl) ?_))
 have K0 := hQQ (setRow_heap w4 w.heap.size _ d.cells _ _ H0.out)
 have K1 := hQQ ((setRow_other w4 w.heap.size (w.heap.size + 1) d.cells (by omega)).trans H1.out)
 have K2 := hQQ ((setRow_other w4 w.heap.size (w.heap.size + 2) d.cells (by omega)).trans H2.out)
 have M5 : Hid (More w (w4.setRow w.heap.size d.cells)) := hQQ (M4.out.setRow _ _ (Nat.le_refl _))
 have s5 : w.heap.size + 3 ≤ (w4.setRow w.heap.size d.cells).heap.size := by simpa using s4
 clear H0 H1 H2 M4 s4
 generalize w4.setRow w.heap.size d.cells = w5 at K0 K1 K2 M5 s5 ⊢
 refine (y_of RR.out _).mono ?_
 rintro e w6 ⟨rfl,m6⟩
 have A1 := row_new w6 zero24 28
 have L0 := hQQ (m6.block K0.out)
 have L1 := hQQ (m6.block K1.out)
 have L2 := hQQ (m6.block K2.out)
 have M6 := hQQ (M5.out.trans m6)
 have s6 : w.heap.size + 3 ≤ w6.heap.size := by have := m6.size; omega
 clear K0 K1 K2 M5 s5 m6
 have m7 : More w6 ((w6.alloc (.cells zero24 28)).setRow w6.heap.size d.arr) := ((More.refl w6).alloc _).setRow _ _ (Nat.le_refl _)
 have B1 := hQQ (setRow_heap _ _ _ d.arr _ _ A1)
 have B0 := hQQ (m7.block L0.out)
 have B2 := hQQ (m7.block L1.out)
 have B3 := hQQ (m7.block L2.out)
 have M7 := hQQ (M6.out.trans m7)
 have s7 : ((w6.alloc (.cells zero24 28)).setRow w6.heap.size d.arr).heap.size = w6.heap.size + 1 := by simp
 go_wp2_with (first
   | (refine wpList_store_row rfl 28 _ _ rfl w6.heap.size _ rfl rfl 28 zero24 A1 (by kernel_rfl) rfl (arr_one d) ?_)
   | (refine wpList_load_row rfl 23 _ rfl w.heap.size rfl 23 _ _ _ B0.out Tryz.underlying23 rfl (by kernel_rfl) ?_)
   | ((with_reducible refine wpList_ref ?_ (.tmp 15) ?_ d ?_ ?_); rfl; rfl; rfl)
   | (refine wpList_store_row rfl 56 _ _ rfl (w6.heap.size + 1) _ rfl rfl 56 zero11 (by rw [← s7]; exact row_new _ _ _) (by kernel_rfl) rfl (cells_one d) ?_))
 generalize hw7 : World.setRow (World.alloc w6 _) w6.heap.size d.arr = w7
 have F7 : w7.heap.size = w6.heap.size + 1 := by rw [← hw7]; exact s7
 have A7 := row_new w7 zero11 56
 have m7' : More w6 w7 := by rw [← hw7]; exact m7
 have G1 : w7.heap[w6.heap.size]? = some (.cells d.arr 28 (0,0)) := by rw [← hw7]; exact B1.out
 rw [F7] at A7
 generalize hw8 : World.setRow (World.alloc w7 _) (w6.heap.size + 1) d.cells = w8
 have m8 : More w7 w8 := by rw [← hw8]; exact ((More.refl w7).alloc _).setRow _ _ (by omega)
 have m68 := m7'.trans m8
 have N1 := hQQ (m8.block G1)
 have N2 : Hid (w8.heap[w6.heap.size + 1]? = some (.cells d.cells 56 (0,0))) := hQQ (by rw [← hw8]; exact setRow_heap _ _ _ _ _ _ A7)
 have N3 := hQQ (m68.block L1.out)
 have N4 := hQQ (m68.block L2.out)
 have M8 := hQQ (M6.out.trans m68)
 have s8 : w6.heap.size + 2 ≤ w8.heap.size := lt_of_heap N2.out
 clear hw7 hw8 m7 m7' G1 A7 F7 m8 m68 B0 B1 B2 B3 M7 s7 A1 L0 L1 L2 M6 SM
 have HEN := enters_of Tryz.func50 (by kernel_rfl) rfl
 have hmx : Tryz.prog.follows .mixedOrders = true := by kernel_rfl
 have HBY : i0.bytes * n ≤ 281474976710656 := by rw [hz2]; omega
 have HML : n ≤ maxLen := by unfold maxLen; omega
 have HMK : Hid (∀ (W W3 : World) (x1 x2 : Array Value),BS w w6 d x1 x2 W → W3.ownsRow W.heap.size 3 1 (.slice (some ⟨W.heap.size,0,none⟩) n n) n (madeCells (Value.int .i64 0).cells (n * 1)).toList → W.grownBy W3 none → BS w w6 d x1 x2 W3 ∧ Rw w.heap.size W3 (.slice (some ⟨W.heap.size,0,none⟩) n n) (zeros n) ∧ w.heap.size + 3 ≤ W.heap.size) := hQQ fun W W3 x1 x2 hb q1 q2 => by
   have m : More W W3 := ⟨q2.os,q2.tape,q2.output,q2.size,fun k hk _ => q2.block k hk (by simp)⟩
   have := hb.s6
   have := lt_of_heap hb.a1
   rw [zeros_made] at q1
   refine ⟨hb.step m,?_,by omega⟩
   unfold Rw
   rw [zeros_len]
   exact ownsRow_low q1 (by omega)
 refine wp_region_anyC (fun W => ∃ x1 x2,BS w w6 d x1 x2 W) hmx ?_
 have BB : BS w w6 d zero24 zero11 (w8.drewN 1) := ⟨N1.out,N2.out,N3.out,N4.out,M8.out.drewN 1,by omega⟩
 clear N1 N2 N3 N4 M8 wd0 wd1 hz2
 change anyC _ _ _ _ _ _ _ _ (w8.drewN 1)
 generalize w8.drewN 1 = W2 at BB ⊢
 refine anyC_start (fun a W => a.eval (.tmp 2) = .pointer (some ⟨w.heap.size + 1,0,none⟩) ∧ a.eval (.tmp 3) = .pointer (some ⟨w.heap.size + 2,0,none⟩) ∧ ∃ g,a.eval (.tmp 4) = .slice (some ⟨g,0,none⟩) n n ∧ Rw w.heap.size W (.slice (some ⟨g,0,none⟩) n n) (zeros n) ∧ BS w w6 d d.arr d.cells W ∧ a.defers = []) (fun _ => False) [] (fun a W hd h => h.elim) (fun _ _ _ _ _ h => h) ?_ ?_
 · rintro a W ⟨t2,t3,g,t4,RG,BB,hdf⟩
   go_wp2_with fail
   have h4 : a.tmps.getD 4 undef = .slice (some ⟨g,0,none⟩) n n := t4
   refine bodyPost_ret (results_cct Tryz.results24 _ _ (w.heap.size + 1) (w.heap.size + 2) _ _ t2 t3 (run_loadVar_row _ _ _ _ _ _ _ BB.r1 Tryz.underlying28 rfl (by kernel_rfl)) (run_loadVar_row _ _ _ _ _ _ _ BB.r2 Tryz.underlying56 rfl (by kernel_rfl))) hdf ?_
   exact ⟨g,n,hn,by rw [h4],RG,BB.more⟩
 intro QQ FIN FIND FINQ
 refine frame_c 22 [(5,.pointer (some ⟨w6.heap.size,0,none⟩)),(7,.pointer (some ⟨w6.heap.size + 1,0,none⟩)),(2,.pointer (some ⟨w.heap.size + 1,0,none⟩)),(3,.pointer (some ⟨w.heap.size + 2,0,none⟩))] ⟨⟨Nat.le_of_ble_eq_true rfl,rfl⟩,?_⟩ (fun A HF => ?_)
 · intro q hq
   simp only [List.mem_cons,List.not_mem_nil,or_false] at hq
   rcases hq with rfl | rfl | rfl | rfl <;> rfl
 refine anyC_takeD (i:=0) (v:=.agg d.arr) (some 17) rfl rfl (by kernel_rfl) (by kernel_rfl) (by kernel_rfl) (fun c a w => FINQ c a _ _ w) ⟨_,_,BB⟩ (by exact yieldsC_row (C:=(fun W => ∃ x1 x2,BS w w6 d x1 x2 W)) (wanted_none rfl) 28 _ rfl (w6.heap.size) (HF.get 0 rfl) 28 _ _ _ (fun W hW => by obtain ⟨_,_,h⟩ := hW; exact h.a1) Tryz.underlying28 rfl (by kernel_rfl)) ?_
 replace HF := HF.put 17 (.agg d.arr) (by decide) rfl
 generalize Act.put _ _ _ = A at HF ⊢
 refine anyC_takeD (i:=1) (v:=.agg d.cells) (some 18) rfl rfl (by kernel_rfl) (by kernel_rfl) (by kernel_rfl) (fun c a w => FINQ c a _ _ w) ⟨_,_,BB⟩ (by exact yieldsC_row (C:=(fun W => ∃ x1 x2,BS w w6 d x1 x2 W)) (wanted_none rfl) 56 _ rfl (w6.heap.size + 1) (HF.get 2 rfl) 56 _ _ _ (fun W hW => by obtain ⟨_,_,h⟩ := hW; exact h.a2) Tryz.underlying56 rfl (by kernel_rfl)) ?_
 replace HF := HF.put 18 (.agg d.cells) (by decide) rfl
 generalize Act.put _ _ _ = A at HF ⊢
 refine anyC_takeD (i:=2) (v:=.agg d.cells) (some 19) rfl rfl (by kernel_rfl) (by kernel_rfl) (by kernel_rfl) (fun c a w => FINQ c a _ _ w) ⟨_,_,BB⟩ (by exact yieldsC_row (C:=(fun W => ∃ x1 x2,BS w w6 d x1 x2 W)) (wanted_none rfl) 56 _ rfl (w6.heap.size + 1) (HF.get 3 rfl) 56 _ _ _ (fun W hW => by obtain ⟨_,_,h⟩ := hW; exact h.a2) Tryz.underlying56 rfl (by kernel_rfl)) ?_
 replace HF := HF.put 19 (.agg d.cells) (by decide) rfl
 generalize Act.put _ _ _ = A at HF ⊢
 refine anyC_oneK (i:=3) (some 20) (by kernel_rfl) rfl (wanted_none rfl) rfl (fun K hK => ?_)
 refine wp_call1 (v0:=.agg d.cells) rfl (HF.get 0 rfl) HEN ?_
 refine (y_rwords RR.out _).mono ?_
 rintro e W4 ⟨rfl,m2⟩
 have BB := BB.step m2
 clear m2
 refine hK _ _ ⟨_,_,BB⟩ ?_
 clear hK K
 replace HF := HF.put 20 (.int .i64 d.words) (by decide) rfl
 generalize Act.put _ _ _ = A at HF ⊢
 refine anyC_two (i:=4) (j:=5) (some 21) none (by kernel_rfl) rfl rfl (wanted_none rfl) (wanted_none rfl) rfl rfl (fun K hK => ?_) (fun K hK => ?_)
 · refine wp_make (n:=n) rfl (HF.get 0 rfl) hn.symm i0 (.int .i64 0) Tryz.underlying29 hi0 hz0 hz1 HBY HML ?_
   intro W3 q1 q2
   obtain ⟨BB,RG,HGn⟩ := HMK.out _ _ _ _ BB q1 q2
   clear q1 q2
   generalize HGG : W4.heap.size = GG at RG HGn ⊢
   refine hK _ _ ⟨_,_,BB⟩ ?_
   clear hK K
   replace HF := HF.put 21 (.slice (some ⟨GG,0,none⟩) n n) (by decide) rfl
   generalize Act.put _ _ _ = A at HF ⊢
   refine anyC_oneK (i:=5) none (by kernel_rfl) rfl (wanted_none rfl) rfl (fun K hK => ?_)
   refine wp_store_row 28 _ _ rfl (w.heap.size + 1) _ (HF.get 7 rfl) (HF.get 4 rfl) 28 zero24 BB.r1 (by kernel_rfl) rfl (arr_one d) ?_
   have RG := rw_setRow (k:=w.heap.size + 1) (cs:=d.arr) (g:=0) (n:=0) RG (fun g' q => by cases q; show GG ≠ _; omega)
   have BB := BB.put1 d.arr
   refine hK _ _ ⟨_,_,BB⟩ ?_
   clear hK K
   rw [show ∀ (a : Act) (v : Value),a.put none v = a from fun _ _ => rfl]
   generalize World.setRow _ _ _ = W5 at BB RG ⊢
   refine anyC_oneK (i:=6) none (by kernel_rfl) rfl (wanted_none rfl) rfl (fun K hK => ?_)
   refine wp_store_row 56 _ _ rfl (w.heap.size + 2) _ (HF.get 8 rfl) (HF.get 3 rfl) 56 zero11 BB.r2 (by kernel_rfl) rfl (cells_one d) ?_
   have RG := rw_setRow (k:=w.heap.size + 2) (cs:=d.cells) (g:=0) (n:=0) RG (fun g' q => by cases q; show GG ≠ _; omega)
   have BB := BB.put2 d.cells
   refine hK _ _ ⟨_,_,BB⟩ ?_
   clear hK K
   rw [show ∀ (a : Act) (v : Value),a.put none v = a from fun _ _ => rfl]
   generalize World.setRow _ _ _ = W6 at BB RG ⊢
   refine anyC_oneK (i:=7) (some 4) (by kernel_rfl) rfl (wanted_none rfl) rfl (fun K hK => ?_)
   refine wp_assign rfl (HF.get 0 rfl) ?_
   refine hK _ _ ⟨_,_,BB⟩ ?_
   clear hK K
   replace HF := HF.put 4 (.slice (some ⟨GG,0,none⟩) n n) (by decide) rfl
   generalize Act.put _ _ _ = A at HF ⊢
   exact anyC_done (by kernel_rfl) (FIN _ _ ⟨HF.get 8 rfl,HF.get 9 rfl,_,HF.get 0 rfl,RG,BB,HF.1.2⟩)
 · refine wp_store_row 28 _ _ rfl (w.heap.size + 1) _ (HF.get 6 rfl) (HF.get 3 rfl) 28 zero24 BB.r1 (by kernel_rfl) rfl (arr_one d) ?_
   have BB := BB.put1 d.arr
   refine hK _ _ ⟨_,_,BB⟩ ?_
   clear hK K
   rw [show ∀ (a : Act) (v : Value),a.put none v = a from fun _ _ => rfl]
   generalize World.setRow _ _ _ = W5 at BB ⊢
   refine anyC_two (i:=4) (j:=6) (some 21) none (by kernel_rfl) rfl rfl (wanted_none rfl) (wanted_none rfl) rfl rfl (fun K hK => ?_) (fun K hK => ?_)
   · refine wp_make (n:=n) rfl (HF.get 0 rfl) hn.symm i0 (.int .i64 0) Tryz.underlying29 hi0 hz0 hz1 HBY HML ?_
     intro W3 q1 q2
     obtain ⟨BB,RG,HGn⟩ := HMK.out _ _ _ _ BB q1 q2
     clear q1 q2
     generalize HGG : W5.heap.size = GG at RG HGn ⊢
     refine hK _ _ ⟨_,_,BB⟩ ?_
     clear hK K
     replace HF := HF.put 21 (.slice (some ⟨GG,0,none⟩) n n) (by decide) rfl
     generalize Act.put _ _ _ = A at HF ⊢
     refine anyC_oneK (i:=6) none (by kernel_rfl) rfl (wanted_none rfl) rfl (fun K hK => ?_)
     refine wp_store_row 56 _ _ rfl (w.heap.size + 2) _ (HF.get 8 rfl) (HF.get 3 rfl) 56 zero11 BB.r2 (by kernel_rfl) rfl (cells_one d) ?_
     have RG := rw_setRow (k:=w.heap.size + 2) (cs:=d.cells) (g:=0) (n:=0) RG (fun g' q => by cases q; show GG ≠ _; omega)
     have BB := BB.put2 d.cells
     refine hK _ _ ⟨_,_,BB⟩ ?_
     clear hK K
     rw [show ∀ (a : Act) (v : Value),a.put none v = a from fun _ _ => rfl]
     generalize World.setRow _ _ _ = W6 at BB RG ⊢
     refine anyC_oneK (i:=7) (some 4) (by kernel_rfl) rfl (wanted_none rfl) rfl (fun K hK => ?_)
     refine wp_assign rfl (HF.get 0 rfl) ?_
     refine hK _ _ ⟨_,_,BB⟩ ?_
     clear hK K
     replace HF := HF.put 4 (.slice (some ⟨GG,0,none⟩) n n) (by decide) rfl
     generalize Act.put _ _ _ = A at HF ⊢
     exact anyC_done (by kernel_rfl) (FIN _ _ ⟨HF.get 8 rfl,HF.get 9 rfl,_,HF.get 0 rfl,RG,BB,HF.1.2⟩)
   · refine wp_store_row 56 _ _ rfl (w.heap.size + 2) _ (HF.get 7 rfl) (HF.get 2 rfl) 56 zero11 BB.r2 (by kernel_rfl) rfl (cells_one d) ?_
     have BB := BB.put2 d.cells
     refine hK _ _ ⟨_,_,BB⟩ ?_
     clear hK K
     rw [show ∀ (a : Act) (v : Value),a.put none v = a from fun _ _ => rfl]
     generalize World.setRow _ _ _ = W6 at BB ⊢
     refine anyC_oneK (i:=4) (some 21) (by kernel_rfl) rfl (wanted_none rfl) rfl (fun K hK => ?_)
     refine wp_make (n:=n) rfl (HF.get 0 rfl) hn.symm i0 (.int .i64 0) Tryz.underlying29 hi0 hz0 hz1 HBY HML ?_
     intro W3 q1 q2
     obtain ⟨BB,RG,HGn⟩ := HMK.out _ _ _ _ BB q1 q2
     clear q1 q2
     generalize HGG : W6.heap.size = GG at RG HGn ⊢
     refine hK _ _ ⟨_,_,BB⟩ ?_
     clear hK K
     replace HF := HF.put 21 (.slice (some ⟨GG,0,none⟩) n n) (by decide) rfl
     generalize Act.put _ _ _ = A at HF ⊢
     refine anyC_oneK (i:=7) (some 4) (by kernel_rfl) rfl (wanted_none rfl) rfl (fun K hK => ?_)
     refine wp_assign rfl (HF.get 0 rfl) ?_
     refine hK _ _ ⟨_,_,BB⟩ ?_
     clear hK K
     replace HF := HF.put 4 (.slice (some ⟨GG,0,none⟩) n n) (by decide) rfl
     generalize Act.put _ _ _ = A at HF ⊢
     exact anyC_done (by kernel_rfl) (FIN _ _ ⟨HF.get 8 rfl,HF.get 9 rfl,_,HF.get 0 rfl,RG,BB,HF.1.2⟩)
def b2i (b : Bool) : Int := if b then 1 else 0
def ensureW (pg st x y : Int) (ws : List Int) : Int × List Int := if thereB pg x y then ensureV pg st (spanV x y) (x / 4) 0 ws else (0,ws)
def countW (pg st : Int) (ws : List Int) : Int := countV pg st (chunksV pg).toNat 0 0 ws
section
variable {pg st : Int} {n : Nat} (H : TblIn pg st n)
include H
theorem good_ensure (x y : Int) : Good n (fun _ => True) (ensureP pg st x y) := by
 unfold ensureP; split
 · exact good_imp (good_ensureN H _ _ 0 (by omega)) (fun _ _ => trivial)
 · exact good_pure n trivial
theorem flat_ensure (x y : Int) : Flat n (ensureP pg st x y) (ensureW pg st x y) := by
 unfold ensureP
 split
 · rename_i h
   exact flat_eq (flat_ensureN H _ _ 0) (fun ws _ => by unfold ensureW; rw [if_pos h])
 · rename_i h
   exact flat_eq (flat_pure n 0) (fun ws _ => by unfold ensureW; rw [if_neg h])
end
structure Off (pg st : Int) (ws ws' : List Int) : Prop where
 len : ws'.length = ws.length
 ok : OkW ws → OkW ws'
 eq : ∀ i : Int,0 ≤ i → (∀ k,isChunk pg k = true → i ≠ tblV pg st k) → wAt ws' i = wAt ws i
structure Back (pg st : Int) (zs xs : List Int) (k : Nat) : Prop where
 len : xs.length = zs.length
 eq : ∀ i : Int,0 ≤ i → (∀ j,isChunk pg j = true → (k : Int) ≤ j → i ≠ tblV pg st j) → wAt xs i = wAt zs i
end Go.Proofs.YtmafllcmkhgidaaGreatDoor
namespace Go.Proofs.YtmafllcmkhgidaaGreatDoor
structure Ones (ws ws' : List Int) (S : Int → Prop) : Prop where
 len : ws'.length = ws.length
 eq : ∀ i : Int,0 ≤ i → (S i → wAt ws' i = 1) ∧ (¬ S i → wAt ws' i = wAt ws i)
theorem ones_refl (ws : List Int) (S : Int → Prop) (h : ∀ i,¬ S i) : Ones ws ws S := ⟨rfl,fun i _ => ⟨fun q => absurd q (h i),fun _ => rfl⟩⟩
theorem ones_turn {pg st : Int} {n : Nat} (H : TblIn pg st n) {ws a : List Int} {S : Int → Prop} (h : Ones ws a S) (hn : ws.length = n) {k : Int} (hk : isChunk pg k = true) : Ones ws (turnV pg st k 1 a).2 (fun i => S i ∨ i = tblV pg st k) := by
 obtain ⟨t0,t1,t2⟩ := tbl_b H hk
 have hv : ∀ i : Int,0 ≤ i → wAt (turnV pg st k 1 a).2 i = if i = tblV pg st k then 1 else wAt a i := fun i h0 => by
   unfold turnV
   rw [if_pos hk]
   split
   · rename_i q
     have : wAt a (tblV pg st k) = 1 := by
       unfold mappedV at q; rw [hk] at q; simpa using q
     split
     · rename_i e; rw [e]; exact this
     · rfl
   · rw [show (sizeV pg k,a.set (tblV pg st k).toNat 1).2 = a.set (tblV pg st k).toNat 1 from rfl,wAt_set (by omega) h0 (by rw [h.len,hn]; exact t1)]
 refine ⟨by rw [turn_len]; exact h.len,fun i h0 => ⟨fun q => ?_,fun q => ?_⟩⟩
 · rw [hv i h0]
   split
   · rfl
   · rename_i e; exact (h.eq i h0).1 (q.resolve_right e)
 · rw [hv i h0,if_neg (fun e => q (.inr e))]
   exact (h.eq i h0).2 (fun r => q (.inl r))
theorem ones_ensure {pg st : Int} {n : Nat} (H : TblIn pg st n) (m : Nat) : ∀ (k s : Int) (ws a : List Int) (S : Int → Prop),ws.length = n → Ones ws a S → (∀ i : Nat,i < m → isChunk pg (k + i) = true) → Ones ws (ensureV pg st m k s a).2 (fun i => S i ∨ ∃ j : Nat,j < m ∧ i = tblV pg st (k + j)) := by
 induction m with
 | zero =>
   intro k s ws a S hn h hc
   exact ⟨h.len,fun i h0 => ⟨fun q => by rcases q with q | ⟨j,hj,_⟩; exact (h.eq i h0).1 q; omega,fun q => (h.eq i h0).2 (fun r => q (.inl r))⟩⟩
 | succ m ih =>
   intro k s ws a S hn h hc
   have h1 := ones_turn H h hn (by simpa using hc 0 (by omega))
   have h2 := ih (k + 1) (s + (turnV pg st k 1 a).1) ws _ _ hn h1 (fun i hi => by have := hc (i + 1) (by omega); rwa [show k + ((i + 1 : Nat) : Int) = k + 1 + (i : Int) by omega] at this)
   refine ⟨h2.len,fun i h0 => ?_⟩
   have e : (S i ∨ ∃ j : Nat,j < m + 1 ∧ i = tblV pg st (k + j)) ↔ ((S i ∨ i = tblV pg st k) ∨ ∃ j : Nat,j < m ∧ i = tblV pg st (k + 1 + j)) := by
     constructor
     · rintro (q | ⟨j,hj,q⟩)
       · exact .inl (.inl q)
       · cases j with
         | zero => exact .inl (.inr (by simpa using q))
         | succ j => exact .inr ⟨j,by omega,by rw [q]; congr 1; omega⟩
     · rintro ((q | q) | ⟨j,hj,q⟩)
       · exact .inl q
       · exact .inr ⟨0,by omega,by simpa using q⟩
       · exact .inr ⟨j + 1,by omega,by rw [q]; congr 1; omega⟩
   exact ⟨fun q => (h2.eq i h0).1 (e.1 q),fun q => (h2.eq i h0).2 (fun r => q (e.2 r))⟩
end Go.Proofs.YtmafllcmkhgidaaGreatDoor
namespace Go.Proofs.YtmafllcmkhgidaaGreatDoor
open Go.RowKit Go.Sort Go.Maps Go.Shelf
theorem rows2 (w : World) (x1 x2 y1 y2 : Array Value) (t1 t2 : TypeId) : ∃ W,(((w.alloc (.cells x1 t1)).alloc (.cells x2 t2)).setRow w.heap.size y1).setRow (w.heap.size + 1) y2 = W ∧
   ((w.alloc (.cells x1 t1)).alloc (.cells x2 t2)).heap[w.heap.size]? = some (.cells x1 t1 (0,0)) ∧ (((w.alloc (.cells x1 t1)).alloc (.cells x2 t2)).setRow w.heap.size y1).heap[w.heap.size + 1]? = some (.cells x2 t2 (0,0)) ∧
   W.heap[w.heap.size]? = some (.cells y1 t1 (0,0)) ∧ More w W ∧ w.heap.size + 2 ≤ W.heap.size := by
 have h0 := row_new w x1 t1
 have s0 : (w.alloc (.cells x1 t1)).heap.size = w.heap.size + 1 := by simp
 have m0 : More w (w.alloc (.cells x1 t1)) := (More.refl _).alloc _
 generalize w.alloc (.cells x1 t1) = w1 at h0 s0 m0 ⊢
 have h1 := row_new w1 x2 t2
 rw [s0] at h1
 have s1 : (w1.alloc (.cells x2 t2)).heap.size = w.heap.size + 2 := by simp [s0]
 have m1 : More w1 (w1.alloc (.cells x2 t2)) := (More.refl _).alloc _
 generalize w1.alloc (.cells x2 t2) = w2 at h1 s1 m1 ⊢
 have a0 := m1.block h0
 refine ⟨_,rfl,a0,(setRow_other _ _ _ _ (by omega)).trans h1,(setRow_other _ _ _ _ (by omega)).trans (setRow_heap _ _ _ _ _ _ a0),((m0.trans m1).setRow _ _ (by omega)).setRow _ _ (by omega),?_⟩
 simp [s1]
theorem zeros_row (w : World) (g k : Nat) (h : w.heap[g]? = some (.cells (rowOf (zeros k)) 3 (0,0))) : IsWords w (some ⟨g,0,none⟩) (zeros k) :=
 .inr ⟨g,0,rfl,lt_of_heap h,fun i hi => by
   rw [Nat.zero_add,cell_of_row w g i _ _ _ h]
   rw [zeros_len] at hi
   simp [rowOf,zeros,hi]⟩
theorem run_make_zeros (k : Nat) (hk : k ≤ 1000000) (w : World) :
   (Instr.makeSlice 29 (.int .i64 (k : Int)) (.int .i64 (k : Int))).run Tryz.prog w = .ok (.slice (some ⟨w.heap.size,0,none⟩) k k) (w.alloc (.cells (rowOf (zeros k)) 3)) := by
 obtain ⟨i,hi,hz,hs,hb⟩ := int_info
 have := run_make (P:=Tryz.prog) w 29 3 i (.int .i64 0) Tryz.underlying29 hi hz .i64 .i64 k k (by omega) (by omega) (by rw [hb]; omega) (by omega)
 rw [this]
 simp only [Int.toNat_natCast,hs,Nat.mul_one]
 have e : madeCells (Value.int .i64 0).cells k = rowOf (zeros k) := by
   apply Array.ext
   · simp [size_madeCells,rowOf,zeros]
   · intro j h1 h2
     simp [madeCells,rowOf,zeros,Value.cells,Nat.mod_one]
 rw [e]
end Go.Proofs.YtmafllcmkhgidaaGreatDoor
namespace Go.Proofs.YtmafllcmkhgidaaGreatDoor
def TrC (c : Cfg) (g1 : Nat) (W : World) : Prop := W.heap[g1]? = some (.cells c.arr 28 (0,0))
structure TrY (c : Cfg) (g1 g2 : Nat) (w : World) : Prop where
 h1 : w.heap[g1]? = some (.cells c.arr 28 (0,0))
 h2 : ∃ b,BoxB g2 w b
def isPage (pg p : Int) : Bool := decide (0 ≤ p) && decide (p < pg)
theorem isPage_iff {pg p : Int} : isPage pg p = true ↔ 0 ≤ p ∧ p < pg := by simp [isPage]
theorem isPage_not {pg p : Int} : isPage pg p = false ↔ ¬ (0 ≤ p ∧ p < pg) := by
 cases h : isPage pg p with
 | true => simp [isPage_iff.1 h]
 | false => simp only [true_iff]; intro q; rw [isPage_iff.2 q] at h; cases h
def kA (pg st p : Int) : Int := tableV st + chunksV pg + p
def cA (pg st p : Int) : Int := tableV st + chunksV pg + pg + p
def bA (pg st p : Int) : Int := tableV st + chunksV pg + 2 * pg + p
theorem page0 {pg st p : Int} (h : isPage pg p = true) : pageV pg st 0 p = kA pg st p := by unfold pageV kA; rw [if_pos (isPage_iff.1 h)]; omega
theorem page1 {pg st p : Int} (h : isPage pg p = true) : pageV pg st 1 p = cA pg st p := by unfold pageV cA; rw [if_pos (isPage_iff.1 h)]; omega
theorem page2 {pg st p : Int} (h : isPage pg p = true) : pageV pg st 2 p = bA pg st p := by unfold pageV bA; rw [if_pos (isPage_iff.1 h)]
theorem pageN {pg st i p : Int} (h : isPage pg p = false) : pageV pg st i p = 0 := by unfold pageV; rw [if_neg (isPage_not.1 h)]
def ekindP (pg st p : Int) : Prg Int := if isPage pg p then readP (kA pg st p) else pureP (-1)
def eputP (pg st p k x : Int) : Prg Unit := bindP (writeP (kA pg st p) k) fun _ => bindP (writeP (cA pg st p) x) fun _ => writeP (bA pg st p) 0
def evacN (pg st : Int) : Nat → Int → Prg Bool
 | 0,_ => pureP true
 | m + 1,q => bindP (ekindP pg st q) (fun k => if k = 0 then evacN pg st m (q + 1) else pureP false)
def evacP (pg st p n : Int) : Prg Bool := if thereB pg p n then evacN pg st n.toNat p else pureP false
def eputN (pg st k : Int) : Nat → Int → Prg Unit
 | 0,_ => pureP ()
 | m + 1,q => bindP (eputP pg st q k 0) fun _ => eputN pg st k m (q + 1)
def clsB (k : Int) : Bool := decide (1 ≤ k) && decide (k ≤ 5)
theorem cls_iff {k : Int} : clsB k = true ↔ 1 ≤ k ∧ k ≤ 5 := by simp [clsB]
def fitB (k n : Int) : Bool := decide (k = 6) || (clsB k && decide (n = 1))
theorem fit_iff {k n : Int} : fitB k n = true ↔ k = 6 ∨ (1 ≤ k ∧ k ≤ 5 ∧ n = 1) := by simp [fitB,clsB,and_assoc]
def etakeP (pg st p n k : Int) : Prg Bool := if fitB k n then bindP (evacP pg st p n) (fun b => if b then bindP (ensureP pg st p n) (fun _ => bindP (eputP pg st p k (if k = 6 then n else 0)) (fun _ => bindP (eputN pg st 7 (n - 1).toNat (p + 1)) (fun _ => pureP true))) else pureP false) else pureP false
def elenP (pg st p : Int) : Prg Int := bindP (ekindP pg st p) (fun k => if clsB k then pureP 1 else if k = 6 then bindP (readP (cA pg st p)) (fun x => pureP (max 1 (min x (pg - p)))) else pureP 0)
def edropP (pg st p : Int) : Prg Int := bindP (elenP pg st p) (fun n => bindP (eputN pg st 0 n.toNat p) (fun _ => pureP n))
def efreeP (pg st q : Int) : Prg Bool := bindP (ekindP pg st q) (fun k => pureP (decide (k = 0)))
def eopenP (pg st q : Int) : Prg Bool := bindP (mappedP pg st (ofV q)) (fun b => if b then efreeP pg st q else pureP false)
def escanN (f : Int → Prg Bool) : Nat → Int → Prg (Option Int)
 | 0,_ => pureP none
 | m + 1,q => bindP (f q) (fun b => if b then escanN f m (q + 1) else pureP (some q))
def eseekN (f : Int → Prg Bool) (pg n step : Int) : Nat → Int → Prg Int
 | 0,_ => pureP (-1)
 | m + 1,p => if p ≤ pg - n then bindP (escanN f n.toNat p) (fun r => match r with | none => pureP p | some q => eseekN f pg n step m ((q / step + 1) * step)) else pureP (-1)
def eleastP (f : Int → Prg Bool) (pg n step : Int) : Prg Int := eseekN f pg n step (pg.toNat + 1) 0
def efindP (pg st n step : Int) : Prg Int := if 1 ≤ n ∧ 1 ≤ step then bindP (eleastP (eopenP pg st) pg n step) (fun p => if p = -1 then eleastP (efreeP pg st) pg n step else pureP p) else pureP (-1)
theorem sound_kind (pg st p : Int) : Sound (ekindP pg st p) := sound_ite (sound_read _) (sound_pure _)
theorem sound_put (pg st p k x : Int) : Sound (eputP pg st p k x) := sound_bind (sound_write _ _) (fun _ => sound_bind (sound_write _ _) (fun _ => sound_write _ _))
theorem sound_vacN (pg st : Int) (m : Nat) : ∀ q,Sound (evacN pg st m q) := by
 induction m with
 | zero => intro q; exact sound_pure _
 | succ m ih => intro q; exact sound_bind (sound_kind _ _ _) (fun _ => sound_ite (ih _) (sound_pure _))
theorem sound_vac (pg st p n : Int) : Sound (evacP pg st p n) := sound_ite (sound_vacN _ _ _ _) (sound_pure _)
theorem sound_putN (pg st k : Int) (m : Nat) : ∀ q,Sound (eputN pg st k m q) := by
 induction m with
 | zero => intro q; exact sound_pure _
 | succ m ih => intro q; exact sound_bind (sound_put _ _ _ _ _) (fun _ => ih _)
theorem sound_take (pg st p n k : Int) : Sound (etakeP pg st p n k) :=
 sound_ite (sound_bind (sound_vac _ _ _ _) (fun _ => sound_ite (sound_bind (sound_ensure _ _ _ _) (fun _ => sound_bind (sound_put _ _ _ _ _) (fun _ => sound_bind (sound_putN _ _ _ _ _) (fun _ => sound_pure _)))) (sound_pure _))) (sound_pure _)
theorem sound_len (pg st p : Int) : Sound (elenP pg st p) := sound_bind (sound_kind _ _ _) (fun _ => sound_ite (sound_pure _) (sound_ite (sound_bind (sound_read _) (fun _ => sound_pure _)) (sound_pure _)))
theorem sound_drop (pg st p : Int) : Sound (edropP pg st p) := sound_bind (sound_len _ _ _) (fun _ => sound_bind (sound_putN _ _ _ _ _) (fun _ => sound_pure _))
theorem sound_free (pg st q : Int) : Sound (efreeP pg st q) := sound_bind (sound_kind _ _ _) (fun _ => sound_pure _)
theorem sound_open (pg st q : Int) : Sound (eopenP pg st q) := sound_bind (sound_mapped _ _ _) (fun _ => sound_ite (sound_free _ _ _) (sound_pure _))
theorem sound_scanN {f : Int → Prg Bool} (hf : ∀ q,Sound (f q)) (m : Nat) : ∀ q,Sound (escanN f m q) := by
 induction m with
 | zero => intro q; exact sound_pure _
 | succ m ih => intro q; exact sound_bind (hf q) (fun _ => sound_ite (ih _) (sound_pure _))
theorem sound_seekN {f : Int → Prg Bool} (hf : ∀ q,Sound (f q)) (pg n step : Int) (m : Nat) : ∀ p,Sound (eseekN f pg n step m p) := by
 induction m with
 | zero => intro q; exact sound_pure _
 | succ m ih =>
   intro q
   refine sound_ite (sound_bind (sound_scanN hf _ _) (fun r => ?_)) (sound_pure _)
   cases r with
   | none => exact sound_pure _
   | some q => exact ih _
theorem sound_find (pg st n step : Int) : Sound (efindP pg st n step) := sound_ite (sound_bind (sound_seekN (sound_open pg st) _ _ _ _ _) (fun _ => sound_ite (sound_seekN (sound_free pg st) _ _ _ _ _) (sound_pure _))) (sound_pure _)
structure PgIn (pg st : Int) (n : Nat) : Prop extends TblIn pg st n where
 top5 : tableV st + chunksV pg + 5 * pg ≤ n
theorem good_ite {α : Type} {n : Nat} {Q : α → Prop} {c : Prop} [Decidable c] {p q : Prg α} (h1 : c → Good n Q p) (h2 : ¬ c → Good n Q q) : Good n Q (if c then p else q) := by
 split
 · rename_i h; exact h1 h
 · rename_i h; exact h2 h
section
variable {pg st : Int} {n : Nat} (H : PgIn pg st n)
include H
theorem page_b {p : Int} (h : isPage pg p = true) : (4 ≤ kA pg st p ∧ kA pg st p < n ∧ W64 (kA pg st p)) ∧ (4 ≤ cA pg st p ∧ cA pg st p < n ∧ W64 (cA pg st p)) ∧ (4 ≤ bA pg st p ∧ bA pg st p < n ∧ W64 (bA pg st p)) := by
 have h0 := isPage_iff.1 h
 have h1 := H.st1; have h2 := H.st2; have h3 := H.top5; have h4 := H.pg1; have h5 := H.pg2
 unfold kA cA bA W64
 unfold chunksV tableV at *
 omega
theorem good_kind (p : Int) : Good n W64 (ekindP pg st p) :=
 good_ite (fun h => good_read n (page_b H h).1.2.1) (fun _ => good_pure n (by unfold W64; omega))
theorem good_put {p : Int} (h : isPage pg p = true) {k x : Int} (hk : W64 k) (hx : W64 x) : Good n (fun _ => True) (eputP pg st p k x) := by
 obtain ⟨⟨_,a1,a2⟩,⟨_,b1,b2⟩,_,c1,c2⟩ := page_b H h
 exact good_bind (good_write n a2 a1 hk) (fun _ _ => good_bind (good_write n b2 b1 hx) (fun _ _ => good_write n c2 c1 (by unfold W64; omega)))
theorem good_vacN (m : Nat) : ∀ q,Good n (fun _ => True) (evacN pg st m q) := by
 induction m with
 | zero => intro q; exact good_pure n trivial
 | succ m ih => intro q; exact good_bind (good_kind H q) (fun k _ => good_ite (fun _ => ih _) (fun _ => good_pure n trivial))
theorem good_putN {k : Int} (hk : W64 k) (m : Nat) : ∀ q,(∀ i : Nat,i < m → isPage pg (q + i) = true) → Good n (fun _ => True) (eputN pg st k m q) := by
 induction m with
 | zero => intro q _; exact good_pure n trivial
 | succ m ih =>
   intro q h
   exact good_bind (good_put H (by simpa using h 0 (by omega)) hk (by unfold W64; omega)) (fun _ _ => ih _ (fun i hi => by have := h (i + 1) (by omega); rwa [show q + ((i + 1 : Nat) : Int) = q + 1 + (i : Int) by omega] at this))
theorem good_ensure2 (x y : Int) : Good n (fun _ => True) (ensureP pg st x y) := good_ensure H.toTblIn x y
theorem good_take (p m k : Int) (hk : W64 k) (hm : W64 m) : Good n (fun _ => True) (etakeP pg st p m k) := by
 unfold etakeP evacP
 refine good_ite (fun hf => ?_) (fun _ => good_pure n trivial)
 cases h : thereB pg p m with
 | false => exact good_bind (good_pure n (Q:=fun b : Bool => b = false) rfl) (fun b hb => by subst hb; exact good_pure n trivial)
 | true =>
   obtain ⟨q0,q1,q2⟩ := there_iff.1 h
   have hx : W64 (if k = 6 then m else 0) := by
     split
     · exact hm
     · unfold W64; omega
   exact good_bind (good_vacN H _ _) (fun b _ => good_ite (fun _ => good_bind (good_ensure2 H _ _) (fun _ _ => good_bind (good_put H (isPage_iff.2 ⟨by omega,by omega⟩) hk hx) (fun _ _ => good_bind (good_putN H (by unfold W64; omega) _ _ (fun i hi => isPage_iff.2 ⟨by omega,by omega⟩)) (fun _ _ => good_pure n trivial)))) (fun _ => good_pure n trivial))
theorem good_len (p : Int) : Good n (fun x : Int => x = 0 ∨ isPage pg p = true ∧ 1 ≤ x ∧ x ≤ pg - p) (elenP pg st p) := by
 unfold elenP ekindP
 cases h : isPage pg p with
 | false => exact good_bind (good_pure n (Q:=fun k : Int => k = -1) rfl) (fun k hk => by subst hk; exact good_pure n (.inl rfl))
 | true =>
   have := isPage_iff.1 h
   exact good_bind (good_read n (page_b H h).1.2.1) (fun k _ => good_ite (fun _ => good_pure n (.inr ⟨rfl,by omega,by omega⟩)) (fun _ => good_ite (fun _ => good_bind (good_read n (page_b H h).2.1.2.1) (fun x _ => good_pure n (.inr ⟨rfl,by omega,by omega⟩))) (fun _ => good_pure n (.inl rfl))))
theorem good_drop (p : Int) : Good n (fun x : Int => 0 ≤ x ∧ x ≤ 256) (edropP pg st p) := by
 have h5 := H.pg2
 exact good_bind (good_len H p) (fun x hx => by
   have hb : ∀ i : Nat,i < x.toNat → isPage pg (p + i) = true := fun i hi => by
     rcases hx with rfl | ⟨h,h1,h2⟩
     · simp at hi
     · have := isPage_iff.1 h; exact isPage_iff.2 ⟨by omega,by omega⟩
   exact good_bind (good_putN H (by unfold W64; omega) _ _ hb) (fun _ _ => good_pure n (by
     rcases hx with rfl | ⟨h,h1,h2⟩
     · omega
     · have := isPage_iff.1 h; omega)))
theorem good_free (q : Int) : Good n (fun _ => True) (efreeP pg st q) := good_bind (good_kind H q) (fun _ _ => good_pure n trivial)
theorem good_open (q : Int) : Good n (fun _ => True) (eopenP pg st q) := good_bind (good_mapped H.toTblIn _) (fun b _ => good_ite (fun _ => good_free H q) (fun _ => good_pure n trivial))
theorem good_scanN {f : Int → Prg Bool} (hf : ∀ q,Good n (fun _ => True) (f q)) (m : Nat) : ∀ q : Int,Good n (fun r : Option Int => ∀ x,r = some x → q ≤ x ∧ x < q + m) (escanN f m q) := by
 induction m with
 | zero => intro q; exact good_pure n (fun x h => by cases h)
 | succ m ih => intro q; exact good_bind (hf q) (fun b _ => good_ite (fun _ => good_imp (ih _) (fun r hr x hx => by have := hr x hx; omega)) (fun _ => good_pure n (fun x hx => by cases hx; omega)))
theorem good_seekN {f : Int → Prg Bool} (hf : ∀ q,Good n (fun _ => True) (f q)) (m step : Int) (hm : 1 ≤ m) (hs : 1 ≤ step) (j : Nat) : ∀ p : Int,0 ≤ p → Good n (fun x : Int => -1 ≤ x ∧ x < pg) (eseekN f pg m step j p) := by
 have h4 := H.pg1
 induction j with
 | zero => intro p _; exact good_pure n (by omega)
 | succ j ih =>
   intro p hp
   refine good_ite (fun h => good_bind (good_scanN H hf _ _) (fun r hr => ?_)) (fun _ => good_pure n (by omega))
   cases r with
   | none => exact good_pure n (by omega)
   | some q =>
     have := hr q rfl
     refine ih _ (Int.mul_nonneg ?_ (by omega))
     have := Int.ediv_nonneg (a:=q) (b:=step) (by omega) (by omega)
     omega
theorem good_find (m step : Int) : Good n (fun x : Int => -1 ≤ x ∧ x < pg) (efindP pg st m step) := by
 have h4 := H.pg1
 exact good_ite (fun h => good_bind (good_seekN H (good_open H) m step h.1 h.2 _ 0 (by omega)) (fun p hp => good_ite (fun _ => good_seekN H (good_free H) m step h.1 h.2 _ 0 (by omega)) (fun _ => good_pure n hp))) (fun _ => good_pure n (by omega))
end
theorem flat_ite {α : Type} {n : Nat} {c : Prop} [Decidable c] {p q : Prg α} {g h : List Int → α × List Int} (hp : c → Flat n p g) (hq : ¬ c → Flat n q h) : Flat n (if c then p else q) (fun ws => if c then g ws else h ws) := by
 by_cases e : c
 · simp only [if_pos e]; exact hp e
 · simp only [if_neg e]; exact hq e
theorem flat_bindQ {α β : Type} {n : Nat} {p : Prg α} {f : α → Prg β} {g : List Int → α × List Int} {k : α → List Int → β × List Int} {Q : α → Prop} (h : Flat n p g) (hq : ∀ ws,ws.length = n → Q (g ws).1) (hf : ∀ x,Q x → Flat n (f x) (k x)) : Flat n (bindP p f) (fun ws => k (g ws).1 (g ws).2) := fun zs D hn hz hD => by
 obtain ⟨D1,e1,a1,i1⟩ := h zs D hn hz hD
 obtain ⟨D2,e2,a2,i2⟩ := hf (g (applyD zs D)).1 (hq _ (by rw [applyD_len]; exact hn)) zs D1 hn hz i1
 refine ⟨D2,?_,?_,i2⟩
 · rw [bindP_ok e1,e2,a1]
 · rw [a2,a1]
def nA (pg st p : Int) : Int := tableV st + chunksV pg + 3 * pg + p
def vA (pg st p : Int) : Int := tableV st + chunksV pg + 4 * pg + p
theorem page3 {pg st p : Int} (h : isPage pg p = true) : pageV pg st 3 p = nA pg st p := by unfold pageV nA; rw [if_pos (isPage_iff.1 h)]
theorem page4 {pg st p : Int} (h : isPage pg p = true) : pageV pg st 4 p = vA pg st p := by unfold pageV vA; rw [if_pos (isPage_iff.1 h)]
def plWord (pg x : Int) : Int := if isPage pg (IntKind.i64.wrap (x - 1)) then IntKind.i64.wrap (x - 1) else -1
def plLeadP (pg a : Int) : Prg Int := if a = 0 then pureP (-1) else bindP (readP a) (fun x => pureP (plWord pg x))
def plThrN (pg st p : Int) : Nat → Int → List Int → Prg (List Int × Bool)
 | 0,_,l => pureP (l,false)
 | m + 1,a,l => bindP (plLeadP pg a) (fun q => if q = p then pureP (l,true) else if q = -1 then pureP (l,false) else plThrN pg st p m (nA pg st q) (l ++ [q]))
def plThrP (pg st p c f : Int) : Prg (List Int × Bool) := plThrN pg st p pg.toNat (headV pg st c f) []
def plJoinP (pg st h p q : Int) : Prg Unit := bindP (if p = -1 then writeP h (q + 1) else writeP (nA pg st p) (q + 1)) (fun _ => if q = -1 then pureP () else writeP (vA pg st q) (p + 1))
def plLinkP (pg st p c f : Int) : Prg Bool := if headV pg st c f = 0 then pureP false else if isPage pg p then bindP (plLeadP pg (headV pg st c f)) (fun q => bindP (plJoinP pg st (headV pg st c f) p q) fun _ => bindP (plJoinP pg st (headV pg st c f) (-1) p) fun _ => pureP true) else pureP false
def lastO (l : List Int) : Int := l.getD (l.length - 1) (-1)
def plUnlinkP (pg st p c f : Int) : Prg Bool := if isPage pg p then bindP (plThrP pg st p c f) (fun r => if r.2 then bindP (plLeadP pg (nA pg st p)) (fun q => bindP (plJoinP pg st (headV pg st c f) (lastO r.1) q) fun _ => bindP (writeP (nA pg st p) 0) fun _ => bindP (writeP (vA pg st p) 0) fun _ => pureP true) else pureP false) else pureP false
def plFirstN (pg st c : Int) : Nat → Int → Prg Int
 | 0,_ => pureP (-1)
 | m + 1,f => bindP (plLeadP pg (headV pg st c f)) (fun q => if q = -1 then plFirstN pg st c m (f + 1) else pureP q)
theorem sound_plLead (pg a : Int) : Sound (plLeadP pg a) := sound_ite (sound_pure _) (sound_bind (sound_read _) (fun _ => sound_pure _))
theorem sound_plThrN (pg st p : Int) (m : Nat) : ∀ a l,Sound (plThrN pg st p m a l) := by
 induction m with
 | zero => intro a l; exact sound_pure _
 | succ m ih => intro a l; exact sound_bind (sound_plLead _ _) (fun _ => sound_ite (sound_pure _) (sound_ite (sound_pure _) (ih _ _)))
theorem sound_plThr (pg st p c f : Int) : Sound (plThrP pg st p c f) := sound_plThrN _ _ _ _ _ _
theorem sound_plJoin (pg st h p q : Int) : Sound (plJoinP pg st h p q) := sound_bind (sound_ite (sound_write _ _) (sound_write _ _)) (fun _ => sound_ite (sound_pure _) (sound_write _ _))
theorem sound_plLink (pg st p c f : Int) : Sound (plLinkP pg st p c f) := sound_ite (sound_pure _) (sound_ite (sound_bind (sound_plLead _ _) (fun _ => sound_bind (sound_plJoin _ _ _ _ _) (fun _ => sound_bind (sound_plJoin _ _ _ _ _) (fun _ => sound_pure _)))) (sound_pure _))
theorem sound_plUnlink (pg st p c f : Int) : Sound (plUnlinkP pg st p c f) := sound_ite (sound_bind (sound_plThr _ _ _ _ _) (fun _ => sound_ite (sound_bind (sound_plLead _ _) (fun _ => sound_bind (sound_plJoin _ _ _ _ _) (fun _ => sound_bind (sound_write _ _) (fun _ => sound_bind (sound_write _ _) (fun _ => sound_pure _))))) (sound_pure _))) (sound_pure _)
theorem sound_plFirstN (pg st c : Int) (m : Nat) : ∀ f,Sound (plFirstN pg st c m f) := by
 induction m with
 | zero => intro f; exact sound_pure _
 | succ m ih => intro f; exact sound_bind (sound_plLead _ _) (fun _ => sound_ite (ih _) (sound_pure _))
structure HdIn (pg st : Int) (n : Nat) : Prop extends PgIn pg st n where
 top62 : tableV st + chunksV pg + 5 * pg + 62 ≤ n
theorem head_b {pg st c f : Int} {n : Nat} (H : HdIn pg st n) : 0 ≤ headV pg st c f ∧ headV pg st c f < n ∧ W64 (headV pg st c f) := by
 have h1 := H.st1; have h2 := H.st2; have h3 := H.top62; have h4 := H.pg1; have h5 := H.pg2
 have hc : 0 ≤ chunksV pg ∧ chunksV pg ≤ 64 := by unfold chunksV; omega
 have ht : 0 ≤ tableV st := by unfold tableV; omega
 unfold headV
 split
 · rename_i h
   obtain ⟨c0,c4,f1,fs⟩ := h
   have : c = 0 ∨ c = 1 ∨ c = 2 ∨ c = 3 ∨ c = 4 := by omega
   unfold headsV W64 tableV at *
   rcases this with rfl | rfl | rfl | rfl | rfl <;> simp [slotsV,aheadV] at fs ⊢ <;> omega
 · unfold W64; omega
section
variable {pg st : Int} {n : Nat} (H : HdIn pg st n)
include H
theorem nv_b {p : Int} (h : isPage pg p = true) : (4 ≤ nA pg st p ∧ nA pg st p < n ∧ W64 (nA pg st p)) ∧ (4 ≤ vA pg st p ∧ vA pg st p < n ∧ W64 (vA pg st p)) := by
 have h0 := isPage_iff.1 h
 have h1 := H.st1; have h2 := H.st2; have h3 := H.top62; have h4 := H.pg1; have h5 := H.pg2
 unfold nA vA W64
 unfold chunksV tableV at *
 omega
theorem plWord_b (x : Int) : plWord pg x = -1 ∨ isPage pg (plWord pg x) = true := by
 unfold plWord
 split
 · rename_i h; exact .inr h
 · exact .inl rfl
theorem good_plLead {a : Int} (ha : a < n) : Good n (fun q : Int => q = -1 ∨ isPage pg q = true) (plLeadP pg a) :=
 good_ite (fun _ => good_pure n (.inl rfl)) (fun _ => good_bind (good_read n ha) (fun x _ => good_pure n (plWord_b H x)))
theorem good_plThrN {p : Int} (m : Nat) : ∀ (a : Int) (l : List Int),a < n → (∀ x ∈ l,isPage pg x = true) → Good n (fun r : List Int × Bool => (∀ x ∈ r.1,isPage pg x = true) ∧ r.1.length ≤ l.length + m) (plThrN pg st p m a l) := by
 induction m with
 | zero => intro a l _ hl; exact good_pure n ⟨hl,by simp⟩
 | succ m ih =>
   intro a l ha hl
   exact good_bind (good_plLead H ha) (fun q hq => good_ite (fun _ => good_pure n ⟨hl,by simp⟩) (fun _ => good_ite (fun _ => good_pure n ⟨hl,by simp⟩) (fun hne => by
     have hp : isPage pg q = true := hq.resolve_left hne
     exact good_imp (ih _ _ (nv_b H hp).1.2.1 (fun x hx => by
       rcases List.mem_append.1 hx with h | h
       · exact hl x h
       · rw [List.mem_singleton.1 h]; exact hp)) (fun r hr => ⟨hr.1,by have := hr.2; simp at this; omega⟩))))
theorem good_plThr (p c f : Int) : Good n (fun r : List Int × Bool => (∀ x ∈ r.1,isPage pg x = true) ∧ r.1.length ≤ 256) (plThrP pg st p c f) := good_imp (good_plThrN H _ _ _ (head_b H).2.1 (fun x hx => by cases hx)) (fun r hr => ⟨hr.1,by have h1 := hr.2; have h2 := H.pg2; simp only [List.length_nil] at h1; omega⟩)
theorem pageW {q : Int} (hq : q = -1 ∨ isPage pg q = true) : W64 (q + 1) := by
 have h5 := H.pg2
 rcases hq with rfl | h
 · unfold W64; omega
 · have := isPage_iff.1 h; unfold W64; omega
theorem good_plJoin {h p q : Int} (h1 : W64 h) (h2 : h < n) (hp : p = -1 ∨ isPage pg p = true) (hq : q = -1 ∨ isPage pg q = true) : Good n (fun _ => True) (plJoinP pg st h p q) :=
 good_bind (Q:=fun _ => True) (good_ite (fun _ => good_write n h1 h2 (pageW H hq)) (fun hne => good_write n (nv_b H (hp.resolve_left hne)).1.2.2 (nv_b H (hp.resolve_left hne)).1.2.1 (pageW H hq)))
   (fun _ _ => good_ite (fun _ => good_pure n trivial) (fun hne => good_write n (nv_b H (hq.resolve_left hne)).2.2.2 (nv_b H (hq.resolve_left hne)).2.2.1 (pageW H hp)))
theorem good_plLink (p c f : Int) : Good n (fun _ => True) (plLinkP pg st p c f) :=
 good_ite (fun _ => good_pure n trivial) (fun _ => good_ite (fun hp => good_bind (good_plLead H (head_b H).2.1) (fun q hq => good_bind (good_plJoin H (head_b H).2.2 (head_b H).2.1 (.inr hp) hq) (fun _ _ => good_bind (good_plJoin H (head_b H).2.2 (head_b H).2.1 (.inl rfl) (.inr hp)) (fun _ _ => good_pure n trivial)))) (fun _ => good_pure n trivial))
theorem lastO_b {l : List Int} (hl : ∀ x ∈ l,isPage pg x = true) : lastO l = -1 ∨ isPage pg (lastO l) = true := by
 unfold lastO
 rcases Nat.eq_zero_or_pos l.length with h | h
 · refine .inl ?_
   rw [List.length_eq_zero_iff.1 h]; rfl
 · refine .inr (hl _ ?_)
   rw [List.getD_eq_getElem?_getD,List.getElem?_eq_getElem (by omega)]
   exact List.getElem_mem _
theorem good_plUnlink (p c f : Int) : Good n (fun _ => True) (plUnlinkP pg st p c f) :=
 good_ite (fun hp => good_bind (good_plThr H _ _ _) (fun r hr => good_ite (fun _ => good_bind (good_plLead H (nv_b H hp).1.2.1) (fun q hq => good_bind (good_plJoin H (head_b H).2.2 (head_b H).2.1 (lastO_b H hr.1) hq) (fun _ _ => good_bind (good_write n (nv_b H hp).1.2.2 (nv_b H hp).1.2.1 (by unfold W64; omega)) (fun _ _ => good_bind (good_write n (nv_b H hp).2.2.2 (nv_b H hp).2.2.1 (by unfold W64; omega)) (fun _ _ => good_pure n trivial))))) (fun _ => good_pure n trivial))) (fun _ => good_pure n trivial)
theorem good_plFirstN (c : Int) (m : Nat) : ∀ f,Good n (fun q : Int => q = -1 ∨ isPage pg q = true) (plFirstN pg st c m f) := by
 induction m with
 | zero => intro f; exact good_pure n (.inl rfl)
 | succ m ih => intro f; exact good_bind (good_plLead H (head_b H).2.1) (fun q hq => good_ite (fun _ => ih _) (fun _ => good_pure n hq))
end
end Go.Proofs.YtmafllcmkhgidaaGreatDoor
