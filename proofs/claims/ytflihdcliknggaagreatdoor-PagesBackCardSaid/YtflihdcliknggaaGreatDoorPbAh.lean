/-
  A range over a function, one of whose rounds may panic: the round, and the statement, under contract.
-/
import Derived.Test.YtflihdcliknggaaGreatDoorPbAa
import Derived.RangeFuncNested
import Derived.RangeFuncCalls
import Derived.RangeFuncLeaves
import Derived.OwnWalkIn
import Derived.TacticsInMore
import Derived.Test.YtflihdcliknggaaGreatDoorPbAg
import Derived.RangeFuncBox
import Derived.Shelf.Abstract
import Derived.LoopNIn
import Derived.LoopIn
set_option maxRecDepth 100000
set_option maxHeartbeats 8000000
set_option linter.unusedVariables false
set_option linter.unusedSimpArgs false
set_option linter.unusedSectionVars false
namespace Go.Proofs.YtflihdcliknggaaGreatDoor
open Go.RowKit
variable {F : Fence} {n : Nat} {P : Program}
def endsRound (P : Program) (l : Nat) (R : Ending → World → Prop) : Exit → Act → World → Prop
 | .panic chain,a,w => a.defers = [] ∧ R (.panicked chain) w
 | e,a,w => roundPost P l R e a w
theorem round_ends {l : Nat} {f : FuncId} {fn : Func} {tmps : Array Value} {assign body : Code} {w : World} {R : Ending → World → Prop} (hF : F.fn f) (hf : P.funcs[f]? = some fn)
   (h : assign.wpIn (F.inRound l) n P (Exit.then (fun a₁ w₁ => ∃ w₂,(Instr.beginRound l).run P w₁ = .ok () w₂ ∧ body.wpIn (F.inRound l) n P (endsRound P l R) a₁ w₂) (fun _ _ _ => False)) { tmps := tmps,defers := [] } w) :
   RoundIn F n P l f tmps assign body w R := by
 refine ⟨hF,fun c cs hr => ?_⟩
 obtain ⟨b,hb⟩ : ∃ b : Frame,b = { (default : Frame) with fn := f,kind := .normal,roundOf := some l } := ⟨_,rfl⟩
 have bf : b.fn = f := by rw [hb]
 have bk : b.kind = .normal := by rw [hb]
 have br : b.roundOf = some l := by rw [hb]
 have start : Frame.round l f tmps assign body .normal = b.atR { tmps := tmps,defers := [] } [.code assign,.beginRound,.code body] := by simp [Frame.round,Frame.atR,bf,bk,br]
 have room : (F.inRound l).room ((c :: cs).length + 1 + n) := hr
 have inn : (F.inRound l).fn b.fn := by rw [bf]; exact hF
 have calm : ∀ {a todo W},(b.atR a todo).about P W = none → (lone (b.atR a todo) (c :: cs) W).fenced P F := fun q => fenced_calm (F:=F) (fr:=b.atR _ _) (by exact inn) room q
 obtain ⟨e,a₁,w₁,hq,way⟩ := h b [.beginRound,.code body] (c :: cs) br inn room
 rw [← start] at way
 cases e with
 | normal =>
   obtain ⟨w₂,hbegin,hbody⟩ := hq
   obtain ⟨e₂,a₂,w₃,hq₂,way₂⟩ := hbody b [] (c :: cs) br inn room
   have here : StepsIn (Machine.fenced P F) P (lone (Frame.round l f tmps assign body .normal) (c :: cs) w) (lone (b.atR a₁ [.code body]) (c :: cs) w₂) := StepsIn.trans way (.one (calm rfl) (stepR_beginRound br hbegin))
   have some' : b.roundOf.isSome = true := by rw [br]; rfl
   cases e₂ with
   | normal => obtain ⟨v,w₄,h1,h2⟩ := hq₂; exact ⟨.returned v,w₄,h2,StepsIn.trans here (StepsIn.trans way₂ (.one (calm rfl) (stepR_round_end br bk h1)))⟩
   | ret => obtain ⟨v,w₄,h1,h2⟩ := hq₂; obtain ⟨k₁,s⟩ := way₂.2 some'; exact ⟨.returned v,w₄,h2,StepsIn.trans here (StepsIn.trans s (.one (calm rfl) (stepR_round_ret br bk h1)))⟩
   | exit id => obtain ⟨v,w₄,h1,h2⟩ := hq₂; obtain ⟨k₁,hk,s⟩ := way₂.2 some' rfl; exact ⟨.returned v,w₄,h2,StepsIn.trans here (StepsIn.trans s (.one (calm rfl) (stepR_round_exit br bk hk h1)))⟩
   | goto t => obtain ⟨v,w₄,h1,h2⟩ := hq₂; obtain ⟨k₁,hk,s⟩ := way₂.2 some' rfl; exact ⟨.returned v,w₄,h2,StepsIn.trans here (StepsIn.trans s (.one (calm rfl) (stepR_round_goto br bk hk h1)))⟩
   | panic chain =>
     obtain ⟨hd,h2⟩ := hq₂
     obtain ⟨todo,s⟩ := way₂
     have lv : Frame.leaving P { b.atR a₂ todo with mode := .panicking chain } w₃ (.panicked chain) := ⟨rfl,hd,fn,by show P.funcs[b.fn]? = _; rw [bf]; exact hf⟩
     exact ⟨.panicked chain,w₃,h2,StepsIn.trans here (StepsIn.trans s (.one (fenced_leaving (F:=F) (by exact inn) room lv) (step_leave_panicked lv)))⟩
   | outgrown => exact hq₂.elim
 | exit id => exact hq.elim
 | goto t => exact hq.elim
 | ret => exact hq.elim
 | panic chain => exact hq.elim
 | outgrown => exact hq.elim
def wpOf (f0 : FuncId) (F : Fence) (n : Nat) (P : Program) (c : Code) (Q : Exit → Act → World → Prop) (a : Act) (w : World) : Prop :=
 ∀ (b : Frame) (k : List Item) (cs : List Frame),b.roundOf = F.round → b.fn = f0 → F.fn b.fn → F.room (cs.length + 1 + n) →
   ∃ e a' w',Q e a' w' ∧ ArrivesIn (Machine.fenced P F) P (lone (b.atR a (.code c :: k)) cs w) b k cs e a' w'
theorem wpOf_of {f0 : FuncId} {c : Code} {Q : Exit → Act → World → Prop} {a : Act} {w : World} (h : c.wpIn F n P Q a w) : wpOf f0 F n P c Q a w :=
 fun b k cs hro _ hb hr => h b k cs hro hb hr
theorem wpOf_seq {f0 : FuncId} {x y : Code} {Q : Exit → Act → World → Prop} {a : Act} {w : World} (h : wpOf f0 F n P x (Exit.then (wpOf f0 F n P y Q) Q) a w) : wpOf f0 F n P (.seq x y) Q a w := by
 intro b k cs hro hf hb hr
 have first : StepsIn (Machine.fenced P F) P (lone (b.atR a (.code (.seq x y) :: k)) cs w) (lone (b.atR a (.code x :: .code y :: k)) cs w) := .one (fenced_calm hb hr rfl) stepR_seq
 obtain ⟨e,a₁,w₁,hq,way⟩ := h b (.code y :: k) cs hro hf hb hr
 by_cases he : e = .normal
 · subst he
   obtain ⟨e₂,a₂,w₂,hq₂,way₂⟩ := hq b k cs hro hf hb hr
   exact ⟨e₂,a₂,w₂,hq₂,.of_steps (StepsIn.trans first way) way₂⟩
 · refine ⟨e,a₁,w₁,?_,.of_steps first (.pass (x:=.code y) rfl (fun _ _ => .inl he) way)⟩
   cases e <;> first | exact hq | exact (he rfl).elim
theorem wpOf_first {f0 : FuncId} {x y : Code} {Q : Exit → Act → World → Prop} {a : Act} {w : World} (h : x.wpIn F n P (Exit.then (wpOf f0 F n P y Q) Q) a w) : wpOf f0 F n P (.seq x y) Q a w :=
 wpOf_seq (wpOf_of h)
theorem wpOf_block {f0 : FuncId} {id : Nat} {x : Code} {Q : Exit → Act → World → Prop} {a : Act} {w : World} (h : wpOf f0 F n P x (Exit.inBlock id Q) a w) : wpOf f0 F n P (.block id x) Q a w := by
 intro b k cs hro hf hb hr
 have first : StepsIn (Machine.fenced P F) P (lone (b.atR a (.code (.block id x) :: k)) cs w) (lone (b.atR a (.code x :: .inBlock id :: k)) cs w) := .one (fenced_calm hb hr rfl) stepR_block
 obtain ⟨e,a₁,w₁,hq,way⟩ := h b (.inBlock id :: k) cs hro hf hb hr
 have gone : ∀ l,gotoIn l (.inBlock id :: k) = gotoIn l k := fun l => by simp [gotoIn]
 cases e with
 | normal => exact ⟨.normal,a₁,w₁,hq,StepsIn.trans first (StepsIn.trans way (.one (fenced_calm hb hr rfl) stepR_inBlock))⟩
 | goto l => exact ⟨.goto l,a₁,w₁,hq,fun k' hk => StepsIn.trans first (way.1 k' (by rw [gone]; exact hk)),fun q hk => let ⟨k₁,h1,h2⟩ := way.2 q (by rw [gone]; exact hk); ⟨k₁,h1,StepsIn.trans first h2⟩⟩
 | exit i =>
   by_cases hi : i = id
   · subst hi
     simp only [Exit.inBlock,if_true] at hq
     exact ⟨.normal,a₁,w₁,hq,StepsIn.trans first (way.1 k (by simp [exitTo]))⟩
   · simp only [Exit.inBlock,hi,if_false] at hq
     have out : exitTo i (.inBlock id :: k) = exitTo i k := by simp [exitTo,show (id == i) = false by simp; exact fun q => hi q.symm]
     exact ⟨.exit i,a₁,w₁,hq,fun k' hk => StepsIn.trans first (way.1 k' (by rw [out]; exact hk)),fun q hk => let ⟨k₁,h1,h2⟩ := way.2 q (by rw [out]; exact hk); ⟨k₁,h1,StepsIn.trans first h2⟩⟩
 | ret => exact ⟨_,a₁,w₁,hq,.of_steps first way⟩
 | panic ch => exact ⟨_,a₁,w₁,hq,.of_steps first way⟩
 | outgrown => exact ⟨_,a₁,w₁,hq,.of_steps first way⟩
theorem callsIn_of_wpOf {f : FuncId} {fn : Func} {c : Code} {args : Array Value} {w : World} {R : Ending → World → Prop} (hf : P.funcs[f]? = some fn) (hb : fn.body = some c) (hF : F.fn f)
   (h : wpOf f F n P c (bodyPostM F n P fn R) { tmps := args ++ Array.replicate (fn.ntmps - args.size) undef,defers := [] } w) (hro : F.round = none) : CallsIn F n P f args w R := by
 refine ⟨hF,fun cs hr => ?_⟩
 obtain ⟨b,hb0⟩ : ∃ b : Frame,b = { (default : Frame) with fn := f,kind := .normal,roundOf := none } := ⟨_,rfl⟩
 have bf : b.fn = f := by rw [hb0]
 have bk : b.kind = .normal := by rw [hb0]
 have br : b.roundOf = none := by rw [hb0]
 have inn : F.fn b.fn := by rw [bf]; exact hF
 have hfb : P.funcs[b.fn]? = some fn := by rw [bf]; exact hf
 have start : Frame.enter P f args .normal = b.atR { tmps := args ++ Array.replicate (fn.ntmps - args.size) undef,defers := [] } [.code c] := by simp [Frame.enter,Frame.atR,hf,hb,bf,bk,br]
 obtain ⟨e,a',w',hq,way⟩ := h b [] cs (by rw [br,hro]) bf inn hr
 rw [← start] at way
 have leave : ∀ (u : FrameMode) (todo : List Item),LeavesInM F n P fn a'.tmps R a'.defers u w' → StepsIn (Machine.fenced P F) P (lone (Frame.enter P f args .normal) cs w) (lone { b.atR a' todo with mode := u } cs w') →
     ∃ e w' fr,R e w' ∧ ComesIn (Machine.fenced P F) P (lone (Frame.enter P f args .normal) cs w) (lone fr cs w') e ∧ fr.fn = f ∧ fr.leaving P w' e := fun u todo hl s => by
   obtain ⟨e',w'',fr',h1,h2,h3,h4⟩ := leaves_stepsInM (F:=F) (n:=n) a'.defers u w' { b.atR a' todo with mode := u } cs rfl rfl rfl hfb bk inn hr hl
   exact ⟨e',w'',fr',h1,ComesIn.of_steps s h2,h3.trans bf,h4⟩
 cases e with
 | normal => exact leave .returning [] hq (StepsIn.trans way (.one (fenced_calm (fr:=b.atR a' []) inn hr rfl) (stepR_end br)))
 | ret => obtain ⟨todo,s⟩ := way.1 br; exact leave .returning todo hq s
 | panic chain => obtain ⟨todo,s⟩ := way; exact leave (.panicking chain) todo hq s
 | exit id => exact hq.elim
 | goto l => exact hq.elim
 | outgrown => exact ⟨.outgrown,w',b,hq,way.resolve_left (by rw [bk]; simp),bf,trivial⟩
def SameOn (S : Nat → Prop) (W W' : World) : Prop := ∀ k,S k → W'.heap[k]? = W.heap[k]?
theorem SameOn.trans {S : Nat → Prop} {A B C : World} (h : SameOn S A B) (k : SameOn S B C) : SameOn S A C := fun i hi => (k i hi).trans (h i hi)
theorem SameOn.put {S : Nat → Prop} (W : World) (l : Nat) (o : Obj) (hl : ¬ S l) : SameOn S W (W.putObj l o) := fun i hi => World.putObj_heap_other (fun e => hl (e ▸ hi))
theorem SameOn.turned {S T : Nat → Prop} {W W' : World} (h : Turned T W W') (hl : ∀ k,S k → k < W.heap.size) (ht : ∀ k,S k → ¬ T k) : SameOn S W W' := fun i hi => Turned.block h i (hl i hi) (ht i hi)
structure Books (B : Nat) (I : World → Prop) : Prop where
 more : ∀ {A A' : World},I A → More A A' → I A'
 put : ∀ {A : World} {r : Loop} (r' : Loop),I A → A.heap[B + 1]? = some (.loop r) → I (A.putObj (B + 1) (.loop r'))
def bookAt (B k : Nat) : Prop := k = B ∨ k = B + 1
def SeqEnds (F : Fence) (n : Nat) (P : Program) (gf : Nat) (lb : Array Value) (enc : Nat → Array Value) (N : Nat) (S : Nat → Prop) (w0 : World) : Prop :=
 ∀ (l : Nat) (J : Nat → World → Prop) (Jx : Ending → Nat → World → Prop) (W : World),More w0 W → (∀ k A B,J k A → More A B → J k B) → (∀ e k A B,Jx e k A → More A B → Jx e k B) →
   (∀ k W1,k < N → J k W1 → YieldAt F (n - 1) P l (enc k) W1 fun e W' => (e = .returned (.bool true) ∧ J (k + 1) W' ∧ SameOn S W1 W') ∨ ((e = .returned (.bool false) ∨ ∃ c,e = .panicked c) ∧ Jx e k W')) → J 0 W →
   CallsIn F n P gf (#[.func (.yield l) #[] #[]] ++ lb) W fun e W' => ((∃ v,e = .returned v) ∧ (J N W' ∨ ∃ k,k < N ∧ Jx (.returned (.bool false)) k W')) ∨ (∃ c k,e = .panicked c ∧ k < N ∧ Jx e k W')
def jumpOf : Exit → Option Code
 | .ret => some .ret
 | .exit id => some (.exit id)
 | .goto t => some (.goto t)
 | _ => none
def bodyEnds (B : Nat) (S : Nat → Prop) (I : Nat → World → Prop) (Ix : Exit → Nat → World → Prop) (k : Nat) (W : World) : Exit → Act → World → Prop
 | .normal,_,W' => SameOn (bookAt B) W W' ∧ SameOn S W W' ∧ I (k + 1) W'
 | .panic c,a,W' => SameOn (bookAt B) W W' ∧ a.defers = [] ∧ Ix (.panic c) k W'
 | .outgrown,_,_ => False
 | e,_,W' => SameOn (bookAt B) W W' ∧ Ix e k W'
theorem range_of {f0 : FuncId} {fn0 : Func} (hf0 : P.funcs[f0]? = some fn0) {g : Operand} {ps : Array Tmp} {assign body : Code} {Q : Exit → Act → World → Prop} {a : Act} {w : World}
   (hro : F.round = none) (h1 : 1 ≤ n) {gf : Nat} {lb : Array Value} (hg : a.eval g = .func (.func gf) #[] lb) (hFg : F.fn gf) (eg : ∀ args w,(callFunc gf args).run P w = .ok (.enter gf args) w)
   {enc : Nat → Array Value} {N : Nat} {S : Nat → Prop} {w0 : World} (hseq : SeqEnds F (n - 1) P gf lb enc N S w0) (hw0 : More w0 w) (hS : ∀ k,S k → k < w.heap.size) (hps : ∀ k,(enc k).size = ps.size)
   (I : Nat → World → Prop) (Ix : Exit → Nat → World → Prop) (hI : ∀ i,Books w.heap.size (I i)) (hIx : ∀ e i,Books w.heap.size (Ix e i)) (h0 : I 0 w) (Ax : Nat → Act → World → Prop) (hAx : ∀ k a',Books w.heap.size (Ax k a'))
   (hassign : ∀ (l k : Nat) (W : World) (K : Act → World → Prop),k < N → w.heap.size + 2 ≤ W.heap.size → I k W → (∀ a' W',SameOn (bookAt w.heap.size) W W' → SameOn S W W' → Ax k a' W' → K a' W') →
     assign.wpIn (F.inRound l) (n - 1 - 1) P (Exit.then K (fun _ _ _ => False)) { tmps := (ps.zip (enc k)).foldl (fun t (p,v) => t.setIfInBounds p v) a.tmps,defers := [] } W)
   (hbody : ∀ (l k : Nat) (a' : Act) (W : World),w.heap.size + 2 ≤ W.heap.size → k < N → Ax k a' W → body.wpIn (F.inRound l) (n - 1 - 1) P (bodyEnds w.heap.size S I Ix k W) a' W)
   (hdone : ∀ W : World,I N W → W.heap[w.heap.size]? = some (.deferred (some [])) → Q .normal { a with defers := { target := .collected w.heap.size,args := #[] } :: a.defers } W)
   (hstop : ∀ (k : Nat) (e : Exit) (c : Code) (W : World),jumpOf e = some c → k < N → Ix e k W → W.heap[w.heap.size]? = some (.deferred (some [])) → c.wpIn F n P Q { a with defers := { target := .collected w.heap.size,args := #[] } :: a.defers } W)
   (hpanic : ∀ (k : Nat) (ch : List PanicEntry) (W : World),k < N → Ix (.panic ch) k W → W.heap[w.heap.size]? = some (.deferred (some [])) → Q (.panic ch) { a with defers := { target := .collected w.heap.size,args := #[] } :: a.defers } W) :
   wpOf f0 F n P (Code.rangeFunc g ps assign body) Q a w := by
 intro b k cs hrb hf hb hr
 have hfb : P.funcs[b.fn]? = some fn0 := by rw [hf]; exact hf0
 -- the record,at its states
 obtain ⟨rec,hrec⟩ : ∃ rec : LoopState → Option Code → Loop,rec = fun st pe => { state := st,pending := pe,fn := b.fn,tmps := a.tmps,params := ps,assign,body,defers := w.heap.size } := ⟨_,rfl⟩
 obtain ⟨W1,hW1⟩ : ∃ W1,(w.alloc (.deferred (some []))).alloc (.loop (rec .ready none)) = W1 := ⟨_,rfl⟩
 have m1 : More w W1 := by rw [← hW1]; exact ((More.refl w).alloc _).alloc _
 have L1 : W1.heap[w.heap.size + 1]? = some (.loop (rec .ready none)) := by
   rw [← hW1]; have := heap_new (w.alloc (.deferred (some []))) (.loop (rec .ready none)); rwa [World.size_alloc] at this
 have D1 : W1.heap[w.heap.size]? = some (.deferred (some [])) := by
   rw [← hW1]; exact ((More.refl _).alloc _).block (heap_new w _)
 -- what is said between two rounds,and where a round has left
 obtain ⟨J,hJ⟩ : ∃ J : Nat → World → Prop,J = fun i W => I i W ∧ W.heap[w.heap.size + 1]? = some (.loop (rec .ready none)) ∧ W.heap[w.heap.size]? = some (.deferred (some [])) := ⟨_,rfl⟩
 obtain ⟨Jx,hJx⟩ : ∃ Jx : Ending → Nat → World → Prop,Jx = fun e i W => (match e with
     | .panicked ch => Ix (.panic ch) i W
     | _ => ∃ x c,jumpOf x = some c ∧ Ix x i W ∧ W.heap[w.heap.size + 1]? = some (.loop (rec .done (some c)))) ∧ W.heap[w.heap.size]? = some (.deferred (some [])) := ⟨_,rfl⟩
 have enter : (Instr.enterLoop b.fn a.tmps ps assign body b.roundOf).run P w = .ok (w.heap.size + 1,[{ target := .collected w.heap.size,args := #[] }]) W1 := by
   rw [hrb,hro,← hW1,hrec]; exact run_enterLoop_outer _ _ _ _ _
 have resol : (resolve a.eval (rangeCall g (w.heap.size + 1)) 0).run P W1 = .ok { target := .fn (.func gf) lb,args := #[.func (.yield (w.heap.size + 1)) #[] #[]] } W1 := by
   simp only [resolve,hg]; simp [go_sem]
 have invok : (invoke (.fn (.func gf) lb) #[.func (.yield (w.heap.size + 1)) #[] #[]]).run P W1 = .ok (.enter gf (#[.func (.yield (w.heap.size + 1)) #[] #[]] ++ lb)) W1 := by
   simp [invoke,go_sem,eg]
 have lead : ∀ f',Target.leads P W1 (.fn (.func gf) lb) #[.func (.yield (w.heap.size + 1)) #[] #[]] = some f' → F.fn f' := fun f' hf' => by
   simp [Target.leads] at hf'; subst hf'; exact hFg
 have h00 : (lone (b.atR a (.code (.rangeFunc g ps assign body) :: k)) cs w).fenced P F := by
   refine fenced_lone (.inl hb) (fun f' hf' => lead f' ?_) (Fence.room_le hr (by omega))
   have hev := Frame.eval_atR b a (.code (.rangeFunc g ps assign body) :: k)
   simp only [Frame.atR] at hev
   simp only [Frame.about,Frame.atR,enter,hev,resol] at hf'
   exact hf'
 have step0 := stepR_rangeFunc (P:=P) (b:=b) (a:=a) (k:=k) (cs:=cs) (w:=w) enter resol invok
 have room1 : F.room ((b.atR { a with defers := [{ target := .collected w.heap.size,args := #[] }] ++ a.defers } (.inRangeFunc (w.heap.size + 1) :: k) :: cs).length + 1 + (n - 1)) := Fence.room_enter hr (fun _ => h1)
 have call := hseq (w.heap.size + 1) J Jx W1 (hw0.trans m1)
   (fun i A B hs m => by rw [hJ] at hs ⊢; exact ⟨(hI i).more hs.1 m,m.block hs.2.1,m.block hs.2.2⟩)
   (fun e i A B hs m => by
     rw [hJx] at hs ⊢
     refine ⟨?_,m.block hs.2⟩
     cases e with
     | panicked ch => exact (hIx _ i).more hs.1 m
     | returned v => obtain ⟨x,c,q1,q2,q3⟩ := hs.1; exact ⟨x,c,q1,(hIx _ i).more q2 m,m.block q3⟩
     | outgrown => obtain ⟨x,c,q1,q2,q3⟩ := hs.1; exact ⟨x,c,q1,(hIx _ i).more q2 m,m.block q3⟩)
   ?round (by rw [hJ]; exact ⟨(hI 0).more h0 m1,L1,D1⟩)
 case round =>
   intro i W hi hs
   rw [hJ] at hs
   obtain ⟨hin,hl,hd⟩ := hs
   have hy := run_yield (P:=P) (args:=enc i) hl (by rw [hrec]; exact hps i)
   rw [hrec] at hy
   refine ⟨b.fn,_,assign,body,hy,round_ends hb hfb (hassign _ i W _ hi (lt_of_heap hl) hin ?_)⟩
   clear hy
   intro a' Wa ka sa xa
   have la := (ka _ (.inr rfl)).trans hl
   have da := (ka _ (.inl rfl)).trans hd
   have lta : w.heap.size + 1 < Wa.heap.size := lt_of_heap la
   refine ⟨_,run_beginRound la (by rw [hrec]),?_⟩
   have nS : ¬ S (w.heap.size + 1) := fun q => by have := hS _ q; omega
   obtain ⟨Wb,hWb⟩ : ∃ Wb,Wa.putObj (w.heap.size + 1) (.loop { rec .ready none with state := .busy }) = Wb := ⟨_,rfl⟩
   have lb2 : Wb.heap[w.heap.size + 1]? = some (.loop { rec .ready none with state := .busy }) := by rw [← hWb]; exact World.putObj_heap_same lta
   have db : Wb.heap[w.heap.size]? = some (.deferred (some [])) := by rw [← hWb]; exact (World.putObj_heap_other (by omega)).trans da
   have sb : SameOn S W Wb := sa.trans (by rw [← hWb]; exact SameOn.put _ _ _ nS)
   rw [hWb]
   refine wpIn_mono (hbody _ i a' Wb (lt_of_heap lb2) hi (by rw [← hWb]; exact (hAx i a').put _ xa la)) ?_
   -- the record behind the body,and the round's end
   have fin : ∀ (jump : Option Code) (W3 : World),SameOn (bookAt w.heap.size) Wb W3 →
       (Instr.endRound (w.heap.size + 1) jump).run P W3 = .ok (.bool jump.isNone) (W3.putObj (w.heap.size + 1) (.loop (rec (if jump.isNone then .ready else .done) jump))) ∧
       W3.heap[w.heap.size + 1]? = some (.loop { rec .ready none with state := .busy }) ∧
       (W3.putObj (w.heap.size + 1) (.loop (rec (if jump.isNone then .ready else .done) jump))).heap[w.heap.size + 1]? = some (.loop (rec (if jump.isNone then .ready else .done) jump)) ∧
       (W3.putObj (w.heap.size + 1) (.loop (rec (if jump.isNone then .ready else .done) jump))).heap[w.heap.size]? = some (.deferred (some [])) := fun jump W3 k3 => by
     have l3 := (k3 _ (.inr rfl)).trans lb2
     have e3 := run_endRound (P:=P) jump l3
     rw [hrec] at e3 ⊢
     exact ⟨e3,by rw [hrec] at l3; exact l3,World.putObj_heap_same (lt_of_heap l3),(World.putObj_heap_other (by omega)).trans ((k3 _ (.inl rfl)).trans db)⟩
   have left' : ∀ (x : Exit) (c : Code) (W3 : World),jumpOf x = some c → SameOn (bookAt w.heap.size) Wb W3 → Ix x i W3 → ∃ v w',(Instr.endRound (w.heap.size + 1) (some c)).run P W3 = .ok v w' ∧
       ((Ending.returned v = .returned (.bool true) ∧ J (i + 1) w' ∧ SameOn S W w') ∨ ((Ending.returned v = .returned (.bool false) ∨ ∃ c,Ending.returned v = .panicked c) ∧ Jx (.returned v) i w')) := fun x c W3 hx k3 hix => by
     obtain ⟨r1,r2,r3,r4⟩ := fin (some c) W3 k3
     refine ⟨_,_,r1,.inr ⟨.inl rfl,?_⟩⟩
     rw [hJx]
     exact ⟨⟨x,c,hx,(hIx x i).put _ hix r2,r3⟩,r4⟩
   rintro e a3 W3 hp
   cases e with
   | normal =>
     obtain ⟨k3,s3,i3⟩ := hp
     obtain ⟨r1,r2,r3,r4⟩ := fin none W3 k3
     refine ⟨_,_,r1,.inl ⟨rfl,?_,(sb.trans s3).trans (SameOn.put _ _ _ nS)⟩⟩
     rw [hJ]
     exact ⟨(hI (i + 1)).put _ i3 r2,r3,r4⟩
   | ret => exact left' .ret _ W3 rfl hp.1 hp.2
   | exit id => exact left' (.exit id) _ W3 rfl hp.1 hp.2
   | goto t => exact left' (.goto t) _ W3 rfl hp.1 hp.2
   | panic ch =>
     obtain ⟨k3,d3,i3⟩ := hp
     refine ⟨d3,.inr ⟨.inr ⟨ch,rfl⟩,?_⟩⟩
     rw [hJx]
     exact ⟨i3,(k3 _ (.inl rfl)).trans db⟩
   | outgrown => exact hp.elim
 obtain ⟨_,callee⟩ := call
 obtain ⟨e,w₃,fr,hR,hsteps,hfn,hleave⟩ := callee (b.atR { a with defers := [{ target := .collected w.heap.size,args := #[] }] ++ a.defers } (.inRangeFunc (w.heap.size + 1) :: k) :: cs) room1
 rcases hR with ⟨⟨v,rfl⟩,hR⟩ | ⟨ch,i,rfl,hi,hR⟩
 · have lv : (lone fr (b.atR { a with defers := [{ target := .collected w.heap.size,args := #[] }] ++ a.defers } (.inRangeFunc (w.heap.size + 1) :: k) :: cs) w₃).fenced P F := fenced_leaving (hfn ▸ hFg) room1 hleave
   have back : ∀ (jump : Option Code) (w₄ : World),(Instr.endLoop (w.heap.size + 1)).run P w₃ = .ok jump w₄ →
       StepsIn (Machine.fenced P F) P (lone (b.atR a (.code (.rangeFunc g ps assign body) :: k)) cs w) (lone (b.atR { a with defers := { target := .collected w.heap.size,args := #[] } :: a.defers } ((jump.map Item.code).toList ++ k)) cs w₄) := fun jump w₄ hend => by
     refine .head h00 step0 (StepsIn.trans hsteps (.head lv ?_ (.one (fenced_calm (fr:=b.atR { a with defers := { target := .collected w.heap.size,args := #[] } :: a.defers } (.endRangeFunc (w.heap.size + 1) :: k)) hb hr rfl) (stepR_endRangeFunc hend))))
     exact (step_leave_returned hleave).trans (by rw [finish_atR_inRangeFunc]; rfl)
   rcases hR with hR | ⟨i,hi,hR⟩
   · rw [hJ] at hR
     obtain ⟨i3,l3,d3⟩ := hR
     have e3 := run_endLoop (P:=P) l3 (by rw [hrec]; simp)
     have e4 : (Instr.endLoop (w.heap.size + 1)).run P w₃ = .ok none (w₃.putObj (w.heap.size + 1) (.loop { rec .ready none with state := .exhausted })) := by rw [hrec] at e3 ⊢; exact e3
     exact ⟨.normal,_,_,hdone _ ((hI N).put _ i3 l3) ((World.putObj_heap_other (o:=.loop { rec .ready none with state := .exhausted }) (by omega)).trans d3),back none _ e4⟩
   · rw [hJx] at hR
     obtain ⟨⟨x,c,q1,q2,l3⟩,d3⟩ := hR
     have e3 := run_endLoop (P:=P) l3 (by rw [hrec]; simp)
     obtain ⟨e',a'',w₅,hq,way⟩ := hstop i x c _ q1 hi ((hIx x i).put _ q2 l3) ((World.putObj_heap_other (o:=.loop { rec .done (some c) with state := .exhausted }) (by omega)).trans d3) b k cs hrb hb hr
     have e4 : (Instr.endLoop (w.heap.size + 1)).run P w₃ = .ok (some c) (w₃.putObj (w.heap.size + 1) (.loop { rec .done (some c) with state := .exhausted })) := by rw [hrec] at e3 ⊢; exact e3
     exact ⟨e',a'',w₅,hq,.of_steps (back (some c) _ e4) way⟩
 · have lv : (lone fr (b.atR { a with defers := [{ target := .collected w.heap.size,args := #[] }] ++ a.defers } (.inRangeFunc (w.heap.size + 1) :: k) :: cs) w₃).fenced P F := fenced_leaving (hfn ▸ hFg) room1 hleave
   rw [hJx] at hR
   refine ⟨.panic ch,_,w₃,hpanic i ch w₃ hi hR.1 hR.2,.inRangeFunc (w.heap.size + 1) :: k,.head h00 step0 (StepsIn.trans hsteps (.one lv ?_))⟩
   exact (step_leave_panicked hleave).trans (by rw [← Frame.raise_atR]; rfl)
end Go.Proofs.YtflihdcliknggaaGreatDoor
namespace Go.Proofs.YtflihdcliknggaaGreatDoor
open Go.RowKit Go.Sort Go.Maps Go.Shelf
attribute [local go_sem] Oper.semAt_some
section
variable {F : Fence} {n : Nat} {P : Program} {ops : Array Oper} {rest : List Oper} {o : Oper} {a : Act} {w : World} {Q : Exit → Act → World → Prop}
theorem wpListIn_load_run (hw : Region.wanted o (yielded ops a.tmps) = true) (ty : TypeId) (x : Operand) (ho : o.op = .load ty x) (g : Nat) (hx : a.eval x = .pointer (some ⟨g,0,none⟩)) (v : Value)
   (hr : (loadVar ty ⟨g,0,none⟩).run P w = .ok v w) (h : wpListIn F n P ops Q rest (a.put o.dst v) w) : wpListIn F n P ops Q (o :: rest) a w :=
 BigFrame.wpListIn_want hw fun K hK => by
   refine ⟨by simp [Oper.about,ho],?_⟩
   rw [Oper.semAt_plain F _ _ (by rw [ho]; intro c hc; cases hc)]
   simp [execOp,ho,hx,Instr.loadAt,Instr.sureAddr,Sem.run_bind,hr,Result.andThen]
   exact hK _ _ h
theorem wpListIn_load_row (hw : Region.wanted o (yielded ops a.tmps) = true) (ty : TypeId) (x : Operand) (ho : o.op = .load ty x)
   (g : Nat) (hx : a.eval x = .pointer (some ⟨g,0,none⟩)) (t : TypeId) (cs : Array Value) (fr : Nat × Nat) (d : TypeDesc) (hg : w.heap[g]? = some (.cells cs t fr))
   (hu : P.underlying ty = some d) (hd : (match d with | .struct _ | .array _ _ => true | _ => false) = true) (hi : (P.info? ty).map (·.size) = some cs.size)
   (h : wpListIn F n P ops Q rest (a.put o.dst (.agg cs)) w) : wpListIn F n P ops Q (o :: rest) a w :=
 wpListIn_load_run hw ty x ho g hx _ (run_loadVar_row w g t ty cs fr d hg hu hd hi) h
theorem wpListIn_store_row (hw : Region.wanted o (yielded ops a.tmps) = true) (ty : TypeId) (x y : Operand) (ho : o.op = .store ty x y)
   (g : Nat) (hx : a.eval x = .pointer (some ⟨g,0,none⟩)) (cells : Array Value) (hy : a.eval y = .agg cells) (t : TypeId) (old : Array Value) (hg : w.heap[g]? = some (.cells old t (0,0)))
   (hi : (P.info? ty).map (·.size) = some cells.size) (hsz : old.size = cells.size) (hone : cells.all (·.oneCell') = true)
   (h : wpListIn F n P ops Q rest (a.put o.dst (.tuple #[])) (w.setRow g cells)) : wpListIn F n P ops Q (o :: rest) a w :=
 BigFrame.wpListIn_want hw fun K hK => by
   refine ⟨by simp [Oper.about,ho],?_⟩
   rw [Oper.semAt_plain F _ _ (by rw [ho]; intro c hc; cases hc)]
   have hs := run_storeVar_row (P:=P) w g t ty old cells hg hi hsz hone
   simp [execOp,ho,hx,hy,Instr.storeAt,Instr.sureAddr,Sem.run_bind,hs,Result.andThen]
   exact hK _ _ h
end
theorem wpListIn_chunk {F : Fence} {n : Nat} {ops : Array Oper} {rest : List Oper} {o : Oper} {a : Act} {w : World} {Q : Exit → Act → World → Prop} (hw : Region.wanted o (yielded ops a.tmps) = true) (x y : Operand) (ho : o.op = .build 132 #[(0,x),(1,y)]) (c : Cfg) (k : Int)
   (hx : a.eval x = .agg c.arr) (hy : a.eval y = .int .i64 k) (h : wpListIn F n Tryz.prog ops Q rest (a.put o.dst (.agg (chkArr c k))) w) : wpListIn F n Tryz.prog ops Q (o :: rest) a w :=
 BigFrame.wpListIn_want hw fun K hK => by
   refine ⟨by simp [Oper.about,ho],?_⟩
   rw [Oper.semAt_plain F _ _ (by rw [ho]; intro c hc; cases hc)]
   have hb := build_chunk c k w
   simp only [execOp,ho,List.map_toArray,List.map_cons,List.map_nil,hx,hy,Sem.run_bind,hb,Result.andThen_ok]
   exact hK _ _ h
theorem wpList_chunk {ops : Array Oper} {rest : List Oper} {o : Oper} {a : Act} {w : World} {Q : Exit → Act → World → Prop} (hw : Region.wanted o (yielded ops a.tmps) = true) (x y : Operand) (ho : o.op = .build 132 #[(0,x),(1,y)]) (c : Cfg) (k : Int)
   (hx : a.eval x = .agg c.arr) (hy : a.eval y = .int .i64 k) (h : wpList Tryz.prog ops Q rest (a.put o.dst (.agg (chkArr c k))) w) : wpList Tryz.prog ops Q (o :: rest) a w :=
 wpList_wanted hw fun K hK => by
   have hb := build_chunk c k w
   unfold Oper.wp execOp
   simp only [ho,List.map_toArray,List.map_cons,List.map_nil,hx,hy,Sem.run_bind,hb,Result.andThen_ok]
   exact hK _ _ h
theorem c_there {c : Cfg} (R : c.Ok) (p n : Int) (hp : W64 p) (w : World) : Calls Tryz.prog 171 #[.agg c.arr,.int .i64 p,.int .i64 n] w (Gives w (.bool (thereB c.pg p n))) := by
 have HC := hQQ (row_new w c.arr 28)
 have HM : Hid (More w (w.alloc (.cells c.arr 28))) := (More.refl w).alloc _
 have hfl := field_pages c
 have p1 := R.pg1
 have p2 := R.pg2
 by_cases c0 : 0 ≤ p
 · by_cases c1 : 1 ≤ n
   · have q1 : IntKind.i64.wrap (c.pg - p) = c.pg - p := by unfold W64 at hp; exact wrap_in (by omega) (by omega)
     rw [show thereB c.pg p n = decide (n ≤ c.pg - p) by unfold thereB; simp [c0,c1]]
     clear p1 p2 hp
     go_enter Tryz.func171,Tryz.ntmps171
     go_wp2_with (refine wpList_load_rowG rfl 28 _ rfl _ rfl 28 _ _ _ HC.out Tryz.underlying28 rfl (by kernel_rfl) ?_)
     refine (y_config R _).mono ?_
     rintro e w2 ⟨rfl,h2⟩
     have HM2 := hQQ (HM.out.trans h2)
     clear h2
     go_wp2_with fail
     go_ret
     exact ⟨rfl,HM2.out⟩
   · rw [show thereB c.pg p n = false by unfold thereB; simp [c1]]
     have d1 : decide (1 ≤ n) = false := by simp; omega
     go_enter Tryz.func171,Tryz.ntmps171
     go_wp2_with fail
     go_ret
     exact ⟨rfl,HM.out⟩
 · rw [show thereB c.pg p n = false by unfold thereB; simp [c0]]
   have d0 : decide (0 ≤ p) = false := by simp; omega
   go_enter Tryz.func171,Tryz.ntmps171
   go_wp2_with fail
   go_ret
   exact ⟨rfl,HM.out⟩
def roundsV (pg p n : Int) : Nat := if thereB pg p n then spanV p n else 0
def IntBox (w : World) (b : Nat) (x : Int) : Prop := w.heap[b]? = some (.cells #[.int .i64 x] 3 (0,0))
theorem over_in (n : Nat) {c : Cfg} (p q : Int) (w : World) :
   CallsIn Fence.wide n Tryz.prog 160 #[.agg c.arr,.int .i64 p,.int .i64 q] w fun e w' =>
     e = .returned (.func (.func 170) #[] #[.pointer (some ⟨w.heap.size,0,none⟩),.pointer (some ⟨w.heap.size + 1,0,none⟩),.pointer (some ⟨w.heap.size + 2,0,none⟩)]) ∧
     w' = ((w.alloc (.cells c.arr 28)).alloc (.cells #[.int .i64 p] 3)).alloc (.cells #[.int .i64 q] 3) := by
 refine callsIn_of_wp Tryz.func160 rfl trivial ?_ rfl
 simp only [Tryz.ntmps160,List.size_toArray,List.length_cons,List.length_nil,Nat.reduceAdd,Nat.reduceSub,Array.replicate_succ,Array.replicate_zero,List.push_toArray,List.append_toArray,List.nil_append,List.cons_append]
 gi_wp2
 go_ret
 exact ⟨rfl,rfl⟩
theorem over_made (c : Cfg) (p q : Int) (w : World) :
   (((w.alloc (.cells c.arr 28)).alloc (.cells #[.int .i64 p] 3)).alloc (.cells #[.int .i64 q] 3)).heap[w.heap.size]? = some (.cells c.arr 28 (0,0)) ∧
   IntBox (((w.alloc (.cells c.arr 28)).alloc (.cells #[.int .i64 p] 3)).alloc (.cells #[.int .i64 q] 3)) (w.heap.size + 1) p ∧
   IntBox (((w.alloc (.cells c.arr 28)).alloc (.cells #[.int .i64 p] 3)).alloc (.cells #[.int .i64 q] 3)) (w.heap.size + 2) q := by
 have h0 := heap_new w (.cells c.arr 28)
 have s0 : (w.alloc (.cells c.arr 28)).heap.size = w.heap.size + 1 := by simp
 generalize w.alloc (.cells c.arr 28) = w1 at h0 s0 ⊢
 have h1 := heap_new w1 (.cells #[.int .i64 p] 3)
 rw [s0] at h1
 have s1 : (w1.alloc (.cells #[.int .i64 p] 3)).heap.size = w.heap.size + 2 := by simp [s0]
 have m1 : More w1 (w1.alloc (.cells #[.int .i64 p] 3)) := (More.refl _).alloc _
 generalize w1.alloc (.cells #[.int .i64 p] 3) = w2 at h1 s1 m1 ⊢
 have h2 := heap_new w2 (.cells #[.int .i64 q] 3)
 rw [s1] at h2
 have m2 : More w2 (w2.alloc (.cells #[.int .i64 q] 3)) := (More.refl _).alloc _
 exact ⟨m2.block (m1.block h0),m2.block h1,h2⟩
theorem over_ends (n : Nat) (hn : 1 ≤ n) {c : Cfg} (R : c.Ok) (p q : Int) (hp : W64 p) (bl bp bq : Nat) (w0 : World) (hl : w0.heap[bl]? = some (.cells c.arr 28 (0,0))) (hbp : IntBox w0 bp p) (hbq : IntBox w0 bq q) :
   SeqEnds Fence.wide n Tryz.prog 170 #[.pointer (some ⟨bl,0,none⟩),.pointer (some ⟨bp,0,none⟩),.pointer (some ⟨bq,0,none⟩)] (fun i => #[.agg (chkArr c (p / 4 + (i : Int)))]) (roundsV c.pg p q) (fun k => k = bl ∨ k = bp ∨ k = bq) w0 := by
 intro l J Jx W hW hJ hJx hY h0
 have HL := hQQ (hW.block hl)
 have HP := hQQ (hW.block hbp)
 have HQ := hQQ (hW.block hbq)
 have HR := hQQ R
 have cp := (box_cells HP.out).1
 have cq := (box_cells HQ.out).1
 have TH := hQQ (fun w => c_there (c:=c) R p q hp w)
 have HJ := hQQ hJ
 have HJx := hQQ hJx
 have HY := hQQ hY
 clear hl hbp hbq hW hJ hJx hY
 refine callsIn_of_wp Tryz.func170 rfl trivial ?_ rfl
 simp only [Tryz.ntmps170,List.size_toArray,List.length_cons,List.length_nil,Nat.reduceAdd,Nat.reduceSub,Array.replicate_succ,Array.replicate_zero,List.push_toArray,List.append_toArray,List.nil_append,List.cons_append]
 cases hth : thereB c.pg p q with
 | false =>
   have hN : roundsV c.pg p q = 0 := by unfold roundsV; rw [hth]; rfl
   rw [hN] at HY ⊢
   gi_wp2_with (first
     | (refine wpListIn_load_row rfl 28 _ rfl _ rfl 28 _ _ _ HL.out Tryz.underlying28 rfl (by kernel_rfl) ?_)
     | ((with_reducible refine And.intro ?_ ?_); exact trivial; gi_at_call 171; refine (callsIn_wide.2 (TH.out _)).mono ?_; rw [hth]; rintro e w' ⟨rfl,h1⟩; have M1 := hQQ h1; clear h1))
   refine bodyPost_ret (results_none rfl _ _ _) rfl ?_
   exact .inl ⟨⟨_,rfl⟩,.inl (HJ.out _ _ _ h0 M1.out)⟩
 | true =>
   have hN : roundsV c.pg p q = spanV p q := by unfold roundsV; rw [hth]; rfl
   rw [hN] at HY ⊢
   obtain ⟨r0,r1,r2⟩ := there_iff.1 hth
   have pg2 := R.pg2
   have q1 : IntKind.i64.wrap (p + q) = p + q := wrap_in (by omega) (by omega)
   have q2 : IntKind.i64.wrap (p + q - 1) = p + q - 1 := wrap_in (by omega) (by omega)
   have o1 : ofV p = p / 4 := if_neg (by omega)
   have o2 : ofV (p + q - 1) = (p + q - 1) / 4 := if_neg (by omega)
   obtain ⟨sp,_⟩ := span_b hth pg2
   have OP := hQQ (fun w => c_of p (by omega) (by omega) w)
   have OQ := hQQ (fun w => c_of (p + q - 1) (by omega) (by omega) w)
   rw [o1] at OP
   rw [o2] at OQ
   clear o1 o2 r1 R hp
   gi_wp2_with (first
     | (refine wpListIn_load_row rfl 28 _ rfl _ rfl 28 _ _ _ HL.out Tryz.underlying28 rfl (by kernel_rfl) ?_)
     | ((with_reducible refine And.intro ?_ ?_); exact trivial; gi_at_call 171; refine (callsIn_wide.2 (TH.out _)).mono ?_; rw [hth]; rintro e w' ⟨rfl,h1⟩; have M1 := hQQ h1; have cp1 := h1.cell cp; clear h1)
     | ((with_reducible refine And.intro ?_ ?_); exact trivial; gi_at_call 132; refine (callsIn_wide.2 (OP.out _)).mono ?_; rintro e w' ⟨rfl,rfl⟩))
   have J0 := hQQ (HJ.out _ _ _ h0 M1.out)
   have HL1 := hQQ (M1.out.block HL.out)
   have HP1 := hQQ (M1.out.block HP.out)
   have HQ1 := hQQ (M1.out.block HQ.out)
   clear cp cq cp1 h0
   gi_loopw [5] (fun u wr => ∃ i : Nat,i ≤ spanV p q ∧ u = .int .i64 (p / 4 + (i : Int)) ∧ J i wr ∧ wr.heap[bl]? = some (.cells c.arr 28 (0,0)) ∧ IntBox wr bp p ∧ IntBox wr bq q) (fun u _ => ((p + q - 1) / 4 + 1 - intOf u).toNat)
   case atStart => exact ⟨0,Nat.zero_le _,by simp,J0.out,HL1.out,HP1.out,HQ1.out⟩
   case round =>
     obtain ⟨i,hi,rfl,hJi,hli,hpi,hqi⟩ := hrel
     have cpi := (box_cells hpi).1
     have cqi := (box_cells hqi).1
     have HLi := hQQ hli
     have HPi := hQQ hpi
     have HQi := hQQ hqi
     have HJi := hQQ hJi
     clear hli hpi hqi hJi
     by_cases hlt : i < spanV p q
     · obtain ⟨fn,tmps,assign,body,hy,hR⟩ := HY.out i wr hlt HJi.out
       have hld : (loadVar 28 ⟨bl,0,none⟩).run Tryz.prog wr = .ok (.agg c.arr) wr := run_loadVar_row wr bl _ _ _ _ _ HLi.out Tryz.underlying28 rfl (by kernel_rfl)
       have d1 : decide (p / 4 + (i : Int) ≤ (p + q - 1) / 4) = true := by simp; omega
       have q3 : IntKind.i64.wrap (p / 4 + (i : Int) + 1) = p / 4 + (i : Int) + 1 := wrap_in (by omega) (by omega)
       gi_wp2_with (first
         | ((with_reducible refine wpListIn_load_run ?_ 28 (.tmp 1) ?_ bl ?_ (.agg c.arr) ?_ ?_); rfl; rfl; rfl; exact hld)
         | ((with_reducible refine wpListIn_chunk ?_ (.tmp 23) (.tmp 24) ?_ c (p / 4 + (i : Int)) ?_ ?_ ?_); rfl; rfl; rfl; rfl)
         | ((with_reducible refine And.intro ?_ ?_); exact trivial; gi_at_call 132; refine (callsIn_wide.2 (OQ.out _)).mono ?_; rintro e w' ⟨rfl,rfl⟩))
       refine hR.mono ?_
       rintro e W3 (⟨rfl,hJ3,hs3⟩ | ⟨he,hJx3⟩)
       · have HL3 := hQQ ((hs3 bl (.inl rfl)).trans HLi.out)
         have HP3 := hQQ ((hs3 bp (.inr (.inl rfl))).trans HPi.out)
         have HQ3 := hQQ ((hs3 bq (.inr (.inr rfl))).trans HQi.out)
         clear hs3
         gi_wp2
         go_roundw
         case rel => exact ⟨i + 1,by omega,by go_num,hJ3,HL3.out,HP3.out,HQ3.out⟩
         case measure => simp [intOf]; omega
       · rcases he with rfl | ⟨ch,rfl⟩
         · gi_wp2
           refine bodyPost_ret (results_none rfl _ _ _) rfl ?_
           exact .inl ⟨⟨_,rfl⟩,.inr ⟨i,hlt,hJx3⟩⟩
         · exact ⟨rfl,.inr ⟨ch,i,rfl,hlt,hJx3⟩⟩
     · obtain rfl : i = spanV p q := by omega
       have d1 : decide (p / 4 + ((spanV p q : Nat) : Int) ≤ (p + q - 1) / 4) = false := by simp; omega
       gi_wp2_with (first
         | ((with_reducible refine And.intro ?_ ?_); exact trivial; gi_at_call 132; refine (callsIn_wide.2 (OQ.out _)).mono ?_; rintro e w' ⟨rfl,rfl⟩))
       go_end0
       exact .inl ⟨⟨_,rfl⟩,.inl HJi.out⟩
theorem went_cases {α : Type} {w w' : World} {F : Nat → Prop} {p : Nat} {kn : Int → Option Int} {val : α → Value} {R : Res α} {e : Ending} (h : WentV w F p kn val R e w') : (∃ a,R = .need a ∧ e = .panicked (endOf p)) ∨ ∃ x D,R = .ok x D ∧ e = .returned (val x) := by
 cases R with
 | need a => exact .inl ⟨a,rfl,h.1⟩
 | ok x D => exact .inr ⟨x,D,rfl,h.1⟩
theorem c_Mapped {c : Cfg} (R : c.Ok) (F : Nat → Prop) (p : Nat) (kn : Int → Option Int) (D : List KV) (k : Int) (w : World) (hv : ViewAt w F p kn D) :
   Calls Tryz.prog 131 #[.pointer (some ⟨p,0,none⟩),.agg c.arr,.int .i64 k] w (WentV w F p kn (fun b => .bool b) (mappedP c.pg c.st k kn D)) := by
 have HC := hQQ (row_new w c.arr 28)
 have HM : Hid (More w (w.alloc (.cells c.arr 28))) := (More.refl w).alloc _
 have HV := hQQ (hv.more HM.out)
 clear hv
 go_enter Tryz.func131,Tryz.ntmps131
 go_wp2_with (first | refine wpList_load_row rfl 28 _ rfl _ rfl 28 _ _ _ HC.out Tryz.underlying28 rfl (by kernel_rfl) ?_ | ((with_reducible refine wpList_chunk ?_ (.tmp 7) (.tmp 8) ?_ c k ?_ ?_ ?_); rfl; rfl; rfl; rfl))
 refine (c_isMapped R F p kn D k _ HV.out).mono ?_
 intro e w1 he
 have FIN := hQQ (he.after HM.out)
 rcases went_cases he with ⟨a,_,rfl⟩ | ⟨x,D',_,rfl⟩
 · exact ⟨rfl,FIN.out⟩
 · clear he
   go_wp2_with fail
   go_ret
   exact FIN.out
theorem turned_put {S : Nat → Prop} {w w' : World} (h : Turned S w w') (l : Nat) (o : Obj) (hl : l < w.heap.size → S l) : Turned S w (w'.putObj l o) :=
 ⟨h.os,h.tape,h.output,by simpa using h.size,fun k hk hs => by
   rw [World.putObj_heap_other (by rintro rfl; exact hs (hl hk))]; exact Turned.block h k hk hs⟩
structure OnV (w6 W : World) (F T : Nat → Prop) (p : Nat) (kn : Int → Option Int) (n : Nat) (D : List KV) (F' : Nat → Prop) : Prop where
 view : ViewAt W F' p kn D
 from' : ∀ k,F' k → F k ∨ w6.heap.size + 2 ≤ k
 turn : Turned (fun k => F k ∨ T k) w6 W
 inv : InvD n D
namespace OnV
variable {w6 W W' : World} {F T F' : Nat → Prop} {p n : Nat} {kn : Int → Option Int} {D : List KV}
theorem begin (hv : ViewAt w6 F p kn D) (hD : InvD n D) : OnV w6 w6 F T p kn n D F := ⟨hv,fun k q => .inl q,Turned.refl _ _,hD⟩
theorem more (h : OnV w6 W F T p kn n D F') (m : More W W') : OnV w6 W' F T p kn n D F' :=
 ⟨h.view.more m,h.from',turned_own (F' := fun _ => False) h.turn m (fun _ q => q.elim),h.inv⟩
theorem put (h : OnV w6 W F T p kn n D F') (hF : ∀ k,F k → k < w6.heap.size) {r : Loop} (r' : Loop) (hl : W.heap[w6.heap.size + 1]? = some (.loop r)) : OnV w6 (W.putObj (w6.heap.size + 1) (.loop r')) F T p kn n D F' :=
 ⟨h.view.keepS (S:=fun k => k = w6.heap.size + 1) (turned_put (Turned.refl _ W) _ _ (fun _ => rfl))
     (fun k q e => by subst e; rcases h.from' _ q with r | r; have := hF _ r; omega; omega)
     (fun k es cl e q => by subst e; rw [hl] at q; cases q),
   h.from',turned_put h.turn _ _ (fun q => by omega),h.inv⟩
theorem box (h : OnV w6 W F T p kn n D F') {b : Nat} (hT : T b) (hF : ∀ k,F k → k < b) (hb : b < w6.heap.size) (v : Value) {o : Obj} (ho : W.heap[b]? = some o) (hm : ∀ es cl,o ≠ .map es cl) : OnV w6 (W.setCell ⟨b,0,none⟩ v) F T p kn n D F' :=
 ⟨h.view.keepS (S:=fun k => k = b) (Turned.setCell (S:=fun k => k = b) (Turned.refl _ W) ⟨b,0,none⟩ v (fun _ => rfl))
     (fun k q e => by subst e; rcases h.from' _ q with r | r; have := hF _ r; omega; omega)
     (fun k es cl e q => by subst e; rw [ho] at q; cases q; exact hm _ _ rfl),
   h.from',h.turn.setCell ⟨b,0,none⟩ v (fun _ => .inr hT),h.inv⟩
theorem step (h : OnV w6 W F T p kn n D F') (hs : w6.heap.size + 2 ≤ W.heap.size) {D1 : List KV} {v : Value} {e : Ending} (m : More W W') {W2 : World} (hd : DidView W' F' p kn D1 v e W2) (hI : InvD n D1) :
   e = .returned v ∧ ∃ F1,OnV w6 W2 F T p kn n D1 F1 ∧ Turned F' W W2 := by
 obtain ⟨he,F1,hv,ht,hn⟩ := hd
 refine ⟨he,F1,⟨hv,fun k q => ?_,turned_own (turned_own (F' := fun _ => False) h.turn m (fun _ q => q.elim)) ht (fun k q => (h.from' k q).imp .inl (fun r => by omega)),hI⟩,turned_own (Turned.mono m (fun _ _ q => q.elim)) ht (fun k q => .inl q)⟩
 rcases hn k q with r | r
 · exact h.from' k r
 · have := m.size; exact .inr (by omega)
theorem same (h : OnV w6 W F T p kn n D F') (hF : ∀ k,F k → k < w6.heap.size) (hs : w6.heap.size + 2 ≤ W.heap.size) {W2 : World} (t : Turned F' W W2) : SameOn (bookAt w6.heap.size) W W2 :=
 SameOn.turned t (fun k q => by rcases q with q | q <;> omega) (fun k q r => by
   rcases h.from' k r with s | s
   · have := hF k s; rcases q with q | q <;> omega
   · rcases q with q | q <;> omega)
theorem sameS (h : OnV w6 W F T p kn n D F') {S : Nat → Prop} (hS : ∀ k,S k → k < w6.heap.size ∧ ¬ F k) {W2 : World} (t : Turned F' W W2) : SameOn S W W2 :=
 SameOn.turned t (fun k q => Nat.lt_of_lt_of_le (hS k q).1 h.turn.size) (fun k q r => by
   rcases h.from' k r with s | s
   · exact (hS k q).2 s
   · have := (hS k q).1; omega)
end OnV
def EndV (w6 W : World) (F T : Nat → Prop) (p : Nat) (a : Int) : Prop := DeadAt W p a ∧ Turned (fun k => F k ∨ T k) w6 W
theorem EndV.of {w6 W W' W2 : World} {F T F' : Nat → Prop} {p n : Nat} {kn : Int → Option Int} {D : List KV} (h : OnV w6 W F T p kn n D F') (hs : w6.heap.size ≤ W.heap.size) (m : More W W') {a : Int} {e : Ending} (he : Ended W' F' p a e W2) : e = .panicked (endOf p) ∧ EndV w6 W2 F T p a ∧ Turned F' W W2 :=
 ⟨he.1,⟨he.2.1,turned_own (turned_own (F' := fun _ => False) h.turn m (fun _ q => q.elim)) he.2.2 (fun k q => (h.from' k q).imp .inl (fun r => by omega))⟩,turned_own (Turned.mono m (fun _ _ q => q.elim)) he.2.2 (fun k q => .inl q)⟩
theorem EndV.more {w6 W W' : World} {F T : Nat → Prop} {p : Nat} {a : Int} (h : EndV w6 W F T p a) (m : More W W') : EndV w6 W' F T p a :=
 ⟨h.1.keep m (fun q => q),turned_own (F' := fun _ => False) h.2 m (fun _ q => q.elim)⟩
theorem EndV.put {w6 W : World} {F T : Nat → Prop} {p : Nat} {a : Int} (h : EndV w6 W F T p a) {l : Nat} {o : Obj} (hl : W.heap[l]? = some o) (ho : o.isCells = false) (hb : w6.heap.size ≤ l) (o' : Obj) : EndV w6 (W.putObj l o') F T p a := by
 refine ⟨?_,turned_put h.2 _ _ (fun q => by omega)⟩
 obtain ⟨M,q,hp⟩ := h.1
 exact ⟨M,q,(World.putObj_heap_other (by rintro rfl; rw [hl] at hp; cases hp; cases ho)).trans hp⟩
theorem endV_fin {α : Type} {w w6 W : World} {F T : Nat → Prop} {p : Nat} {kn : Int → Option Int} {a : Int} {val : α → Value} {R : Res α} (m : More w w6) (hT : ∀ k,T k → w.heap.size ≤ k) (h : EndV w6 W F T p a) (hR : R = .need a) : WentV w F p kn val R (.panicked (endOf p)) W :=
 WentV.need hR ⟨rfl,h.1,turned_own (Turned.mono m (fun _ _ q => q.elim)) h.2 (fun k q => q.imp id (hT k))⟩
theorem onV_fin {α : Type} {w w6 W W2 : World} {F T F' S : Nat → Prop} {p n : Nat} {kn : Int → Option Int} {D : List KV} {val : α → Value} {R : Res α} {x : α} (m : More w w6) (hT : ∀ k,T k → w.heap.size ≤ k) (h : OnV w6 W F T p kn n D F') (hR : R = .ok x D)
   (t : Turned S W W2) (hS : ∀ k,S k → w.heap.size ≤ k ∧ ¬ F' k) (hM : ∀ k es cl,S k → W.heap[k]? ≠ some (.map es cl)) : WentV w F p kn val R (.returned (val x)) W2 := by
 refine WentV.did hR ⟨rfl,F',h.view.keepS t (fun k q r => (hS k r).2 q) hM,?_,fun k q => (h.from' k q).imp id (fun r => by have := m.size; omega)⟩
 exact turned_own (turned_own (Turned.mono m (fun _ _ q => q.elim)) h.turn (fun k q => q.imp id (hT k))) t (fun k q => .inr (hS k q).1)
section
variable (w6 : World) (F : Nat → Prop) (b p : Nat) (tb : TypeId) (kn : Int → Option Int) (n : Nat)
def LoopI (Sem : List KV → Value → Prop) (W : World) : Prop := ∃ F' D' v,OnV w6 W F (fun k => k = b) p kn n D' F' ∧ W.heap[b]? = some (.cells #[v] tb (0,0)) ∧ Sem D' v
def LoopX (NeedR : Int → Prop) (Ret : List KV → Value → Prop) : Exit → World → Prop
 | .panic ch,W => ch = endOf p ∧ ∃ a,NeedR a ∧ EndV w6 W F (fun k => k = b) p a
 | .ret,W => LoopI w6 F b p tb kn n Ret W
 | _,_ => False
def LoopA (Sem : List KV → Value → Prop) (tc : TypeId) (cs : Array Value) (acts : Nat → Act) (a' : Act) (W : World) : Prop :=
 ∃ Bx F' D' v,w6.heap.size + 2 ≤ Bx ∧ ¬ F' Bx ∧ W.heap[Bx]? = some (.cells cs tc (0,0)) ∧ OnV w6 W F (fun k => k = b) p kn n D' F' ∧ W.heap[b]? = some (.cells #[v] tb (0,0)) ∧ Sem D' v ∧ a' = acts Bx
end
section
variable {w6 : World} {F : Nat → Prop} {b p : Nat} {tb : TypeId} {kn : Int → Option Int} {n : Nat}
theorem loopI_books (hF : ∀ k,F k → k < w6.heap.size) (hb : b < w6.heap.size) (Sem : List KV → Value → Prop) : Books w6.heap.size (LoopI w6 F b p tb kn n Sem) :=
 ⟨fun {A A'} h m => by obtain ⟨F',D',v,h1,h2,h3⟩ := h; exact ⟨F',D',v,h1.more m,m.block h2,h3⟩,
  fun {A r} r' h hl => by obtain ⟨F',D',v,h1,h2,h3⟩ := h; exact ⟨F',D',v,h1.put hF r' hl,(World.putObj_heap_other (by omega)).trans h2,h3⟩⟩
theorem loopX_books (hF : ∀ k,F k → k < w6.heap.size) (hb : b < w6.heap.size) (NeedR : Int → Prop) (Ret : List KV → Value → Prop) (e : Exit) : Books w6.heap.size (LoopX w6 F b p tb kn n NeedR Ret e) := by
 cases e with
 | panic ch =>
   exact ⟨fun {A A'} h m => by obtain ⟨h1,a,h2,h3⟩ := h; exact ⟨h1,a,h2,h3.more m⟩,
     fun {A r} r' h hl => by obtain ⟨h1,a,h2,h3⟩ := h; exact ⟨h1,a,h2,h3.put hl rfl (by omega) _⟩⟩
 | ret => exact loopI_books hF hb Ret
 | normal => exact ⟨fun {A A'} h m => h,fun {A r} r' h hl => h⟩
 | exit _ => exact ⟨fun {A A'} h m => h,fun {A r} r' h hl => h⟩
 | goto _ => exact ⟨fun {A A'} h m => h,fun {A r} r' h hl => h⟩
 | outgrown => exact ⟨fun {A A'} h m => h,fun {A r} r' h hl => h⟩
theorem loopA_books (hF : ∀ k,F k → k < w6.heap.size) (hb : b < w6.heap.size) (Sem : List KV → Value → Prop) (tc : TypeId) (cs : Array Value) (acts : Nat → Act) (a' : Act) : Books w6.heap.size (LoopA w6 F b p tb kn n Sem tc cs acts a') :=
 ⟨fun {A A'} h m => by obtain ⟨Bx,F',D',v,h0,h1,h2,h3,h4,h5⟩ := h; exact ⟨Bx,F',D',v,h0,h1,m.block h2,h3.more m,m.block h4,h5⟩,
  fun {A r} r' h hl => by
   obtain ⟨Bx,F',D',v,h0,h1,h2,h3,h4,h5⟩ := h
   exact ⟨Bx,F',D',v,h0,h1,(World.putObj_heap_other (by omega)).trans h2,h3.put hF r' hl,(World.putObj_heap_other (by omega)).trans h4,h5⟩⟩
end
attribute [local go_sem] Oper.semAt_some
def chkZero : Array Value := #[.int .i64 0,.int .i64 0,.int .i64 0,.int .i64 0,.int .i64 0,.int .i64 0,.int .i64 0,.int .i64 0,.int .i64 0,.int .i64 0,.int .i64 0,.int .i64 0,.int .i64 0,.int .i64 0,.int .i64 0,.int .i64 0,.int .i64 0,.int .i64 0,.int .i64 0,.int .i64 0,.int .i64 0,.int .i64 0,.int .i64 0,.int .i64 0,.int .i64 0]
theorem chk_one (c : Cfg) (k : Int) : (chkArr c k).all (·.oneCell') = true := by
 unfold chkArr
 rw [Array.all_push]
 have : c.arr.all (·.oneCell') = true := layArr_one ..
 rw [this]; rfl
theorem chk_boxed (W : World) (c : Cfg) (k : Int) : ((W.alloc (.cells chkZero 132)).setRow W.heap.size (chkArr c k)).heap[W.heap.size]? = some (.cells (chkArr c k) 132 (0,0)) ∧ More W ((W.alloc (.cells chkZero 132)).setRow W.heap.size (chkArr c k)) :=
 ⟨setRow_heap _ _ _ _ _ _ (heap_new W _),((More.refl W).alloc _).setRow _ _ (Nat.le_refl _)⟩
theorem same_more {S : Nat → Prop} {W W' : World} (m : More W W') (hS : ∀ k,S k → k < W.heap.size) : SameOn S W W' := SameOn.turned m hS (fun _ _ q => q)
end Go.Proofs.YtflihdcliknggaaGreatDoor
