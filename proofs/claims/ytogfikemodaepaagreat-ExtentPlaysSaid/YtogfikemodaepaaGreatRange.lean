/-
  A range over a function, one of whose rounds may panic: the round, and the statement, under contract.
-/
import Derived.Test.YtogfikemodaepaaGreatBase
import Derived.RangeFuncNested
import Derived.RangeFuncCalls
import Derived.RangeFuncLeaves
import Derived.OwnWalkIn
import Derived.TacticsInMore
namespace Go.Proofs.YtogfikemodaepaaGreat
open Go.RowKit
set_option linter.unusedVariables false
set_option linter.unusedSimpArgs false
variable {F : Fence} {n : Nat} {P : Program}

/-- How the body of a round is left: as in the library's word, or by a panic. -/
def endsRound (P : Program) (l : Nat) (R : Ending → World → Prop) : Exit → Act → World → Prop
  | .panic chain, a, w => a.defers = [] ∧ R (.panicked chain) w
  | e, a, w => roundPost P l R e a w

/-- One round, out of its body's walk, where the body may panic. -/
theorem round_ends {l : Nat} {f : FuncId} {fn : Func} {tmps : Array Value} {assign body : Code} {w : World} {R : Ending → World → Prop} (hF : F.fn f) (hf : P.funcs[f]? = some fn)
    (h : assign.wpIn (F.inRound l) n P (Exit.then (fun a₁ w₁ => ∃ w₂, (Instr.beginRound l).run P w₁ = .ok () w₂ ∧ body.wpIn (F.inRound l) n P (endsRound P l R) a₁ w₂) (fun _ _ _ => False)) { tmps := tmps, defers := [] } w) :
    RoundIn F n P l f tmps assign body w R := by
  refine ⟨hF, fun c cs hr => ?_⟩
  obtain ⟨b, hb⟩ : ∃ b : Frame, b = { (default : Frame) with fn := f, kind := .normal, roundOf := some l } := ⟨_, rfl⟩
  have bf : b.fn = f := by rw [hb]
  have bk : b.kind = .normal := by rw [hb]
  have br : b.roundOf = some l := by rw [hb]
  have start : Frame.round l f tmps assign body .normal = b.atR { tmps := tmps, defers := [] } [.code assign, .beginRound, .code body] := by simp [Frame.round, Frame.atR, bf, bk, br]
  have room : (F.inRound l).room ((c :: cs).length + 1 + n) := hr
  have inn : (F.inRound l).fn b.fn := by rw [bf]; exact hF
  have calm : ∀ {a todo W}, (b.atR a todo).about P W = none → (lone (b.atR a todo) (c :: cs) W).fenced P F := fun q => fenced_calm (F := F) (fr := b.atR _ _) (by exact inn) room q
  obtain ⟨e, a₁, w₁, hq, way⟩ := h b [.beginRound, .code body] (c :: cs) br inn room
  rw [← start] at way
  cases e with
  | normal =>
    obtain ⟨w₂, hbegin, hbody⟩ := hq
    obtain ⟨e₂, a₂, w₃, hq₂, way₂⟩ := hbody b [] (c :: cs) br inn room
    have here : StepsIn (Machine.fenced P F) P (lone (Frame.round l f tmps assign body .normal) (c :: cs) w) (lone (b.atR a₁ [.code body]) (c :: cs) w₂) := StepsIn.trans way (.one (calm rfl) (stepR_beginRound br hbegin))
    have some' : b.roundOf.isSome = true := by rw [br]; rfl
    cases e₂ with
    | normal => obtain ⟨v, w₄, h1, h2⟩ := hq₂; exact ⟨.returned v, w₄, h2, StepsIn.trans here (StepsIn.trans way₂ (.one (calm rfl) (stepR_round_end br bk h1)))⟩
    | ret => obtain ⟨v, w₄, h1, h2⟩ := hq₂; obtain ⟨k₁, s⟩ := way₂.2 some'; exact ⟨.returned v, w₄, h2, StepsIn.trans here (StepsIn.trans s (.one (calm rfl) (stepR_round_ret br bk h1)))⟩
    | exit id => obtain ⟨v, w₄, h1, h2⟩ := hq₂; obtain ⟨k₁, hk, s⟩ := way₂.2 some' rfl; exact ⟨.returned v, w₄, h2, StepsIn.trans here (StepsIn.trans s (.one (calm rfl) (stepR_round_exit br bk hk h1)))⟩
    | goto t => obtain ⟨v, w₄, h1, h2⟩ := hq₂; obtain ⟨k₁, hk, s⟩ := way₂.2 some' rfl; exact ⟨.returned v, w₄, h2, StepsIn.trans here (StepsIn.trans s (.one (calm rfl) (stepR_round_goto br bk hk h1)))⟩
    | panic chain =>
      obtain ⟨hd, h2⟩ := hq₂
      obtain ⟨todo, s⟩ := way₂
      have lv : Frame.leaving P { b.atR a₂ todo with mode := .panicking chain } w₃ (.panicked chain) := ⟨rfl, hd, fn, by show P.funcs[b.fn]? = _; rw [bf]; exact hf⟩
      exact ⟨.panicked chain, w₃, h2, StepsIn.trans here (StepsIn.trans s (.one (fenced_leaving (F := F) (by exact inn) room lv) (step_leave_panicked lv)))⟩
    | outgrown => exact hq₂.elim
  | exit id => exact hq.elim
  | goto t => exact hq.elim
  | ret => exact hq.elim
  | panic chain => exact hq.elim
  | outgrown => exact hq.elim

/-! A walk in the frames of one function: a panic that passes through a frame is let by only where that frame's function is there. -/
def wpOf (f0 : FuncId) (F : Fence) (n : Nat) (P : Program) (c : Code) (Q : Exit → Act → World → Prop) (a : Act) (w : World) : Prop :=
  ∀ (b : Frame) (k : List Item) (cs : List Frame), b.roundOf = F.round → b.fn = f0 → F.fn b.fn → F.room (cs.length + 1 + n) →
    ∃ e a' w', Q e a' w' ∧ ArrivesIn (Machine.fenced P F) P (lone (b.atR a (.code c :: k)) cs w) b k cs e a' w'
theorem wpOf_of {f0 : FuncId} {c : Code} {Q : Exit → Act → World → Prop} {a : Act} {w : World} (h : c.wpIn F n P Q a w) : wpOf f0 F n P c Q a w :=
  fun b k cs hro _ hb hr => h b k cs hro hb hr
/-- The first part, and on. -/
theorem wpOf_seq {f0 : FuncId} {x y : Code} {Q : Exit → Act → World → Prop} {a : Act} {w : World} (h : wpOf f0 F n P x (Exit.then (wpOf f0 F n P y Q) Q) a w) : wpOf f0 F n P (.seq x y) Q a w := by
  intro b k cs hro hf hb hr
  have first : StepsIn (Machine.fenced P F) P (lone (b.atR a (.code (.seq x y) :: k)) cs w) (lone (b.atR a (.code x :: .code y :: k)) cs w) := .one (fenced_calm hb hr rfl) stepR_seq
  obtain ⟨e, a₁, w₁, hq, way⟩ := h b (.code y :: k) cs hro hf hb hr
  by_cases he : e = .normal
  · subst he
    obtain ⟨e₂, a₂, w₂, hq₂, way₂⟩ := hq b k cs hro hf hb hr
    exact ⟨e₂, a₂, w₂, hq₂, .of_steps (StepsIn.trans first way) way₂⟩
  · refine ⟨e, a₁, w₁, ?_, .of_steps first (.pass (x := .code y) rfl (fun _ _ => .inl he) way)⟩
    cases e <;> first | exact hq | exact (he rfl).elim
/-- A part that is walked as everywhere, and on. -/
theorem wpOf_first {f0 : FuncId} {x y : Code} {Q : Exit → Act → World → Prop} {a : Act} {w : World} (h : x.wpIn F n P (Exit.then (wpOf f0 F n P y Q) Q) a w) : wpOf f0 F n P (.seq x y) Q a w :=
  wpOf_seq (wpOf_of h)
/-- A block. -/
theorem wpOf_block {f0 : FuncId} {id : Nat} {x : Code} {Q : Exit → Act → World → Prop} {a : Act} {w : World} (h : wpOf f0 F n P x (Exit.inBlock id Q) a w) : wpOf f0 F n P (.block id x) Q a w := by
  intro b k cs hro hf hb hr
  have first : StepsIn (Machine.fenced P F) P (lone (b.atR a (.code (.block id x) :: k)) cs w) (lone (b.atR a (.code x :: .inBlock id :: k)) cs w) := .one (fenced_calm hb hr rfl) stepR_block
  obtain ⟨e, a₁, w₁, hq, way⟩ := h b (.inBlock id :: k) cs hro hf hb hr
  have gone : ∀ l, gotoIn l (.inBlock id :: k) = gotoIn l k := fun l => by simp [gotoIn]
  cases e with
  | normal => exact ⟨.normal, a₁, w₁, hq, StepsIn.trans first (StepsIn.trans way (.one (fenced_calm hb hr rfl) stepR_inBlock))⟩
  | goto l => exact ⟨.goto l, a₁, w₁, hq, fun k' hk => StepsIn.trans first (way.1 k' (by rw [gone]; exact hk)), fun q hk => let ⟨k₁, h1, h2⟩ := way.2 q (by rw [gone]; exact hk); ⟨k₁, h1, StepsIn.trans first h2⟩⟩
  | exit i =>
    by_cases hi : i = id
    · subst hi
      simp only [Exit.inBlock, if_true] at hq
      exact ⟨.normal, a₁, w₁, hq, StepsIn.trans first (way.1 k (by simp [exitTo]))⟩
    · simp only [Exit.inBlock, hi, if_false] at hq
      have out : exitTo i (.inBlock id :: k) = exitTo i k := by simp [exitTo, show (id == i) = false by simp; exact fun q => hi q.symm]
      exact ⟨.exit i, a₁, w₁, hq, fun k' hk => StepsIn.trans first (way.1 k' (by rw [out]; exact hk)), fun q hk => let ⟨k₁, h1, h2⟩ := way.2 q (by rw [out]; exact hk); ⟨k₁, h1, StepsIn.trans first h2⟩⟩
  | ret => exact ⟨_, a₁, w₁, hq, .of_steps first way⟩
  | panic ch => exact ⟨_, a₁, w₁, hq, .of_steps first way⟩
  | outgrown => exact ⟨_, a₁, w₁, hq, .of_steps first way⟩
/-- A function's contract from its body. -/
theorem callsIn_of_wpOf {f : FuncId} {fn : Func} {c : Code} {args : Array Value} {w : World} {R : Ending → World → Prop} (hf : P.funcs[f]? = some fn) (hb : fn.body = some c) (hF : F.fn f)
    (h : wpOf f F n P c (bodyPostM F n P fn R) { tmps := args ++ Array.replicate (fn.ntmps - args.size) undef, defers := [] } w) (hro : F.round = none) : CallsIn F n P f args w R := by
  refine ⟨hF, fun cs hr => ?_⟩
  obtain ⟨b, hb0⟩ : ∃ b : Frame, b = { (default : Frame) with fn := f, kind := .normal, roundOf := none } := ⟨_, rfl⟩
  have bf : b.fn = f := by rw [hb0]
  have bk : b.kind = .normal := by rw [hb0]
  have br : b.roundOf = none := by rw [hb0]
  have inn : F.fn b.fn := by rw [bf]; exact hF
  have hfb : P.funcs[b.fn]? = some fn := by rw [bf]; exact hf
  have start : Frame.enter P f args .normal = b.atR { tmps := args ++ Array.replicate (fn.ntmps - args.size) undef, defers := [] } [.code c] := by simp [Frame.enter, Frame.atR, hf, hb, bf, bk, br]
  obtain ⟨e, a', w', hq, way⟩ := h b [] cs (by rw [br, hro]) bf inn hr
  rw [← start] at way
  have leave : ∀ (u : FrameMode) (todo : List Item), LeavesInM F n P fn a'.tmps R a'.defers u w' → StepsIn (Machine.fenced P F) P (lone (Frame.enter P f args .normal) cs w) (lone { b.atR a' todo with mode := u } cs w') →
      ∃ e w' fr, R e w' ∧ ComesIn (Machine.fenced P F) P (lone (Frame.enter P f args .normal) cs w) (lone fr cs w') e ∧ fr.fn = f ∧ fr.leaving P w' e := fun u todo hl s => by
    obtain ⟨e', w'', fr', h1, h2, h3, h4⟩ := leaves_stepsInM (F := F) (n := n) a'.defers u w' { b.atR a' todo with mode := u } cs rfl rfl rfl hfb bk inn hr hl
    exact ⟨e', w'', fr', h1, ComesIn.of_steps s h2, h3.trans bf, h4⟩
  cases e with
  | normal => exact leave .returning [] hq (StepsIn.trans way (.one (fenced_calm (fr := b.atR a' []) inn hr rfl) (stepR_end br)))
  | ret => obtain ⟨todo, s⟩ := way.1 br; exact leave .returning todo hq s
  | panic chain => obtain ⟨todo, s⟩ := way; exact leave (.panicking chain) todo hq s
  | exit id => exact hq.elim
  | goto l => exact hq.elim
  | outgrown => exact ⟨.outgrown, w', b, hq, way.resolve_left (by rw [bk]; simp), bf, trivial⟩

/-! The statement. -/
/-- Blocks of S lie as they lay. -/
def SameOn (S : Nat → Prop) (W W' : World) : Prop := ∀ k, S k → W'.heap[k]? = W.heap[k]?
theorem SameOn.refl (S : Nat → Prop) (W : World) : SameOn S W W := fun _ _ => rfl
theorem SameOn.trans {S : Nat → Prop} {A B C : World} (h : SameOn S A B) (k : SameOn S B C) : SameOn S A C := fun i hi => (k i hi).trans (h i hi)
theorem SameOn.put {S : Nat → Prop} (W : World) (l : Nat) (o : Obj) (hl : ¬ S l) : SameOn S W (W.putObj l o) := fun i hi => World.putObj_heap_other (fun e => hl (e ▸ hi))
theorem SameOn.turned {S T : Nat → Prop} {W W' : World} (h : Turned T W W') (hl : ∀ k, S k → k < W.heap.size) (ht : ∀ k, S k → ¬ T k) : SameOn S W W' := fun i hi => Turned.block h i (hl i hi) (ht i hi)
theorem SameOn.cell {S : Nat → Prop} {W W' : World} (h : SameOn S W W') {b o : Nat} {v : Value} (hb : S b) (hc : W.cell? ⟨b, o, none⟩ = some v) : W'.cell? ⟨b, o, none⟩ = some v := by
  rw [World.cell?_of_block (w := W) (h b hb)]; exact hc

/-- What is said of memory abides new blocks, and the turns of a loop's record from block B on. -/
structure Books (B : Nat) (I : World → Prop) : Prop where
  more : ∀ {A A' : World}, I A → More A A' → I A'
  put : ∀ {A : World} {r : Loop} (r' : Loop), I A → A.heap[B + 1]? = some (.loop r) → I (A.putObj (B + 1) (.loop r'))
/-- The two blocks that a loop keeps its books in. -/
def bookAt (B k : Nat) : Prop := k = B ∨ k = B + 1

/-- What an iterator promises that hands on N things, one by one, and reads the blocks of S between two rounds. -/
def SeqEnds (F : Fence) (n : Nat) (P : Program) (gf : Nat) (lb : Array Value) (enc : Nat → Array Value) (N : Nat) (S : Nat → Prop) (w0 : World) : Prop :=
  ∀ (l : Nat) (J : Nat → World → Prop) (Jx : Ending → Nat → World → Prop) (W : World), More w0 W → (∀ k A B, J k A → More A B → J k B) → (∀ e k A B, Jx e k A → More A B → Jx e k B) →
    (∀ k W1, k < N → J k W1 → YieldAt F (n - 1) P l (enc k) W1 fun e W' => (e = .returned (.bool true) ∧ J (k + 1) W' ∧ SameOn S W1 W') ∨ ((e = .returned (.bool false) ∨ ∃ c, e = .panicked c) ∧ Jx e k W')) → J 0 W →
    CallsIn F n P gf (#[.func (.yield l) #[] #[]] ++ lb) W fun e W' => ((∃ v, e = .returned v) ∧ (J N W' ∨ ∃ k, k < N ∧ Jx (.returned (.bool false)) k W')) ∨ (∃ c k, e = .panicked c ∧ k < N ∧ Jx e k W')

/-- The jump by which a round is left. -/
def jumpOf : Exit → Option Code
  | .ret => some .ret
  | .exit id => some (.exit id)
  | .goto t => some (.goto t)
  | _ => none

/-- How the body of a round may be left. -/
def bodyEnds (B : Nat) (S : Nat → Prop) (I : Nat → World → Prop) (Ix : Exit → Nat → World → Prop) (k : Nat) (W : World) : Exit → Act → World → Prop
  | .normal, _, W' => SameOn (bookAt B) W W' ∧ SameOn S W W' ∧ I (k + 1) W'
  | .panic c, a, W' => SameOn (bookAt B) W W' ∧ a.defers = [] ∧ Ix (.panic c) k W'
  | .outgrown, _, _ => False
  | e, _, W' => SameOn (bookAt B) W W' ∧ Ix e k W'

theorem range_of {f0 : FuncId} {fn0 : Func} (hf0 : P.funcs[f0]? = some fn0) {g : Operand} {ps : Array Tmp} {assign body : Code} {Q : Exit → Act → World → Prop} {a : Act} {w : World}
    (hro : F.round = none) (h1 : 1 ≤ n) {gf : Nat} {lb : Array Value} (hg : a.eval g = .func (.func gf) #[] lb) (hFg : F.fn gf) (eg : ∀ args w, (callFunc gf args).run P w = .ok (.enter gf args) w)
    {enc : Nat → Array Value} {N : Nat} {S : Nat → Prop} {w0 : World} (hseq : SeqEnds F (n - 1) P gf lb enc N S w0) (hw0 : More w0 w) (hS : ∀ k, S k → k < w.heap.size) (hps : ∀ k, (enc k).size = ps.size)
    (I : Nat → World → Prop) (Ix : Exit → Nat → World → Prop) (hI : ∀ i, Books w.heap.size (I i)) (hIx : ∀ e i, Books w.heap.size (Ix e i)) (h0 : I 0 w) (Ax : Nat → Act → World → Prop) (hAx : ∀ k a', Books w.heap.size (Ax k a'))
    (hassign : ∀ (l k : Nat) (W : World) (K : Act → World → Prop), k < N → w.heap.size + 2 ≤ W.heap.size → I k W → (∀ a' W', SameOn (bookAt w.heap.size) W W' → SameOn S W W' → Ax k a' W' → K a' W') →
      assign.wpIn (F.inRound l) (n - 1 - 1) P (Exit.then K (fun _ _ _ => False)) { tmps := (ps.zip (enc k)).foldl (fun t (p, v) => t.setIfInBounds p v) a.tmps, defers := [] } W)
    (hbody : ∀ (l k : Nat) (a' : Act) (W : World), w.heap.size + 2 ≤ W.heap.size → k < N → Ax k a' W → body.wpIn (F.inRound l) (n - 1 - 1) P (bodyEnds w.heap.size S I Ix k W) a' W)
    (hdone : ∀ W : World, I N W → W.heap[w.heap.size]? = some (.deferred (some [])) → Q .normal { a with defers := { target := .collected w.heap.size, args := #[] } :: a.defers } W)
    (hstop : ∀ (k : Nat) (e : Exit) (c : Code) (W : World), jumpOf e = some c → k < N → Ix e k W → W.heap[w.heap.size]? = some (.deferred (some [])) → c.wpIn F n P Q { a with defers := { target := .collected w.heap.size, args := #[] } :: a.defers } W)
    (hpanic : ∀ (k : Nat) (ch : List PanicEntry) (W : World), k < N → Ix (.panic ch) k W → W.heap[w.heap.size]? = some (.deferred (some [])) → Q (.panic ch) { a with defers := { target := .collected w.heap.size, args := #[] } :: a.defers } W) :
    wpOf f0 F n P (Code.rangeFunc g ps assign body) Q a w := by
  intro b k cs hrb hf hb hr
  have hfb : P.funcs[b.fn]? = some fn0 := by rw [hf]; exact hf0
  -- the record, at its states
  obtain ⟨rec, hrec⟩ : ∃ rec : LoopState → Option Code → Loop, rec = fun st pe => { state := st, pending := pe, fn := b.fn, tmps := a.tmps, params := ps, assign, body, defers := w.heap.size } := ⟨_, rfl⟩
  obtain ⟨W1, hW1⟩ : ∃ W1, (w.alloc (.deferred (some []))).alloc (.loop (rec .ready none)) = W1 := ⟨_, rfl⟩
  have m1 : More w W1 := by rw [← hW1]; exact ((More.refl w).alloc _).alloc _
  have L1 : W1.heap[w.heap.size + 1]? = some (.loop (rec .ready none)) := by
    rw [← hW1]; have := heap_new (w.alloc (.deferred (some []))) (.loop (rec .ready none)); rwa [World.size_alloc] at this
  have D1 : W1.heap[w.heap.size]? = some (.deferred (some [])) := by
    rw [← hW1]; exact ((More.refl _).alloc _).block (heap_new w _)
  -- what is said between two rounds, and where a round has left
  obtain ⟨J, hJ⟩ : ∃ J : Nat → World → Prop, J = fun i W => I i W ∧ W.heap[w.heap.size + 1]? = some (.loop (rec .ready none)) ∧ W.heap[w.heap.size]? = some (.deferred (some [])) := ⟨_, rfl⟩
  obtain ⟨Jx, hJx⟩ : ∃ Jx : Ending → Nat → World → Prop, Jx = fun e i W => (match e with
      | .panicked ch => Ix (.panic ch) i W
      | _ => ∃ x c, jumpOf x = some c ∧ Ix x i W ∧ W.heap[w.heap.size + 1]? = some (.loop (rec .done (some c)))) ∧ W.heap[w.heap.size]? = some (.deferred (some [])) := ⟨_, rfl⟩
  have enter : (Instr.enterLoop b.fn a.tmps ps assign body b.roundOf).run P w = .ok (w.heap.size + 1, [{ target := .collected w.heap.size, args := #[] }]) W1 := by
    rw [hrb, hro, ← hW1, hrec]; exact run_enterLoop_outer _ _ _ _ _
  have resol : (resolve a.eval (rangeCall g (w.heap.size + 1)) 0).run P W1 = .ok { target := .fn (.func gf) lb, args := #[.func (.yield (w.heap.size + 1)) #[] #[]] } W1 := by
    simp only [resolve, hg]; simp [go_sem]
  have invok : (invoke (.fn (.func gf) lb) #[.func (.yield (w.heap.size + 1)) #[] #[]]).run P W1 = .ok (.enter gf (#[.func (.yield (w.heap.size + 1)) #[] #[]] ++ lb)) W1 := by
    simp [invoke, go_sem, eg]
  have lead : ∀ f', Target.leads P W1 (.fn (.func gf) lb) #[.func (.yield (w.heap.size + 1)) #[] #[]] = some f' → F.fn f' := fun f' hf' => by
    simp [Target.leads] at hf'; subst hf'; exact hFg
  have h00 : (lone (b.atR a (.code (.rangeFunc g ps assign body) :: k)) cs w).fenced P F := by
    refine fenced_lone (.inl hb) (fun f' hf' => lead f' ?_) (Fence.room_le hr (by omega))
    have hev := Frame.eval_atR b a (.code (.rangeFunc g ps assign body) :: k)
    simp only [Frame.atR] at hev
    simp only [Frame.about, Frame.atR, enter, hev, resol] at hf'
    exact hf'
  have step0 := stepR_rangeFunc (P := P) (b := b) (a := a) (k := k) (cs := cs) (w := w) enter resol invok
  have room1 : F.room ((b.atR { a with defers := [{ target := .collected w.heap.size, args := #[] }] ++ a.defers } (.inRangeFunc (w.heap.size + 1) :: k) :: cs).length + 1 + (n - 1)) := Fence.room_enter hr (fun _ => h1)
  have call := hseq (w.heap.size + 1) J Jx W1 (hw0.trans m1)
    (fun i A B hs m => by rw [hJ] at hs ⊢; exact ⟨(hI i).more hs.1 m, m.block hs.2.1, m.block hs.2.2⟩)
    (fun e i A B hs m => by
      rw [hJx] at hs ⊢
      refine ⟨?_, m.block hs.2⟩
      cases e with
      | panicked ch => exact (hIx _ i).more hs.1 m
      | returned v => obtain ⟨x, c, q1, q2, q3⟩ := hs.1; exact ⟨x, c, q1, (hIx _ i).more q2 m, m.block q3⟩
      | outgrown => obtain ⟨x, c, q1, q2, q3⟩ := hs.1; exact ⟨x, c, q1, (hIx _ i).more q2 m, m.block q3⟩)
    ?round (by rw [hJ]; exact ⟨(hI 0).more h0 m1, L1, D1⟩)
  case round =>
    intro i W hi hs
    rw [hJ] at hs
    obtain ⟨hin, hl, hd⟩ := hs
    have hy := run_yield (P := P) (args := enc i) hl (by rw [hrec]; exact hps i)
    rw [hrec] at hy
    refine ⟨b.fn, _, assign, body, hy, round_ends hb hfb (hassign _ i W _ hi (lt_of_heap hl) hin ?_)⟩
    clear hy
    intro a' Wa ka sa xa
    have la := (ka _ (.inr rfl)).trans hl
    have da := (ka _ (.inl rfl)).trans hd
    have lta : w.heap.size + 1 < Wa.heap.size := lt_of_heap la
    refine ⟨_, run_beginRound la (by rw [hrec]), ?_⟩
    have nS : ¬ S (w.heap.size + 1) := fun q => by have := hS _ q; omega
    obtain ⟨Wb, hWb⟩ : ∃ Wb, Wa.putObj (w.heap.size + 1) (.loop { rec .ready none with state := .busy }) = Wb := ⟨_, rfl⟩
    have lb2 : Wb.heap[w.heap.size + 1]? = some (.loop { rec .ready none with state := .busy }) := by rw [← hWb]; exact World.putObj_heap_same lta
    have db : Wb.heap[w.heap.size]? = some (.deferred (some [])) := by rw [← hWb]; exact (World.putObj_heap_other (by omega)).trans da
    have sb : SameOn S W Wb := sa.trans (by rw [← hWb]; exact SameOn.put _ _ _ nS)
    rw [hWb]
    refine wpIn_mono (hbody _ i a' Wb (lt_of_heap lb2) hi (by rw [← hWb]; exact (hAx i a').put _ xa la)) ?_
    -- the record behind the body, and the round's end
    have fin : ∀ (jump : Option Code) (W3 : World), SameOn (bookAt w.heap.size) Wb W3 →
        (Instr.endRound (w.heap.size + 1) jump).run P W3 = .ok (.bool jump.isNone) (W3.putObj (w.heap.size + 1) (.loop (rec (if jump.isNone then .ready else .done) jump))) ∧
        W3.heap[w.heap.size + 1]? = some (.loop { rec .ready none with state := .busy }) ∧
        (W3.putObj (w.heap.size + 1) (.loop (rec (if jump.isNone then .ready else .done) jump))).heap[w.heap.size + 1]? = some (.loop (rec (if jump.isNone then .ready else .done) jump)) ∧
        (W3.putObj (w.heap.size + 1) (.loop (rec (if jump.isNone then .ready else .done) jump))).heap[w.heap.size]? = some (.deferred (some [])) := fun jump W3 k3 => by
      have l3 := (k3 _ (.inr rfl)).trans lb2
      have e3 := run_endRound (P := P) jump l3
      rw [hrec] at e3 ⊢
      exact ⟨e3, by rw [hrec] at l3; exact l3, World.putObj_heap_same (lt_of_heap l3), (World.putObj_heap_other (by omega)).trans ((k3 _ (.inl rfl)).trans db)⟩
    have left' : ∀ (x : Exit) (c : Code) (W3 : World), jumpOf x = some c → SameOn (bookAt w.heap.size) Wb W3 → Ix x i W3 → ∃ v w', (Instr.endRound (w.heap.size + 1) (some c)).run P W3 = .ok v w' ∧
        ((Ending.returned v = .returned (.bool true) ∧ J (i + 1) w' ∧ SameOn S W w') ∨ ((Ending.returned v = .returned (.bool false) ∨ ∃ c, Ending.returned v = .panicked c) ∧ Jx (.returned v) i w')) := fun x c W3 hx k3 hix => by
      obtain ⟨r1, r2, r3, r4⟩ := fin (some c) W3 k3
      refine ⟨_, _, r1, .inr ⟨.inl rfl, ?_⟩⟩
      rw [hJx]
      exact ⟨⟨x, c, hx, (hIx x i).put _ hix r2, r3⟩, r4⟩
    rintro e a3 W3 hp
    cases e with
    | normal =>
      obtain ⟨k3, s3, i3⟩ := hp
      obtain ⟨r1, r2, r3, r4⟩ := fin none W3 k3
      refine ⟨_, _, r1, .inl ⟨rfl, ?_, (sb.trans s3).trans (SameOn.put _ _ _ nS)⟩⟩
      rw [hJ]
      exact ⟨(hI (i + 1)).put _ i3 r2, r3, r4⟩
    | ret => exact left' .ret _ W3 rfl hp.1 hp.2
    | exit id => exact left' (.exit id) _ W3 rfl hp.1 hp.2
    | goto t => exact left' (.goto t) _ W3 rfl hp.1 hp.2
    | panic ch =>
      obtain ⟨k3, d3, i3⟩ := hp
      refine ⟨d3, .inr ⟨.inr ⟨ch, rfl⟩, ?_⟩⟩
      rw [hJx]
      exact ⟨i3, (k3 _ (.inl rfl)).trans db⟩
    | outgrown => exact hp.elim
  obtain ⟨_, callee⟩ := call
  obtain ⟨e, w₃, fr, hR, hsteps, hfn, hleave⟩ := callee (b.atR { a with defers := [{ target := .collected w.heap.size, args := #[] }] ++ a.defers } (.inRangeFunc (w.heap.size + 1) :: k) :: cs) room1
  rcases hR with ⟨⟨v, rfl⟩, hR⟩ | ⟨ch, i, rfl, hi, hR⟩
  · have lv : (lone fr (b.atR { a with defers := [{ target := .collected w.heap.size, args := #[] }] ++ a.defers } (.inRangeFunc (w.heap.size + 1) :: k) :: cs) w₃).fenced P F := fenced_leaving (hfn ▸ hFg) room1 hleave
    have back : ∀ (jump : Option Code) (w₄ : World), (Instr.endLoop (w.heap.size + 1)).run P w₃ = .ok jump w₄ →
        StepsIn (Machine.fenced P F) P (lone (b.atR a (.code (.rangeFunc g ps assign body) :: k)) cs w) (lone (b.atR { a with defers := { target := .collected w.heap.size, args := #[] } :: a.defers } ((jump.map Item.code).toList ++ k)) cs w₄) := fun jump w₄ hend => by
      refine .head h00 step0 (StepsIn.trans hsteps (.head lv ?_ (.one (fenced_calm (fr := b.atR { a with defers := { target := .collected w.heap.size, args := #[] } :: a.defers } (.endRangeFunc (w.heap.size + 1) :: k)) hb hr rfl) (stepR_endRangeFunc hend))))
      exact (step_leave_returned hleave).trans (by rw [finish_atR_inRangeFunc]; rfl)
    rcases hR with hR | ⟨i, hi, hR⟩
    · rw [hJ] at hR
      obtain ⟨i3, l3, d3⟩ := hR
      have e3 := run_endLoop (P := P) l3 (by rw [hrec]; simp)
      have e4 : (Instr.endLoop (w.heap.size + 1)).run P w₃ = .ok none (w₃.putObj (w.heap.size + 1) (.loop { rec .ready none with state := .exhausted })) := by rw [hrec] at e3 ⊢; exact e3
      exact ⟨.normal, _, _, hdone _ ((hI N).put _ i3 l3) ((World.putObj_heap_other (o := .loop { rec .ready none with state := .exhausted }) (by omega)).trans d3), back none _ e4⟩
    · rw [hJx] at hR
      obtain ⟨⟨x, c, q1, q2, l3⟩, d3⟩ := hR
      have e3 := run_endLoop (P := P) l3 (by rw [hrec]; simp)
      obtain ⟨e', a'', w₅, hq, way⟩ := hstop i x c _ q1 hi ((hIx x i).put _ q2 l3) ((World.putObj_heap_other (o := .loop { rec .done (some c) with state := .exhausted }) (by omega)).trans d3) b k cs hrb hb hr
      have e4 : (Instr.endLoop (w.heap.size + 1)).run P w₃ = .ok (some c) (w₃.putObj (w.heap.size + 1) (.loop { rec .done (some c) with state := .exhausted })) := by rw [hrec] at e3 ⊢; exact e3
      exact ⟨e', a'', w₅, hq, .of_steps (back (some c) _ e4) way⟩
  · have lv : (lone fr (b.atR { a with defers := [{ target := .collected w.heap.size, args := #[] }] ++ a.defers } (.inRangeFunc (w.heap.size + 1) :: k) :: cs) w₃).fenced P F := fenced_leaving (hfn ▸ hFg) room1 hleave
    rw [hJx] at hR
    refine ⟨.panic ch, _, w₃, hpanic i ch w₃ hi hR.1 hR.2, .inRangeFunc (w.heap.size + 1) :: k, .head h00 step0 (StepsIn.trans hsteps (.one lv ?_))⟩
    exact (step_leave_panicked hleave).trans (by rw [← Frame.raise_atR]; rfl)
end Go.Proofs.YtogfikemodaepaaGreat
