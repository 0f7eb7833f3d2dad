/-
  Proved: at the landed commit, which numbers may be, and two together, are as the document says. For any two sets of numbers, in a world where the table of the sizes of classes lies as it is written; no other condition.
-/
import Derived.Test.YtfddhogffpkhcaaGreatDoorRows
import Derived.Test.YtfddhogffpkhcaaGreatDoorChecked
import Derived.Test.YtfddhogffpkhcaaGreatDoorTsAi
import Derived.ProofKit
import Derived.OpenShut
import Derived.ShutString
import Derived.ChangeOld
import Derived.Below
import Derived.LaidMore
import Derived.Stop.Joined
import Derived.SevenTiedAt
import Derived.Test.YtfddhogffpkhcaaGreatDoorTie
import Derived.Test.YtfddhogffpkhcaaGreatDoorCards
set_option maxRecDepth 100000
set_option maxHeartbeats 8000000
set_option linter.all false
namespace Go.Proofs.YtfddhogffpkhcaaGreatDoor.tallyRights
open Go.ChangeShapes Go.WideShapes Go.ChangeAt Go.RowKit
theorem own:ownKnob Tryz.prog.godebug=none:=by kernel_rfl
theorem laidOut:laidOutB Tryz.prog=true:=by kernel_rfl
theorem lifted (os:Os)(started:os.Started)(H:Type)(enc:TypeId×Value→H):
 ReturnsInHanded {} Tryz.checked os 4 .any (fun w args=>(Rows.tallyRightsSpec.pre enc Tryz.prog Tryz.f4 [] false w args∧laidMetH Tryz.prog laidL w)∧sizedMet enc Tryz.prog Tryz.f4 (OpenSpec.ofChange Rows.tallyRightsSpec) false w args)
  (Rows.tallyRightsSpec.post enc Tryz.prog Tryz.f4 false true false false):=by
 refine returnsInHanded_of_change_and (C:=Tryz.checked) (X:=fun w _=>laidMetH Tryz.prog laidL w) (fun _ _ _ hh h=>h.of_heap hh) own started (by kernel_rfl) Tryz.func4
  (ChangeSpec.witness_shaped (enc:=enc) (C:=Tryz.checked) (os:=os) (X:=fun w _=>laidMetH Tryz.prog laidL w) false (World.doorLaid Tryz.prog 400 os) #[.agg #[.int .i64 0,.int .i64 0,.int .i64 0,.int .i64 0,.int .i64 0,.int .i64 0,.int .i64 0],.agg #[.int .i64 0,.int .i64 0,.int .i64 0,.int .i64 0,.int .i64 0,.int .i64 0,.int .i64 0]] 8 rfl (World.shaped_of_RefB (by kernel_rfl) (by kernel_rfl)) (by kernel_rfl) (by kernel_rfl) (by kernel_rfl) (qM os _)) ?_
 intro W base args ds gs before hval0 hW hcnd _ hL _
 have hval:∀(j:Nat) t v,Tryz.f4.params[j]?=some t→args[j]?=some v→Value.okWide Tryz.prog W .any base t v:=hval0
 have hW':=hW
 obtain⟨p,q,hA0,hV,rfl,hfz,hnd⟩:=hW
 have hA:DataW.TrodAll enc Tryz.prog W 0 (fun _=>true) true Tryz.f4.params.toList args.toList ds p:=hA0
 rw[Tryz.params4] at hA hval
 obtain⟨v0,vs0,d0,ds0,p0,q0,hargs,rfl,rfl,h0,r0⟩:=trodAll_cons hA
 obtain⟨v1,vs1,d1,ds1,p1,q1,rfl,rfl,rfl,h1,r1⟩:=trodAll_cons r0
 obtain⟨rfl,rfl,rfl⟩:=trodAll_nil r1
 obtain rfl:args= #[v0,v1]:=by cases args;simp_all
 obtain⟨rfl,rfl⟩:=trodVars_none hV
 have k0:=h0
 have lt0:∀x∈p0,x.block<W.heap.size:=by obtain⟨m,hm⟩:=k0;exact DataW.trod_lt m _ _ _ hm
 obtain⟨l0,e0,rfl,g0⟩:=dL Tryz.underlying38 (by kernel_rfl) (by kernel_rfl) (by kernel_rfl) Tryz.underlying3 (hval 0 38 v0 rfl rfl) h0
 obtain⟨x0_0,x0_1,x0_2,x0_3,x0_4,x0_5,x0_6,rfl⟩:=rD (show l0.length=7 from e0)
 have w0_0:=g0 x0_0 (by simp)
 have w0_1:=g0 x0_1 (by simp)
 have w0_2:=g0 x0_2 (by simp)
 have w0_3:=g0 x0_3 (by simp)
 have w0_4:=g0 x0_4 (by simp)
 have w0_5:=g0 x0_5 (by simp)
 have w0_6:=g0 x0_6 (by simp)
 have k1:=h1
 have lt1:∀x∈p1,x.block<W.heap.size:=by obtain⟨m,hm⟩:=k1;exact DataW.trod_lt m _ _ _ hm
 obtain⟨l1,e1,rfl,g1⟩:=dL Tryz.underlying38 (by kernel_rfl) (by kernel_rfl) (by kernel_rfl) Tryz.underlying3 (hval 1 38 v1 rfl rfl) h1
 obtain⟨x1_0,x1_1,x1_2,x1_3,x1_4,x1_5,x1_6,rfl⟩:=rD (show l1.length=7 from e1)
 have w1_0:=g1 x1_0 (by simp)
 have w1_1:=g1 x1_1 (by simp)
 have w1_2:=g1 x1_2 (by simp)
 have w1_3:=g1 x1_3 (by simp)
 have w1_4:=g1 x1_4 (by simp)
 have w1_5:=g1 x1_5 (by simp)
 have w1_6:=g1 x1_6 (by simp)
 clear hA0 hval0
 refine(rC x0_0 x0_1 x0_2 x0_3 x0_4 x0_5 x0_6 x1_0 x1_1 x1_2 x1_3 x1_4 x1_5 x1_6 W (uh hL) w0_0 w0_1 w0_2 w0_3 w0_4 w0_5 w0_6 w1_0 w1_1 w1_2 w1_3 w1_4 w1_5 w1_6).mono fun e W' ⟨he,ht⟩=>?_
 have bel:Below W.heap.size W W':=ht.below (Nat.le_refl _) (fun _ q=>q.elim)
 subst he
 exact⟨_,rfl,_,_,_,[],_,[],hW',trodAll_mk1 (shut_bool Tryz.underlying4 _),(trodAll_cons_mk (Below.trod laidOut (by kernel_rfl) (of_decide_eq_true (by kernel_rfl)) k0 bel lt0) (trodAll_cons_mk (Below.trod laidOut (by kernel_rfl) (of_decide_eq_true (by kernel_rfl)) k1 bel lt1) trodAll_mk0)),rfl,bel.frame _,fun h=>by cases h⟩
theorem over:Rows.tallyRightsRow.holds Tryz.pinned (OpenSpec.ofChange Rows.tallyRightsSpec):=
 OpenClaim.holds_of_wide 4 Tryz.f4 rfl rfl rfl rfl rfl rfl rfl ⟨rfl,rfl,rfl,rfl,rfl⟩ rfl rfl rfl rfl rfl (by kernel_rfl) Tryz.func4 (by kernel_rfl)
  (of_decide_eq_true (by kernel_rfl)) (by unfold Func.isWrapper;first|(rw[if_pos (by decide +kernel)];kernel_rfl)|(rw[if_neg (by decide +kernel)];exact⟨rfl,rfl⟩))
  (fun os started H enc _=>lifted os started H enc)
theorem proved:Rows.TallyRightsCardSaid :=
 Claim7.holds_tied_plain_at .later [] [.widerDeep] true (true, "d0703284f6d637e2a9a4e2a3856a2a8aff32eb12ccf2bbc7a1fdf8447d76401c") true
  over (fun _ h=>by cases h) (by kernel_rfl) (fun _ h=>by cases h) tallyRights_row_tie rfl ⟨rfl,rfl⟩ (by kernel_rfl) rfl
  (fun f fn hf hfn=>by
   obtain rfl : f = 4 := Option.some.inj ((show Tryz.prog.funcNamed "assart/assartlaw17.TallyRights" = some 4 by kernel_rfl).symm.trans hf) |>.symm
   obtain rfl:fn=Tryz.f4:=(Option.some.inj (Tryz.func4.symm.trans hfn)).symm
   exact⟨by kernel_rfl,fun j t ht=>by
    rw[Tryz.params4] at ht
    have hm:t∈ [38,38]:=by simpa using Array.mem_of_getElem? ht
    have hall:([38,38].all fun u=> !Tryz.prog.wantsStandIn u)=true:=by kernel_rfl
    exact(show Tryz.prog.wantsStandIn t=false by simpa using List.all_eq_true.1 hall t hm)⟩)
  (by kernel_rfl)
end Go.Proofs.YtfddhogffpkhcaaGreatDoor.tallyRights
