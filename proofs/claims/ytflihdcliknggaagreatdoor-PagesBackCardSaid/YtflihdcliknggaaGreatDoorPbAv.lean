/-
  The landed package pages: Taken and Return, walked.
-/
import Derived.Test.YtflihdcliknggaaGreatDoorPbAs
import Derived.Test.YtflihdcliknggaaGreatDoorPbAu
set_option maxRecDepth 100000
set_option maxHeartbeats 8000000
set_option linter.unusedVariables false
set_option linter.unusedSimpArgs false
set_option linter.unusedSectionVars false
namespace Go.Proofs.YtflihdcliknggaaGreatDoor
open Go.RowKit Go.Sort Go.Maps Go.Shelf
theorem tk_one (c : Cfg) (p : Nat) (x : TkA) : ∃ cs i b,tkVal c p x = .tuple #[.agg cs,.int .i64 i,.bool b] ∧ cs.size = 27 ∧ cs.all (·.oneCell') = true ∧ ((b = false ∧ tkYes x = none) ∨ ∃ q k,x = some (q,k,i,true) ∧ cs = pgArr c p q k ∧ b = true) := by
 match x with
 | none => exact ⟨pgZ,0,false,rfl,rfl,by kernel_rfl,.inl ⟨rfl,rfl⟩⟩
 | some (q,k,i,false) => exact ⟨pgArr c p q k,i,false,rfl,by kernel_rfl,pg_one ..,.inl ⟨rfl,rfl⟩⟩
 | some (q,k,i,true) => exact ⟨pgArr c p q k,i,true,rfl,by kernel_rfl,pg_one ..,.inr ⟨q,k,rfl,rfl,rfl⟩⟩
theorem new_told (w : World) (cs : Array Value) : ∃ w1,(w.alloc (.cells #[Value.pointer none,Value.int IntKind.i64 0,Value.int IntKind.i64 0,Value.int IntKind.i64 0,Value.int IntKind.i64 0,Value.int IntKind.i64 0,Value.int IntKind.i64 0,Value.int IntKind.i64 0,Value.int IntKind.i64 0,Value.int IntKind.i64 0,Value.int IntKind.i64 0,Value.int IntKind.i64 0,Value.int IntKind.i64 0,Value.int IntKind.i64 0,Value.int IntKind.i64 0,Value.int IntKind.i64 0,Value.int IntKind.i64 0,Value.int IntKind.i64 0,Value.int IntKind.i64 0,Value.int IntKind.i64 0,Value.int IntKind.i64 0,Value.int IntKind.i64 0,Value.int IntKind.i64 0,Value.int IntKind.i64 0,Value.int IntKind.i64 0,Value.int IntKind.i64 0,Value.int IntKind.i64 0] 83)).setRow w.heap.size cs = w1 ∧ w1.heap[w.heap.size]? = some (.cells cs 83 (0,0)) ∧ More w w1 :=
 ⟨_,rfl,setRow_heap _ _ _ _ _ _ (row_new w _ _),((More.refl w).alloc _).setRow _ _ (Nat.le_refl _)⟩
theorem g_Taken {c : Cfg} (R : c.Ok) {n : Nat} (H : HdIn c.pg c.st n) (hn : n ≤ 10000) (F : Nat → Prop) (p : Nat) (kn : Int → Option Int) (D : List KV) (ad : Int) (w : World) (hv : ViewAt w F p kn D) (hk : OkK kn) (hD : InvD n D) (bt : Nat) (hs : SzAt bt w) (nF0 : ¬ F 0) (nFb : ¬ F bt) :
   Calls Tryz.prog 43 #[.pointer (some ⟨p,0,none⟩),.agg c.arr,.int .i64 ad] w (WentV w F p kn (fun x : Int × Bool => .tuple #[.int .i64 x.1,.bool x.2]) (lookP c.us c.pg c.st ad kn D)) := by
 obtain ⟨Rr,hRr⟩ : ∃ Rr,lookP c.us c.pg c.st ad kn D = Rr := ⟨_,rfl⟩
 rw [hRr]
 obtain ⟨w1,e1,hl1,m1,s1⟩ := entry1 w (.cells c.arr 28)
 have nFl : ¬ F w.heap.size := fun q => by have := hv.lt _ q; omega
 have MM := hQQ m1
 have L0 := hQQ hl1
 have M0 : Hid (MidV w1 w1 F (fun _ => False) p kn n D F) := hQQ (MidV.begin (hv.more m1) hD)
 have KL : Hid (∀ wr D' F',MidV w1 wr F (fun _ => False) p kn n D' F' → wr.heap[w.heap.size]? = some (.cells c.arr 28 (0,0))) := hQQ fun wr D' F' h => mid_own h L0.out nFl (fun q => q)
 have NEED : Hid (∀ a w2,Rr = .need a → DeadAt w2 p a → Turned (fun b => F b ∨ False) w1 w2 → WentV w F p kn (fun x : Int × Bool => Value.tuple #[.int .i64 x.1,.bool x.2]) Rr (.panicked (endOf p)) w2) := hQQ fun a w2 e hd ht => mid_need MM.out (fun _ q => q.elim) e hd ht
 have DONE : Hid (∀ x w2 D' F',Rr = .ok x D' → MidV w1 w2 F (fun _ => False) p kn n D' F' → WentV w F p kn (fun x : Int × Bool => Value.tuple #[.int .i64 x.1,.bool x.2]) Rr (.returned ((fun x : Int × Bool => Value.tuple #[.int .i64 x.1,.bool x.2]) x)) w2) := hQQ fun x w2 D' F' e h => mid_done MM.out (fun _ q => q.elim) h e
 have HK := hQQ hk
 have HR := hQQ R
 have HH := hQQ H
 clear hl1 m1 hv hD hk R H nFl
 have SZ : Hid (∀ wr D' F',MidV w1 wr F (fun _ => False) p kn n D' F' → SzAt bt wr) := hQQ fun wr D' F' h => (hs.more MM.out).keep h.turn (by rintro (q | q); exact nF0 q; exact q) (by rintro (q | q); exact nFb q; exact q)
 have NF : Hid (∀ wr D' F',MidV w1 wr F (fun _ => False) p kn n D' F' → ¬ F' 0 ∧ ¬ F' bt) := hQQ fun wr D' F' h => ⟨h.off (hs.more MM.out).lt0 nF0,h.off (hs.more MM.out).lt nFb⟩
 have HRr := hQQ (show bindP (takenP c.us c.pg c.st ad) (fun x => lookRest (tkYes x)) kn D = Rr from hRr)
 clear hRr hs nF0 nFb
 go_enter Tryz.func43,Tryz.ntmps43
 go_wp2_with (refine wpList_load_rowG rfl 28 _ rfl _ rfl 28 _ _ _ L0.out Tryz.underlying28 rfl (by kernel_rfl) ?_)
 refine (g_taken HR.out HH.out hn F p kn D ad w1 M0.out.view HK.out M0.out.inv bt (SZ.out _ _ _ M0.out) (NF.out _ _ _ M0.out).1 (NF.out _ _ _ M0.out).2).mono ?_
 intro e w2 he
 rcases M0.out.step (More.refl _) HK.out (good_taken HH.out.toPgIn ad) he with ⟨a',hE,rfl,hd',ht',_⟩ | ⟨x2,D2,F2,hE,rfl,M2,hq2,_,_⟩
 · exact ⟨rfl,NEED.out a' w2 (HRr.out.symm.trans (bindP_need hE)) hd' ht'⟩
 have L2 := hQQ (KL.out _ _ _ M2)
 have R2 := hQQ ((bindP_ok hE).symm.trans HRr.out)
 have M2 := hQQ M2
 clear he hE
 obtain ⟨cs,i,b,ev,hsz,h1,hb⟩ := tk_one c p x2
 rw [ev]
 obtain ⟨w3,e3,b3,m3⟩ := new_told w2 cs
 have H1 := hQQ h1
 have HSZ := hQQ hsz
 clear h1 hsz ev
 have M3 := hQQ (M2.out.more m3)
 rcases hb with ⟨rfl,hy⟩ | ⟨q,k,rfl,rfl,rfl⟩
 · have FIN := hQQ (DONE.out (0,false) w3 D2 F2 (by have := R2.out; rw [hy] at this; exact this.symm) M3.out)
   clear R2 hy
   go_wp2_with (refine wpList_store_row rfl 83 _ _ rfl _ _ rfl rfl 83 _ (row_new _ _ _) (by rw [HSZ.out]; kernel_rfl) (by rw [HSZ.out]; rfl) H1.out (e3.symm ▸ ?_))
   go_ret2
   exact FIN.out
 · have FIN := hQQ (DONE.out (k,true) w3 D2 F2 R2.out.symm M3.out)
   obtain ⟨c0,c25,c26⟩ := page_cells b3
   clear R2
   go_wp2_with (refine wpList_store_row rfl 83 _ _ rfl _ _ rfl rfl 83 _ (row_new _ _ _) (by rw [HSZ.out]; kernel_rfl) (by rw [HSZ.out]; rfl) H1.out (e3.symm ▸ ?_))
   go_ret2
   exact FIN.out
theorem g_Return {c : Cfg} (R : c.Ok) {n : Nat} (H : HdIn c.pg c.st n) (hn : n ≤ 10000) (F : Nat → Prop) (p : Nat) (kn : Int → Option Int) (D : List KV) (ad : Int) (w : World) (hv : ViewAt w F p kn D) (hk : OkK kn) (hD : InvD n D) (bt : Nat) (hs : SzAt bt w) (nF0 : ¬ F 0) (nFb : ¬ F bt) :
   Calls Tryz.prog 30 #[.pointer (some ⟨p,0,none⟩),.agg c.arr,.int .i64 ad] w (WentV w F p kn (fun b : Bool => .bool b) (backP c.us c.pg c.st ad kn D)) := by
 obtain ⟨Rr,hRr⟩ : ∃ Rr,backP c.us c.pg c.st ad kn D = Rr := ⟨_,rfl⟩
 rw [hRr]
 obtain ⟨w1,e1,hl1,m1,s1⟩ := entry1 w (.cells c.arr 28)
 have nFl : ¬ F w.heap.size := fun q => by have := hv.lt _ q; omega
 have MM := hQQ m1
 have L0 := hQQ hl1
 have M0 : Hid (MidV w1 w1 F (fun _ => False) p kn n D F) := hQQ (MidV.begin (hv.more m1) hD)
 have KL : Hid (∀ wr D' F',MidV w1 wr F (fun _ => False) p kn n D' F' → wr.heap[w.heap.size]? = some (.cells c.arr 28 (0,0))) := hQQ fun wr D' F' h => mid_own h L0.out nFl (fun q => q)
 have NEED : Hid (∀ a w2,Rr = .need a → DeadAt w2 p a → Turned (fun b => F b ∨ False) w1 w2 → WentV w F p kn (fun b : Bool => Value.bool b) Rr (.panicked (endOf p)) w2) := hQQ fun a w2 e hd ht => mid_need MM.out (fun _ q => q.elim) e hd ht
 have DONE : Hid (∀ x w2 D' F',Rr = .ok x D' → MidV w1 w2 F (fun _ => False) p kn n D' F' → WentV w F p kn (fun b : Bool => Value.bool b) Rr (.returned ((fun b : Bool => Value.bool b) x)) w2) := hQQ fun x w2 D' F' e h => mid_done MM.out (fun _ q => q.elim) h e
 have HK := hQQ hk
 have HR := hQQ R
 have HH := hQQ H
 clear hl1 m1 hv hD hk R H nFl
 have SZ : Hid (∀ wr D' F',MidV w1 wr F (fun _ => False) p kn n D' F' → SzAt bt wr) := hQQ fun wr D' F' h => (hs.more MM.out).keep h.turn (by rintro (q | q); exact nF0 q; exact q) (by rintro (q | q); exact nFb q; exact q)
 have NF : Hid (∀ wr D' F',MidV w1 wr F (fun _ => False) p kn n D' F' → ¬ F' 0 ∧ ¬ F' bt) := hQQ fun wr D' F' h => ⟨h.off (hs.more MM.out).lt0 nF0,h.off (hs.more MM.out).lt nFb⟩
 have HRr := hQQ (show bindP (takenP c.us c.pg c.st ad) (fun x => backTo c.pg c.st (tkYes x)) kn D = Rr from hRr)
 have HN := hQQ hn
 clear hRr hs nF0 nFb
 have hmf : ∀ (fn : Fn) (first cap : Array Value) (w : World),(Instr.makeFunc fn first cap).run Tryz.prog w = .ok (.func fn first cap) w := fun _ _ _ _ => rfl
 go_enter_defers Tryz.func30,Tryz.ntmps30
 go_wp2_with (refine wpList_load_rowG rfl 28 _ rfl _ rfl 28 _ _ _ L0.out Tryz.underlying28 rfl (by kernel_rfl) ?_)
 refine (g_taken HR.out HH.out hn F p kn D ad w1 M0.out.view HK.out M0.out.inv bt (SZ.out _ _ _ M0.out) (NF.out _ _ _ M0.out).1 (NF.out _ _ _ M0.out).2).mono ?_
 intro e w2 he
 rcases M0.out.step (More.refl _) HK.out (good_taken HH.out.toPgIn ad) he with ⟨a',hE,rfl,hd',ht',_⟩ | ⟨x2,D2,F2,hE,rfl,M2,hq2,hk2,hf2⟩
 · exact NEED.out a' w2 (HRr.out.symm.trans (bindP_need hE)) hd' ht'
 have R2 := hQQ ((bindP_ok hE).symm.trans HRr.out)
 have M2 := hQQ M2
 have HE2 := hQQ hE
 clear he hE hk2 hf2
 obtain ⟨cs,i,b,ev,hsz,h1,hb⟩ := tk_one c p x2
 rw [ev]
 obtain ⟨w3,e3,b3,m3⟩ := new_told w2 cs
 have H1 := hQQ h1
 have HSZ := hQQ hsz
 clear h1 hsz ev
 have M3 := hQQ (M2.out.more m3)
 have nFg : ¬ F2 w2.heap.size := fun z => by have := M2.out.view.lt _ z; omega
 rcases hb with ⟨rfl,hy⟩ | ⟨q,k,rfl,rfl,rfl⟩
 · have FIN := hQQ (DONE.out false w3 D2 F2 (by have := R2.out; rw [hy] at this; exact this.symm) M3.out)
   clear R2 hy
   go_wp2_with (refine wpList_store_row rfl 83 _ _ rfl _ _ rfl rfl 83 _ (row_new _ _ _) (by rw [HSZ.out]; kernel_rfl) (by rw [HSZ.out]; rfl) H1.out (e3.symm ▸ ?_))
   refine ⟨_,results_tmp (t:=6) rfl _ _ _,?_⟩
   exact FIN.out
 · have HQ := hQQ (hq2 q k i true rfl).1
   have PB := hQQ (page_b HH.out.toPgIn HQ.out)
   obtain ⟨b,hwb,-⟩ := taken_read HE2.out
   have R2 := hQQ (show backRest c.pg c.st q k i kn D2 = Rr from R2.out)
   have WB0 := hQQ hwb
   clear HE2 hq2 hwb
   go_wp2_with (first | (refine wpList_store_row rfl 83 _ _ rfl _ _ rfl rfl 83 _ (row_new _ _ _) (by rw [HSZ.out]; kernel_rfl) (by rw [HSZ.out]; rfl) H1.out (e3.symm ▸ ?_)) | (refine wpList_load_row rfl 83 _ rfl _ rfl 83 _ _ _ b3 Tryz.underlying83 rfl (by kernel_rfl) ?_))
   have BG := hQQ b3
   clear e3 m3 b3 M2
   generalize w2.heap.size = gb at BG nFg
   refine (g_moves HR.out HH.out.toPgIn HN.out F2 p kn D2 q k HQ.out w3 M3.out.view HK.out M3.out.inv).mono ?_
   intro e w7 he
   rcases M3.out.stepR (More.refl _) HK.out (good_read n PB.out.2.1.2.1) he with ⟨a',hE,rfl,hd',ht',_⟩ | ⟨was,D6,F6,vm,hE,rfl,⟨gm,wm,rfl,hgm,hwm,hne,nm,nw,bm,bw⟩,M6,hq6,hk6,hf6⟩
   · exact NEED.out a' w7 (R2.out.symm.trans (bindP_need hE)) hd' ht'
   obtain ⟨rfl,_⟩ := readP_ok hE
   have R6 := hQQ ((bindP_ok hE).symm.trans R2.out)
   have R6 := hQQ ((bindP_ok (readP_some WB0.out)).symm.trans R6.out)
   have BG := hQQ (hk6 _ _ nFg BG.out)
   have BM := hQQ bm
   have BW := hQQ bw
   have NM := hQQ nm
   have NW := hQQ nw
   have M6 := hQQ M6
   have HB0 : Hid (W64 b) := hQQ ((good_read n PB.out.2.2.2.1).ok HK.out M6.out.inv (readP_some WB0.out)).2
   clear he hE bm bw nm nw hgm hwm hne hk6 hf6 hq6 M3 R2 nFg
   have YB := hQQ (fun W (hW : More w7 W) => g_bitsK HR.out HH.out.toPgIn F6 p kn D6 q k b HN.out HQ.out W (M6.out.view.more hW) WB0.out)
   have YS := hQQ (fun W => o_clearG (i:=i) HB0.out W)
   obtain ⟨nb',hnb'⟩ : ∃ nb',clearV b i = nb' := ⟨_,rfl⟩
   have HB := hQQ (clear_w64 HB0.out i)
   have HC := hQQ (And.intro (cnt_b (clearV b i) k).1 (cnt_b (clearV b i) k).2.1)
   rw [hnb'] at YS R6 HB HC
   clear hnb'
   go_wp2_with fail
   refine wp_region_more_tail 5 (by kernel_rfl) (by kernel_rfl) ?_
   simp only [List.take_succ_cons,List.take_zero,List.drop_succ_cons,List.drop_zero]
   refine wpQuiet_load_row rfl 83 _ rfl gb rfl 83 _ _ _ (fun W hW => hW.block BG.out) Tryz.underlying83 rfl (by kernel_rfl) ?_
   refine wpQuiet_load_row rfl 83 _ rfl gb rfl 83 _ _ _ (fun W hW => hW.block BG.out) Tryz.underlying83 rfl (by kernel_rfl) ?_
   iterate 1
     with_reducible refine wpQuiet_step (fun K hK => ?_)
     go_simp
     first
     | (refine hK _ ?_; clear hK K)
     | (apply Exists.intro
        refine ⟨fun W hW => ?_,hK _ ?_⟩
        first
        | (go_at_call 55; exact Calls.more hW (YB.out W hW))
        | (go_simp; try rfl)
        clear hK K)
   iterate 1
     with_reducible refine wpQuiet_step (fun K hK => ?_)
     go_simp
     first
     | (refine hK _ ?_; clear hK K)
     | (apply Exists.intro
        refine ⟨fun W hW => ?_,hK _ ?_⟩
        first
        | (go_simp; try rfl)
        clear hK K)
   iterate 1
     with_reducible refine wpQuiet_step (fun K hK => ?_)
     go_simp
     first
     | (refine hK _ ?_; clear hK K)
     | (apply Exists.intro
        refine ⟨fun W hW => ?_,hK _ ?_⟩
        first
        | (go_at_call 65; exact Calls.more hW (YS.out W))
        | (go_simp; try rfl)
        clear hK K)
   refine wpQuiet_nil ?_
   intro w8 h8
   have M8 := hQQ (M6.out.more h8)
   have BM8 := hQQ (h8.block BM.out)
   have BW8 := hQQ (h8.block BW.out)
   clear h8
   go_wp2_with fail
   refine (g_put HR.out HH.out.toPgIn hn F6 p kn D6 q k nb' HQ.out HB.out HC.out w8 M8.out.view HK.out M8.out.inv bt (SZ.out _ _ _ M8.out) (NF.out _ _ _ M8.out).1 (NF.out _ _ _ M8.out).2).mono ?_
   intro e w9 he
   rcases M8.out.step (More.refl _) HK.out (good_pgPut HH.out.toPgIn HQ.out HB.out) he with ⟨a',hE,rfl,hd',ht',hk'⟩ | ⟨x9,D9,F9,hE,rfl,M9,hq9,hk9,hf9⟩
   · have NE := hQQ (NEED.out a')
     have R9 := hQQ (R6.out.symm.trans (bindP_need hE))
     change bodyPostD _ _ _ (Exit.panic (endOf p)) _ _
     refine leaves_cons (f:=99) (args:=#[.pointer (some ⟨gm,0,none⟩),.pointer (some ⟨wm,0,none⟩)]) (by simp) (by simp [go_sem]) ?_
     refine (gd_moves HR.out HH.out p a' q k was gm wm w9 hd' (hk' _ _ NM.out BM8.out) (hk' _ _ NW.out BW8.out) _).mono ?_
     rintro e u' w10 ⟨rfl,rfl,h10⟩
     exact NE.out w10 R9.out (hd'.keep h10 (fun q => q)) (turned_own ht' h10 (fun _ q => q.elim))
   have R9 := hQQ ((bindP_ok hE).symm.trans R6.out)
   have BM9 := hQQ (hk9 _ _ NM.out BM8.out)
   have BW9 := hQQ (hk9 _ _ NW.out BW8.out)
   have NM9 := hQQ (show ¬ F9 gm from fun z => by rcases hf9 _ z with q | q; exact NM.out q; have := lt_of_heap BM8.out; omega)
   have M9 := hQQ M9
   clear he hE hk9 hf9 hq9 M8 BM8 BW8
   clear BG YB YS HB HC WB0 HB0 M6 BM BW NM NW SZ NF R6 L0 M0
   go_wp2_with fail
   refine leaves_cons (f:=99) (args:=#[.pointer (some ⟨gm,0,none⟩),.pointer (some ⟨wm,0,none⟩)]) (by simp) (by simp [go_sem]) ?_
   refine (g_moves1 HR.out HH.out hn F9 p kn D9 q k was HQ.out gm wm w9 M9.out.view HK.out M9.out.inv BM9.out BW9.out NM9.out _).mono ?_
   rintro e u' w13 ⟨rfl,he⟩
   rcases M9.out.step (More.refl _) HK.out (good_moves HH.out q k was HQ.out) he with ⟨a',hE,rfl,hd',ht',_⟩ | ⟨x11,D11,F11,hE,rfl,M11,_,_,_⟩
   · exact NEED.out a' w13 (R9.out.symm.trans (bindP_need hE)) hd' ht'
   have FIN := hQQ (DONE.out true w13 D11 F11 (R9.out.symm.trans (bindP_ok hE)) M11)
   refine ⟨_,results_tmp (t:=6) rfl _ _ _,?_⟩
   exact FIN.out
abbrev V4 := Int × Int × Int × Int
def val4 (t : V4) : Value := .agg #[.int .i64 t.1,.int .i64 t.2.1,.int .i64 t.2.2.1,.int .i64 t.2.2.2]
def gdoneP (us pg st kind k ad : Int) : Prg V4 :=
 if kind = 0 ∨ kind = 1 then bindP (grabP us pg st k) (fun x => pureP (x.1,b2i x.2,0,0))
 else if kind = 2 ∨ kind = 3 then bindP (backP us pg st ad) (fun b => pureP (b2i b,0,0,0))
 else bindP (lookP us pg st ad) (fun x => bindP (roomP pg st k) (fun b => bindP (freeP pg st k) (fun f => pureP (x.1,b2i x.2,b2i b,f))))
theorem sound_freeN (pg st k : Int) : ∀ (m : Nat) (q s : Int),Sound (freeN pg st k m q s)
 | 0,q,s => sound_pure s
 | m + 1,q,s => sound_bind (sound_kind _ _ _) fun x => sound_ite (sound_bind (sound_read _) fun b => sound_freeN pg st k m _ _) (sound_freeN pg st k m _ _)
theorem sound_freeP (pg st k : Int) : Sound (freeP pg st k) := sound_ite (sound_pure _) (sound_freeN _ _ _ _ _ _)
theorem sound_gdone (us pg st kind k ad : Int) : Sound (gdoneP us pg st kind k ad) :=
 sound_ite (sound_bind (sound_grab _ _ _ _) fun _ => sound_pure _) (sound_ite (sound_bind (sound_back _ _ _ _) fun _ => sound_pure _) (sound_bind (sound_look _ _ _ _) fun _ => sound_bind (sound_room _ _ _) fun _ => sound_bind (sound_freeP _ _ _) fun _ => sound_pure _))
def gdoneV (us pg st kind k ad : Int) (ws : List Int) : V4 × List Int :=
 if kind = 0 ∨ kind = 1 then (((grabV us pg st k ws).1.1,b2i (grabV us pg st k ws).1.2,0,0),(grabV us pg st k ws).2)
 else if kind = 2 ∨ kind = 3 then ((b2i (backV us pg st ad ws).1,0,0,0),(backV us pg st ad ws).2)
 else (((lookV us pg st ad ws).1,b2i (lookV us pg st ad ws).2,b2i (roomV pg st k ws),freeV pg st k ws),ws)
section
variable {pg st : Int} {n : Nat} (H : HdIn pg st n)
include H
theorem good_roomP (k : Int) : Good n (fun _ => True) (roomP pg st k) := good_bind (good_plFirstN H _ _ _) fun _ _ => good_pure n trivial
theorem good_freeN (k : Int) : ∀ (m : Nat) (q s : Int),0 ≤ q → q + m ≤ pg → Good n (fun _ => True) (freeN pg st k m q s)
 | 0,q,s,_,_ => good_pure n trivial
 | m + 1,q,s,h0,h1 => good_bind (good_kind H.toPgIn q) fun x _ => good_ite (fun _ => good_bind (good_read n (page_b H.toPgIn (isPage_iff.2 ⟨h0,by omega⟩)).2.2.2.1) fun b _ => good_freeN k m _ _ (by omega) (by omega)) (fun _ => good_freeN k m _ _ (by omega) (by omega))
theorem good_freeP (k : Int) : Good n (fun _ => True) (freeP pg st k) := good_ite (fun _ => good_pure n trivial) (fun _ => good_freeN H k _ _ _ (by omega) (by have := H.pg1; omega))
theorem good_gdone (us kind k ad : Int) : Good n (fun _ => True) (gdoneP us pg st kind k ad) :=
 good_ite (fun _ => good_bind (good_grab H _ _) fun _ _ => good_pure n trivial) (fun _ => good_ite (fun _ => good_bind (good_back H _ _) fun _ _ => good_pure n trivial) (fun _ => good_bind (good_look H _ _) fun _ _ => good_bind (good_roomP H _) fun _ _ => good_bind (good_freeP H _) fun _ _ => good_pure n trivial))
theorem flat_gdone (us kind k ad : Int) : Flat n (gdoneP us pg st kind k ad) (gdoneV us pg st kind k ad) := by
 unfold gdoneP gdoneV
 split
 · exact flat_eq (flat_bind (flat_grab H us k) fun x => flat_pure n _) fun ws _ => rfl
 · split
   · exact flat_eq (flat_bind (flat_back H us ad) fun x => flat_pure n _) fun ws _ => rfl
   · exact flat_eq (flat_bind (flat_look H us ad) fun x => flat_bind (flat_room H k) fun b => flat_bind (flat_free' H k) fun f => flat_pure n _) fun ws _ => rfl
end
theorem l11_number (b : Bool) (w : World) : Calls Tryz.prog 42 #[.bool b] w (Gives w (.int .i64 (b2i b))) := by
 cases b <;> (go_enter Tryz.func42,Tryz.ntmps42; go_wp2_with fail; go_ret; exact ⟨rfl,More.refl _⟩)
theorem build4 (x : Int) (W : World) : (Instr.build 39 #[(0,.int .i64 x)]).run Tryz.prog W = .ok (.agg #[.int .i64 x,.int .i64 0,.int .i64 0,.int .i64 0]) W := run_build W _ _ _ (by kernel_rfl)
theorem build4b (x y : Int) (W : World) : (Instr.build 39 #[(0,.int .i64 x),(1,.int .i64 y)]).run Tryz.prog W = .ok (.agg #[.int .i64 x,.int .i64 y,.int .i64 0,.int .i64 0]) W := run_build W _ _ _ (by kernel_rfl)
theorem build4d (x y z u : Int) (W : World) : (Instr.build 39 #[(0,.int .i64 x),(1,.int .i64 y),(2,.int .i64 z),(3,.int .i64 u)]).run Tryz.prog W = .ok (.agg #[.int .i64 x,.int .i64 y,.int .i64 z,.int .i64 u]) W := run_build W _ _ _ (by kernel_rfl)
def DoneG (c : Cfg) (kind k m : Int) (g : Nat) (W : World) : Prop := W.heap[g]? = some (.cells c.arr 28 (0,0)) ∧ W.heap[g + 1]? = some (.cells #[.int .i64 kind,.int .i64 k,.int .i64 m] 38 (0,0))
theorem DoneG.l {c : Cfg} {kind k m : Int} {g : Nat} {W : World} (h : DoneG c kind k m g W) : W.heap[g]? = some (.cells c.arr 28 (0,0)) := h.1
theorem DoneG.a {c : Cfg} {kind k m : Int} {g : Nat} {W : World} (h : DoneG c kind k m g W) : W.heap[g + 1]? = some (.cells #[.int .i64 kind,.int .i64 k,.int .i64 m] 38 (0,0)) := h.2
theorem g_done {c : Cfg} (R : c.Ok) {n : Nat} (H : HdIn c.pg c.st n) (hn : n ≤ 10000) (F : Nat → Prop) (p : Nat) (kn : Int → Option Int) (D : List KV) (kind k m ad : Int) (w : World) (hv : ViewAt w F p kn D) (hk : OkK kn) (hD : InvD n D) (bt : Nat) (hs : SzAt bt w) (nF0 : ¬ F 0) (nFb : ¬ F bt) :
   Calls Tryz.prog 12 #[.pointer (some ⟨p,0,none⟩),.agg c.arr,.agg #[.int .i64 kind,.int .i64 k,.int .i64 m],.int .i64 ad] w (WentV w F p kn val4 (gdoneP c.us c.pg c.st kind k ad kn D)) := by
 obtain ⟨Rr,hRr⟩ : ∃ Rr,gdoneP c.us c.pg c.st kind k ad kn D = Rr := ⟨_,rfl⟩
 rw [hRr]
 obtain ⟨w1,e1,hb0,hb1,hb2,m1,s1⟩ := entry3 w (.cells c.arr 28) (.cells #[.int .i64 kind,.int .i64 k,.int .i64 m] 38) (.cells #[.int .i64 0,.int .i64 0,.int .i64 0,.int .i64 0] 39)
 have nF : ∀ b,w.heap.size ≤ b → ¬ F b := fun b hb r => by have := hv.lt _ r; omega
 have MM := hQQ m1
 have L0 := hQQ hb0
 have A0 := hQQ hb1
 have Z0 := hQQ hb2
 have M0 : Hid (MidV w1 w1 F (fun _ => False) p kn n D F) := hQQ (MidV.begin (hv.more m1) hD)
 have KP : Hid (∀ wr D' F',MidV w1 wr F (fun _ => False) p kn n D' F' → wr.heap[w.heap.size]? = some (.cells c.arr 28 (0,0)) ∧ wr.heap[w.heap.size + 1]? = some (.cells #[.int .i64 kind,.int .i64 k,.int .i64 m] 38 (0,0)) ∧ wr.heap[w.heap.size + 2]? = some (.cells #[.int .i64 0,.int .i64 0,.int .i64 0,.int .i64 0] 39 (0,0))) := hQQ fun wr D' F' h =>
   ⟨mid_own h L0.out (nF _ (by omega)) (fun q => q),mid_own h A0.out (nF _ (by omega)) (fun q => q),mid_own h Z0.out (nF _ (by omega)) (fun q => q)⟩
 have NEED : Hid (∀ a w2,Rr = .need a → DeadAt w2 p a → Turned (fun b => F b ∨ False) w1 w2 → WentV w F p kn val4 Rr (.panicked (endOf p)) w2) := hQQ fun a w2 e hd ht => mid_need MM.out (fun _ q => q.elim) e hd ht
 have DONE : Hid (∀ x w2 D' F',Rr = .ok x D' → MidV w1 w2 F (fun _ => False) p kn n D' F' → WentV w F p kn val4 Rr (.returned (val4 x)) (w2.setRow (w.heap.size + 2) #[.int .i64 x.1,.int .i64 x.2.1,.int .i64 x.2.2.1,.int .i64 x.2.2.2])) := hQQ fun x w2 D' F' e h => done_fin MM.out h e (g:=w.heap.size + 2) (by omega) (by omega) (nF _ (by omega)) (KP.out _ _ _ h).2.2 (Turned.setRow (Turned.refl _ w2) _ _ (fun _ => rfl))
 have y0 := cell_more (j:=0) hb1 (More.refl _) rfl
 have y1 := cell_more (j:=1) hb1 (More.refl _) rfl
 have HK := hQQ hk
 have HR := hQQ R
 have HH := hQQ H
 have b41 := build4
 have b42 := build4b
 have b44 := build4d
 have SZ : Hid (∀ wr D' F',MidV w1 wr F (fun _ => False) p kn n D' F' → SzAt bt wr) := hQQ fun wr D' F' h => (hs.more MM.out).keep h.turn (by rintro (q | q); exact nF0 q; exact q) (by rintro (q | q); exact nFb q; exact q)
 have NF : Hid (∀ wr D' F',MidV w1 wr F (fun _ => False) p kn n D' F' → ¬ F' 0 ∧ ¬ F' bt) := hQQ fun wr D' F' h => ⟨h.off (hs.more MM.out).lt0 nF0,h.off (hs.more MM.out).lt nFb⟩
 unfold gdoneP at hRr
 clear hb0 hb1 hb2 m1 hv hD hk R H nF hs nF0 nFb
 by_cases z0 : kind = 0
 · have t0 : (kind == 0) = true := by simp [z0]
   rw [if_pos (.inl z0)] at hRr
   have HRr := hQQ hRr
   clear hRr z0
   have START := 0
   clear START
   go_enter Tryz.func12,Tryz.ntmps12
   go_wp2_with (refine wpList_load_rowG rfl 28 _ rfl _ rfl 28 _ _ _ L0.out Tryz.underlying28 rfl (by kernel_rfl) ?_)
   refine (g_Grab HR.out HH.out hn F p kn D k w1 M0.out.view HK.out M0.out.inv bt (SZ.out _ _ _ M0.out) (NF.out _ _ _ M0.out).1 (NF.out _ _ _ M0.out).2).mono ?_
   intro e w4 he
   rcases M0.out.step (More.refl _) HK.out (good_grab HH.out _ _) he with ⟨a',hE,rfl,hd',ht',_⟩ | ⟨x4,D4,F4,hE,rfl,M4,hq4,_,_⟩
   · exact ⟨rfl,NEED.out a' w4 (HRr.out.symm.trans (bindP_need hE)) hd' ht'⟩
   have R4 := hQQ ((bindP_ok hE).symm.trans HRr.out)
   have M4 := hQQ M4
   clear he hE
   obtain ⟨xa,xb⟩ := x4
   go_wp2_with fail
   refine (l11_number xb _).mono ?_
   rintro e w5 ⟨rfl,h5⟩
   have M5 := hQQ (M4.out.more h5)
   have Z5 := hQQ (KP.out _ _ _ M5.out).2.2
   have FIN := hQQ (DONE.out (xa,b2i xb,0,0) w5 _ _ R4.out.symm M5.out)
   clear h5 R4
   go_wp2_with (refine wpList_store_row rfl 39 _ _ rfl (w.heap.size + 2) _ rfl rfl 39 #[.int .i64 0,.int .i64 0,.int .i64 0,.int .i64 0] Z5.out (by kernel_rfl) rfl (by simp [Value.oneCell']) ?_)
   refine bodyPost_ret (v:=val4 (xa,b2i xb,0,0)) (results_cell_row Tryz.results12 _ _ _ 39 _ (0,0) _ rfl (setRow_heap _ _ _ _ _ _ Z5.out) Tryz.underlying39 rfl (by kernel_rfl)) rfl FIN.out
 have t0 : (kind == 0) = false := by simp [z0]
 by_cases z1 : kind = 1
 · have t1 : (kind == 1) = true := by simp [z1]
   rw [if_pos (.inr z1)] at hRr
   have HRr := hQQ hRr
   clear hRr z0 z1
   have START := 0
   clear START
   go_enter Tryz.func12,Tryz.ntmps12
   go_wp2_with (refine wpList_load_rowG rfl 28 _ rfl _ rfl 28 _ _ _ L0.out Tryz.underlying28 rfl (by kernel_rfl) ?_)
   refine (g_Grab HR.out HH.out hn F p kn D k w1 M0.out.view HK.out M0.out.inv bt (SZ.out _ _ _ M0.out) (NF.out _ _ _ M0.out).1 (NF.out _ _ _ M0.out).2).mono ?_
   intro e w4 he
   rcases M0.out.step (More.refl _) HK.out (good_grab HH.out _ _) he with ⟨a',hE,rfl,hd',ht',_⟩ | ⟨x4,D4,F4,hE,rfl,M4,hq4,_,_⟩
   · exact ⟨rfl,NEED.out a' w4 (HRr.out.symm.trans (bindP_need hE)) hd' ht'⟩
   have R4 := hQQ ((bindP_ok hE).symm.trans HRr.out)
   have M4 := hQQ M4
   clear he hE
   obtain ⟨xa,xb⟩ := x4
   go_wp2_with fail
   refine (l11_number xb _).mono ?_
   rintro e w5 ⟨rfl,h5⟩
   have M5 := hQQ (M4.out.more h5)
   have Z5 := hQQ (KP.out _ _ _ M5.out).2.2
   have FIN := hQQ (DONE.out (xa,b2i xb,0,0) w5 _ _ R4.out.symm M5.out)
   clear h5 R4
   go_wp2_with (refine wpList_store_row rfl 39 _ _ rfl (w.heap.size + 2) _ rfl rfl 39 #[.int .i64 0,.int .i64 0,.int .i64 0,.int .i64 0] Z5.out (by kernel_rfl) rfl (by simp [Value.oneCell']) ?_)
   refine bodyPost_ret (v:=val4 (xa,b2i xb,0,0)) (results_cell_row Tryz.results12 _ _ _ 39 _ (0,0) _ rfl (setRow_heap _ _ _ _ _ _ Z5.out) Tryz.underlying39 rfl (by kernel_rfl)) rfl FIN.out
 have t1 : (kind == 1) = false := by simp [z1]
 rw [if_neg (show ¬ (kind = 0 ∨ kind = 1) by rintro (q | q); exact z0 q; exact z1 q)] at hRr
 by_cases z2 : kind = 2
 · have t2 : (kind == 2) = true := by simp [z2]
   rw [if_pos (.inl z2)] at hRr
   have HRr := hQQ hRr
   clear hRr z0 z1 z2
   have START := 0
   clear START
   go_enter Tryz.func12,Tryz.ntmps12
   go_wp2_with (refine wpList_load_rowG rfl 28 _ rfl _ rfl 28 _ _ _ L0.out Tryz.underlying28 rfl (by kernel_rfl) ?_)
   refine (g_Return HR.out HH.out hn F p kn D ad w1 M0.out.view HK.out M0.out.inv bt (SZ.out _ _ _ M0.out) (NF.out _ _ _ M0.out).1 (NF.out _ _ _ M0.out).2).mono ?_
   intro e w4 he
   rcases M0.out.step (More.refl _) HK.out (good_back HH.out _ _) he with ⟨a',hE,rfl,hd',ht',_⟩ | ⟨x4,D4,F4,hE,rfl,M4,hq4,_,_⟩
   · exact ⟨rfl,NEED.out a' w4 (HRr.out.symm.trans (bindP_need hE)) hd' ht'⟩
   have R4 := hQQ ((bindP_ok hE).symm.trans HRr.out)
   have M4 := hQQ M4
   clear he hE
   go_wp2_with fail
   refine (l11_number x4 _).mono ?_
   rintro e w5 ⟨rfl,h5⟩
   have M5 := hQQ (M4.out.more h5)
   have Z5 := hQQ (KP.out _ _ _ M5.out).2.2
   have FIN := hQQ (DONE.out (b2i x4,0,0,0) w5 _ _ R4.out.symm M5.out)
   clear h5 R4
   go_wp2_with (refine wpList_store_row rfl 39 _ _ rfl (w.heap.size + 2) _ rfl rfl 39 #[.int .i64 0,.int .i64 0,.int .i64 0,.int .i64 0] Z5.out (by kernel_rfl) rfl (by simp [Value.oneCell']) ?_)
   refine bodyPost_ret (v:=val4 (b2i x4,0,0,0)) (results_cell_row Tryz.results12 _ _ _ 39 _ (0,0) _ rfl (setRow_heap _ _ _ _ _ _ Z5.out) Tryz.underlying39 rfl (by kernel_rfl)) rfl FIN.out
 have t2 : (kind == 2) = false := by simp [z2]
 by_cases z3 : kind = 3
 · have t3 : (kind == 3) = true := by simp [z3]
   rw [if_pos (.inr z3)] at hRr
   have HRr := hQQ hRr
   clear hRr z0 z1 z2 z3
   have START := 0
   clear START
   go_enter Tryz.func12,Tryz.ntmps12
   go_wp2_with (refine wpList_load_rowG rfl 28 _ rfl _ rfl 28 _ _ _ L0.out Tryz.underlying28 rfl (by kernel_rfl) ?_)
   refine (g_Return HR.out HH.out hn F p kn D ad w1 M0.out.view HK.out M0.out.inv bt (SZ.out _ _ _ M0.out) (NF.out _ _ _ M0.out).1 (NF.out _ _ _ M0.out).2).mono ?_
   intro e w4 he
   rcases M0.out.step (More.refl _) HK.out (good_back HH.out _ _) he with ⟨a',hE,rfl,hd',ht',_⟩ | ⟨x4,D4,F4,hE,rfl,M4,hq4,_,_⟩
   · exact ⟨rfl,NEED.out a' w4 (HRr.out.symm.trans (bindP_need hE)) hd' ht'⟩
   have R4 := hQQ ((bindP_ok hE).symm.trans HRr.out)
   have M4 := hQQ M4
   clear he hE
   go_wp2_with fail
   refine (l11_number x4 _).mono ?_
   rintro e w5 ⟨rfl,h5⟩
   have M5 := hQQ (M4.out.more h5)
   have Z5 := hQQ (KP.out _ _ _ M5.out).2.2
   have FIN := hQQ (DONE.out (b2i x4,0,0,0) w5 _ _ R4.out.symm M5.out)
   clear h5 R4
   go_wp2_with (refine wpList_store_row rfl 39 _ _ rfl (w.heap.size + 2) _ rfl rfl 39 #[.int .i64 0,.int .i64 0,.int .i64 0,.int .i64 0] Z5.out (by kernel_rfl) rfl (by simp [Value.oneCell']) ?_)
   refine bodyPost_ret (v:=val4 (b2i x4,0,0,0)) (results_cell_row Tryz.results12 _ _ _ 39 _ (0,0) _ rfl (setRow_heap _ _ _ _ _ _ Z5.out) Tryz.underlying39 rfl (by kernel_rfl)) rfl FIN.out
 have t3 : (kind == 3) = false := by simp [z3]
 rw [if_neg (show ¬ (kind = 2 ∨ kind = 3) by rintro (q | q); exact z2 q; exact z3 q)] at hRr
 have HRr := hQQ hRr
 clear hRr z0 z1 z2 z3
 have KC : Hid (∀ wr D' F',MidV w1 wr F (fun _ => False) p kn n D' F' → DoneG c kind k m w.heap.size wr) := hQQ fun wr D' F' h => ⟨(KP.out _ _ _ h).1,(KP.out _ _ _ h).2.1⟩
 go_enter Tryz.func12,Tryz.ntmps12
 go_wp2_with (refine wpList_load_rowG rfl 28 _ rfl _ rfl 28 _ _ _ L0.out Tryz.underlying28 rfl (by kernel_rfl) ?_)
 refine (g_Taken HR.out HH.out hn F p kn D ad w1 M0.out.view HK.out M0.out.inv bt (SZ.out _ _ _ M0.out) (NF.out _ _ _ M0.out).1 (NF.out _ _ _ M0.out).2).mono ?_
 intro e w3 he
 rcases M0.out.step (More.refl _) HK.out (good_look HH.out _ _) he with ⟨a',hE,rfl,hd',ht',_⟩ | ⟨x3,D3,F3,hE,rfl,M3,hq3,_,_⟩
 · exact ⟨rfl,NEED.out a' w3 (HRr.out.symm.trans (bindP_need hE)) hd' ht'⟩
 have R3 := hQQ ((bindP_ok hE).symm.trans HRr.out)
 have M3 := hQQ M3
 clear he hE
 go_wp2_with fail
 obtain ⟨xa,xb⟩ := x3
 refine wp_region_anyC (DoneG c kind k m w.heap.size) (by kernel_rfl) ?_
 have MR := hQQ (M3.out.more ((More.refl w3).drewN 1))
 change anyC _ _ _ _ _ _ _ _ (w3.drewN 1)
 generalize w3.drewN 1 = wr at MR ⊢
 generalize hA : Act.mk _ _ = A
 have HF : AG 61 A [(0,.pointer (some ⟨p,0,none⟩)),(5,.pointer (some ⟨w.heap.size,0,none⟩)),(6,.pointer (some ⟨w.heap.size + 1,0,none⟩)),(8,.pointer (some ⟨w.heap.size + 2,0,none⟩)),(11,.int .i64 xa),(12,.bool xb)] := by
   rw [← hA]
   refine ⟨⟨Nat.le_of_ble_eq_true rfl,rfl⟩,?_⟩
   intro z hz; simp only [List.mem_cons,List.not_mem_nil,or_false] at hz; rcases hz with rfl | rfl | rfl | rfl | rfl | rfl <;> rfl
 refine anyC_start (fun a W => a.eval (.tmp 8) = .pointer (some ⟨w.heap.size + 2,0,none⟩) ∧ a.defers = [] ∧ ∃ x W0 D0 F0,W = W0.setRow (w.heap.size + 2) #[.int .i64 x.1,.int .i64 x.2.1,.int .i64 x.2.2.1,.int .i64 x.2.2.2] ∧ Rr = .ok x D0 ∧ MidV w1 W0 F (fun _ => False) p kn n D0 F0) (fun W => WentV w F p kn val4 Rr (.panicked (endOf p)) W) (endOf p) (fun a W hd h => ⟨hd,h⟩) (fun _ _ _ _ _ h => h) ?_ ?_
 · skip
   clear HF hA A
   rintro a W ⟨t8,hdf,x,W0,D0,F0,rfl,hx,hM⟩
   have FIN := hQQ (DONE.out x W0 D0 F0 hx hM)
   have Z := (KP.out _ _ _ hM).2.2
   clear hx hM
   have ha8 : a.tmps.getD 8 undef = .pointer (some ⟨w.heap.size + 2,0,none⟩) := t8
   go_wp2_with fail
   refine bodyPost_ret (v:=val4 x) (results_cell_row Tryz.results12 _ _ _ 39 _ (0,0) _ ha8 (setRow_heap _ _ _ _ _ _ Z) Tryz.underlying39 rfl (by kernel_rfl)) hdf FIN.out
 intro QQ FINE FIND FINQ
 clear hA
 refine anyC_takeD (i:=0) (v:=.int .i64 xa) (some 46) rfl rfl (by kernel_rfl) (by kernel_rfl) (by kernel_rfl) (fun c a w => FINQ c a _ _ w) (KC.out _ _ _ MR.out) (by exact yieldsC_moveG (wanted_none rfl) _ rfl (HF.get 4 rfl)) ?_
 replace HF := HF.put 46 (.int .i64 xa) (by decide) rfl
 generalize hB1_46 : Act.put _ _ _ = A at HF ⊢
 refine anyC_takeD (i:=1) (v:=.bool xb) (some 47) rfl rfl (by kernel_rfl) (by kernel_rfl) (by kernel_rfl) (fun c a w => FINQ c a _ _ w) (KC.out _ _ _ MR.out) (by exact yieldsC_moveG (wanted_none rfl) _ rfl (HF.get 6 rfl)) ?_
 replace HF := HF.put 47 (.bool xb) (by decide) rfl
 generalize hB2_47 : Act.put _ _ _ = A at HF ⊢
 refine anyC_takeD (i:=3) (v:=.pointer (some ⟨p,0,none⟩)) (some 49) rfl rfl (by kernel_rfl) (by kernel_rfl) (by kernel_rfl) (fun c a w => FINQ c a _ _ w) (KC.out _ _ _ MR.out) (by exact yieldsC_moveG (wanted_none rfl) _ rfl (HF.get 2 rfl)) ?_
 replace HF := HF.put 49 (.pointer (some ⟨p,0,none⟩)) (by decide) rfl
 generalize hB3_49 : Act.put _ _ _ = A at HF ⊢
 refine anyC_takeD (i:=4) (v:=.agg c.arr) (some 50) rfl rfl (by kernel_rfl) (by kernel_rfl) (by kernel_rfl) (fun c a w => FINQ c a _ _ w) (KC.out _ _ _ MR.out) (by exact yieldsC_row (C:=(DoneG c kind k m w.heap.size)) (wanted_none rfl) 28 _ rfl w.heap.size (HF.get 4 rfl) 28 _ _ _ (fun W hW => DoneG.l hW) Tryz.underlying28 rfl (by kernel_rfl)) ?_
 replace HF := HF.put 50 (.agg c.arr) (by decide) rfl
 generalize hB4_50 : Act.put _ _ _ = A at HF ⊢
 refine anyC_takeD (i:=5) (v:=.pointer (some ⟨w.heap.size + 1,1,none⟩)) (some 51) rfl rfl (by kernel_rfl) (by kernel_rfl) (by kernel_rfl) (fun c a w => FINQ c a _ _ w) (KC.out _ _ _ MR.out) (by exact (Or.inl ⟨rfl,fun W hW => by have h5 := (HF.getD 6 rfl); go_simp⟩)) ?_
 replace HF := HF.put 51 (.pointer (some ⟨w.heap.size + 1,1,none⟩)) (by decide) rfl
 generalize hB5_51 : Act.put _ _ _ = A at HF ⊢
 refine anyC_takeD (i:=6) (v:=.int .i64 k) (some 52) rfl rfl (by kernel_rfl) (by kernel_rfl) (by kernel_rfl) (fun c a w => FINQ c a _ _ w) (KC.out _ _ _ MR.out) (by exact (Or.inl ⟨rfl,fun W hW => by have h5 := (HF.getD 0 rfl); have c1 := cell_more (j:=1) (DoneG.a hW) (More.refl _) rfl; go_simp⟩)) ?_
 replace HF := HF.put 52 (.int .i64 k) (by decide) rfl
 generalize hB6_52 : Act.put _ _ _ = A at HF ⊢
 refine anyC_takeD (i:=9) (v:=.pointer (some ⟨p,0,none⟩)) (some 55) rfl rfl (by kernel_rfl) (by kernel_rfl) (by kernel_rfl) (fun c a w => FINQ c a _ _ w) (KC.out _ _ _ MR.out) (by exact yieldsC_moveG (wanted_none rfl) _ rfl (HF.get 6 rfl)) ?_
 replace HF := HF.put 55 (.pointer (some ⟨p,0,none⟩)) (by decide) rfl
 generalize hB7_55 : Act.put _ _ _ = A at HF ⊢
 refine anyC_takeD (i:=10) (v:=.agg c.arr) (some 56) rfl rfl (by kernel_rfl) (by kernel_rfl) (by kernel_rfl) (fun c a w => FINQ c a _ _ w) (KC.out _ _ _ MR.out) (by exact yieldsC_row (C:=(DoneG c kind k m w.heap.size)) (wanted_none rfl) 28 _ rfl w.heap.size (HF.get 8 rfl) 28 _ _ _ (fun W hW => DoneG.l hW) Tryz.underlying28 rfl (by kernel_rfl)) ?_
 replace HF := HF.put 56 (.agg c.arr) (by decide) rfl
 generalize hB8_56 : Act.put _ _ _ = A at HF ⊢
 refine anyC_takeD (i:=11) (v:=.pointer (some ⟨w.heap.size + 1,1,none⟩)) (some 57) rfl rfl (by kernel_rfl) (by kernel_rfl) (by kernel_rfl) (fun c a w => FINQ c a _ _ w) (KC.out _ _ _ MR.out) (by exact (Or.inl ⟨rfl,fun W hW => by have h5 := (HF.getD 10 rfl); go_simp⟩)) ?_
 replace HF := HF.put 57 (.pointer (some ⟨w.heap.size + 1,1,none⟩)) (by decide) rfl
 generalize hB9_57 : Act.put _ _ _ = A at HF ⊢
 refine anyC_takeD (i:=12) (v:=.int .i64 k) (some 58) rfl rfl (by kernel_rfl) (by kernel_rfl) (by kernel_rfl) (fun c a w => FINQ c a _ _ w) (KC.out _ _ _ MR.out) (by exact (Or.inl ⟨rfl,fun W hW => by have h5 := (HF.getD 0 rfl); have c1 := cell_more (j:=1) (DoneG.a hW) (More.refl _) rfl; go_simp⟩)) ?_
 replace HF := HF.put 58 (.int .i64 k) (by decide) rfl
 generalize hB10_58 : Act.put _ _ _ = A at HF ⊢
 refine anyC_oneK (i:=2) (some 48) (by kernel_rfl) rfl (wanted_none rfl) rfl (fun K hK => ?_)
 refine wp_call1 (v0:=.bool xb) rfl (HF.get 8 rfl) (enters_of Tryz.func42 (by kernel_rfl) rfl) ?_
 refine (l11_number xb _).mono ?_
 rintro e w4 ⟨rfl,h4⟩
 have M4 := hQQ (MR.out.more h4)
 clear h4
 refine hK _ _ (KC.out _ _ _ M4.out) ?_
 clear hK K
 replace HF := HF.put 48 (.int .i64 (b2i xb)) (by decide) rfl
 generalize hB11_48 : Act.put _ _ _ = A at HF ⊢
 refine anyC_oneK (i:=7) (some 53) (by kernel_rfl) rfl (wanted_none rfl) rfl (fun K hK => ?_)
 refine wp_call3 (v0:=.pointer (some ⟨p,0,none⟩)) (v1:=.agg c.arr) (v2:=.int .i64 k) rfl (HF.get 8 rfl) (HF.get 7 rfl) (HF.get 5 rfl) (enters_of Tryz.func24 (by kernel_rfl) rfl) ?_
 refine (g_Room HR.out HH.out F3 p kn D3 k w4 M4.out.view HK.out M4.out.inv bt (SZ.out _ _ _ M4.out) (NF.out _ _ _ M4.out).1 (NF.out _ _ _ M4.out).2).mono ?_
 intro e w5 he
 rcases M4.out.step (More.refl _) HK.out (good_roomP HH.out _) he with ⟨a',hE,rfl,hd',ht',_⟩ | ⟨x5,D5,F5,hE,rfl,M5,hq5,_,_⟩
 · exact FIND _ _ HF.1.2 (NEED.out a' w5 (R3.out.symm.trans (bindP_need hE)) hd' ht')
 have R5 := hQQ ((bindP_ok hE).symm.trans R3.out)
 have M5 := hQQ M5
 clear he hE
 refine hK _ _ (KC.out _ _ _ M5.out) ?_
 clear hK K
 replace HF := HF.put 53 (.bool x5) (by decide) rfl
 generalize hB12_53 : Act.put _ _ _ = A at HF ⊢
 refine anyC_oneK (i:=8) (some 54) (by kernel_rfl) rfl (wanted_none rfl) rfl (fun K hK => ?_)
 refine wp_call1 (v0:=.bool x5) rfl (HF.get 0 rfl) (enters_of Tryz.func42 (by kernel_rfl) rfl) ?_
 refine (l11_number x5 _).mono ?_
 rintro e w6 ⟨rfl,h6⟩
 have M6 := hQQ (M5.out.more h6)
 clear h6
 refine hK _ _ (KC.out _ _ _ M6.out) ?_
 clear hK K
 replace HF := HF.put 54 (.int .i64 (b2i x5)) (by decide) rfl
 generalize hB13_54 : Act.put _ _ _ = A at HF ⊢
 refine anyC_oneK (i:=13) (some 59) (by kernel_rfl) rfl (wanted_none rfl) rfl (fun K hK => ?_)
 refine wp_call3 (v0:=.pointer (some ⟨p,0,none⟩)) (v1:=.agg c.arr) (v2:=.int .i64 k) rfl (HF.get 6 rfl) (HF.get 5 rfl) (HF.get 3 rfl) (enters_of Tryz.func29 (by kernel_rfl) rfl) ?_
 refine (g_Free HR.out HH.out hn F5 p kn D5 k w6 M6.out.view HK.out M6.out.inv bt (SZ.out _ _ _ M6.out) (NF.out _ _ _ M6.out).1 (NF.out _ _ _ M6.out).2).mono ?_
 intro e w7 he
 rcases M6.out.step (More.refl _) HK.out (good_freeP HH.out _) he with ⟨a',hE,rfl,hd',ht',_⟩ | ⟨x7,D7,F7,hE,rfl,M7,hq7,_,_⟩
 · exact FIND _ _ HF.1.2 (NEED.out a' w7 (R5.out.symm.trans (bindP_need hE)) hd' ht')
 have R7 := hQQ ((bindP_ok hE).symm.trans R5.out)
 have M7 := hQQ M7
 clear he hE
 refine hK _ _ (KC.out _ _ _ M7.out) ?_
 clear hK K
 replace HF := HF.put 59 (.int .i64 x7) (by decide) rfl
 generalize hB14_59 : Act.put _ _ _ = A at HF ⊢
 refine anyC_takeD (i:=14) (v:=.agg #[.int .i64 xa,.int .i64 (b2i xb),.int .i64 (b2i x5),.int .i64 x7]) (some 60) rfl rfl (by kernel_rfl) (by kernel_rfl) (by kernel_rfl) (fun c a w => FINQ c a _ _ w) (KC.out _ _ _ M7.out) (by exact (Or.inl ⟨rfl,fun W hW => by have h1 := (HF.getD 13 rfl); have h2 := (HF.getD 3 rfl); have h3 := (HF.getD 1 rfl); have h4 := (HF.getD 0 rfl); go_simp⟩)) ?_
 replace HF := HF.put 60 (.agg #[.int .i64 xa,.int .i64 (b2i xb),.int .i64 (b2i x5),.int .i64 x7]) (by decide) rfl
 generalize hB15_60 : Act.put _ _ _ = A at HF ⊢
 refine anyC_one (i:=15) (by kernel_rfl) rfl rfl ?_
 refine wp_store_row 39 _ _ rfl (w.heap.size + 2) _ (HF.get 18 rfl) (HF.get 0 rfl) 39 #[.int .i64 0,.int .i64 0,.int .i64 0,.int .i64 0] (KP.out _ _ _ M7.out).2.2 (by kernel_rfl) rfl (by simp [Value.oneCell']) ?_
 have TS := Turned.setRow (S:=fun b => b = w.heap.size + 2) (Turned.refl _ w7) (w.heap.size + 2) #[.int .i64 xa,.int .i64 (b2i xb),.int .i64 (b2i x5),.int .i64 x7] (fun _ => rfl)
 refine ⟨⟨(TS.block _ (lt_of_heap (KC.out _ _ _ M7.out).1) (by omega)).trans (KC.out _ _ _ M7.out).1,(TS.block _ (lt_of_heap (KC.out _ _ _ M7.out).2) (by omega)).trans (KC.out _ _ _ M7.out).2⟩,?_⟩
 exact anyC_done (by kernel_rfl) (FINE _ _ ⟨(HF.get 18 rfl),HF.1.2,(xa,b2i xb,b2i x5,x7),w7,D7,F7,rfl,R7.out.symm,M7.out⟩)
section
variable {pg st : Int} {n : Nat} (H : HdIn pg st n)
include H
theorem grab_keep (us k : Int) {G : Int → List Int} {ws : List Int} (P : PgW pg st G ws) (hn : ws.length = n) : ∃ G',PgW pg st G' (grabV us pg st k ws).2 := by
 by_cases hs : slotsC k = 0
 · rw [grab_none1 H us hs ws]; exact ⟨G,P⟩
 · by_cases h1 : plFirstV pg st k (slotsC k).toNat 1 ws = -1
   · by_cases h2 : findV pg st 1 1 ws = -1
     · rw [grab_none2 H us hs h1 h2]; exact ⟨G,P⟩
     · obtain ⟨G1,G2,w1,X,_,_,_,_,_,_,_,e,q⟩ := grab_new H us hs P hn h1 rfl h2
       rw [e]; exact ⟨G2,q⟩
   · obtain ⟨j,G1,G2,u,X,_,_,_,_,_,_,_,_,e,q⟩ := grab_old H us hs P hn rfl h1
     rw [e]; exact ⟨G2,q⟩
theorem back_keep (us a : Int) {G : Int → List Int} {ws : List Int} (P : PgW pg st G ws) (hn : ws.length = n) (ho : OkW ws) : ∃ G',PgW pg st G' (backV us pg st a ws).2 := by
 cases h : tkYes (takenV us pg st a ws) with
 | none => rw [back_no H h]; exact ⟨G,P⟩
 | some x =>
   obtain ⟨q,k,i⟩ := x
   obtain ⟨_,_,_,_,_,_,_,_,_,_,y1,y2⟩ := back_yes H us P hn ho h
   by_cases he : cntV pg st ws q + 1 = slotsC k
   · obtain ⟨G1,G2,u,X,_,e,z⟩ := y2 he
     rw [e]; exact ⟨G2,z⟩
   · obtain ⟨G1,G2,u,X,_,e,z⟩ := y1 he
     rw [e]; exact ⟨G2,z⟩
theorem gdone_keep (us kind k a : Int) {G : Int → List Int} {ws : List Int} (P : PgW pg st G ws) (hn : ws.length = n) (ho : OkW ws) : ∃ G',PgW pg st G' (gdoneV us pg st kind k a ws).2 := by
 unfold gdoneV
 split
 · exact grab_keep H us k P hn
 · split
   · exact back_keep H us a P hn ho
   · exact ⟨G,P⟩
theorem gdone_words (us kind k a : Int) {ws : List Int} (hn : ws.length = n) (ho : OkW ws) : OkW (gdoneV us pg st kind k a ws).2 ∧ (gdoneV us pg st kind k a ws).2.length = n := by
 obtain ⟨D,hD,ha,hi⟩ := flat_gdone H us kind k a ws [] hn ho (invD_nil _)
 have e0 : applyD ws [] = ws := rfl
 rw [e0] at hD ha
 have ha : applyD ws D = (gdoneV us pg st kind k a ws).2 := ha
 rw [← ha]
 exact ⟨okW_apG ho hi hn,by rw [applyD_len]; exact hn⟩
theorem pgw_zeros : PgW pg st (fun _ => []) (zeros n) := by
 have hz : ∀ i : Int,wAt (zeros n) i = 0 := fun i => by
   unfold wAt zeros
   simp only [List.getD,List.getElem?_replicate]
   split <;> rfl
 have hk : ∀ p,isPage pg p = true → kindV pg st (zeros n) p = 0 := fun p hp => by unfold kindV; rw [if_pos hp]; exact hz _
 refine ⟨ln_zeros H,⟨fun p hp => by rw [hk p hp]; omega,fun p hp _ => ⟨hz _,hz _⟩,fun p hp h => absurd (hk p hp) h,fun p hp h => ?_,fun a p ha => ⟨fun h => (by cases h),fun h => ?_⟩⟩⟩
 · rw [hk p hp] at h; omega
 · have := hk p h.1; have := h.2.1; omega
end
end Go.Proofs.YtflihdcliknggaaGreatDoor
