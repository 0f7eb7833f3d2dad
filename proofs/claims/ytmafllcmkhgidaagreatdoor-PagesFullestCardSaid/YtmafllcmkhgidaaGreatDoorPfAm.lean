/-
  The landed package pages: the block whose first word is asked for.
-/
import Derived.Test.YtmafllcmkhgidaaGreatDoorPfAl
import Derived.Recover
import Derived.Test.YtmafllcmkhgidaaGreatDoorPfAh
set_option maxRecDepth 100000
set_option maxHeartbeats 8000000
set_option linter.unusedVariables false
set_option linter.unusedSimpArgs false
set_option linter.unusedSectionVars false
namespace Go.Proofs.YtmafllcmkhgidaaGreatDoor
open Go.RowKit Go.Sort Go.Maps Go.Shelf
theorem results_row3 {P : Program} {fn : Func} {p u v : Tmp} {ty : TypeId} (h : fn.results = #[.cell p ty,.tmp u,.tmp v]) (tmps : Array Value) (w : World) (g : Nat) (t : TypeId) (cs : Array Value) (fr : Nat × Nat) (d : TypeDesc)
   (hp : tmps.getD p undef = .pointer (some ⟨g,0,none⟩)) (hg : w.heap[g]? = some (.cells cs t fr))
   (hu : P.underlying ty = some d) (hd : (match d with | .struct _ | .array _ _ => true | _ => false) = true) (hi : (P.info? ty).map (·.size) = some cs.size) :
   (results fn tmps).run P w = .ok (.tuple #[.agg cs,tmps.getD u undef,tmps.getD v undef]) w := by
 have hp' : tmps[p]?.getD undef = .pointer (some ⟨g,0,none⟩) := by simpa using hp
 simp [results,h,hp',asAddr,run_loadVar_row w g t ty cs fr d hg hu hd hi,Sem.run_bind,Result.andThen]
def Cfg.us (c : Cfg) : Int := userV c.cp c.pg c.st c.ca c.bi
def pgZ : Array Value := #[Value.pointer none,Value.int IntKind.i64 0,Value.int IntKind.i64 0,Value.int IntKind.i64 0,Value.int IntKind.i64 0,Value.int IntKind.i64 0,Value.int IntKind.i64 0,Value.int IntKind.i64 0,Value.int IntKind.i64 0,Value.int IntKind.i64 0,Value.int IntKind.i64 0,Value.int IntKind.i64 0,Value.int IntKind.i64 0,Value.int IntKind.i64 0,Value.int IntKind.i64 0,Value.int IntKind.i64 0,Value.int IntKind.i64 0,Value.int IntKind.i64 0,Value.int IntKind.i64 0,Value.int IntKind.i64 0,Value.int IntKind.i64 0,Value.int IntKind.i64 0,Value.int IntKind.i64 0,Value.int IntKind.i64 0,Value.int IntKind.i64 0,Value.int IntKind.i64 0,Value.int IntKind.i64 0]
theorem MidV.row {W wr : World} {F S F' : Nat → Prop} {p n : Nat} {kn : Int → Option Int} {D : List KV} (h : MidV W wr F S p kn n D F') {b : Nat} (hS : b < W.heap.size → S b) (nF : ¬ F' b) (cs' : Array Value) {cs : Array Value} {t : TypeId} {fr : Nat × Nat} (hb : wr.heap[b]? = some (.cells cs t fr)) : MidV W (wr.setRow b cs') F S p kn n D F' :=
 have T : Turned (fun k => k = b) wr (wr.setRow b cs') := Turned.setRow (Turned.refl _ wr) b cs' (fun _ => rfl)
 ⟨h.view.keepS (S:=fun k => k = b) T (fun k q e => nF (e ▸ q)) (fun k es cl e q => by subst e; rw [hb] at q; cases q),
   h.from',turned_own h.turn T (fun k q => by
     subst q
     rcases Nat.lt_or_ge k W.heap.size with r | r
     · exact .inl (.inr (hS r))
     · exact .inr r),h.inv⟩
theorem setRow_oth {w : World} {g b : Nat} {cs : Array Value} {o : Obj} (h : w.heap[b]? = some o) (hne : b ≠ g) : (w.setRow g cs).heap[b]? = some o :=
 ((Turned.setRow (S:=fun k => k = g) (Turned.refl _ w) g cs (fun _ => rfl)).block b (lt_of_heap h) hne).trans h
theorem zero_page (w : World) : ∃ w1,w.alloc (.cells pgZ 74) = w1 ∧ w1.heap[w.heap.size]? = some (.cells pgZ 74 (0,0)) ∧ More w w1 := ⟨_,rfl,row_new w _ _,(More.refl w).alloc _⟩
section
variable {o : Oper} {a : Act} {w : World} {K : Act → World → Prop} {Q : Exit → Act → World → Prop} {ops : Array Oper} {rest : List Oper} {C : World → Prop}
theorem wp_alloc_page (ho : o.op = .alloc 74) (h : K (a.put o.dst (.pointer (some ⟨w.heap.size,0,none⟩))) (w.alloc (.cells pgZ 74))) : Oper.wp Tryz.prog o a w K Q := by
 unfold Oper.wp Oper.upon execOp
 simp only [ho]
 go_simp
 exact h
theorem yieldsC_page (hw : Region.wanted o (yielded ops a.tmps) = true) (x0 x1 x2 x3 : Operand) (ho : o.op = .build 74 #[(0,x0),(1,x1),(2,x2),(3,x3)]) (c : Cfg) (p : Nat) (q k : Int)
   (h0 : a.eval x0 = .pointer (some ⟨p,0,none⟩)) (h1 : a.eval x1 = .agg c.arr) (h2 : a.eval x2 = .int .i64 q) (h3 : a.eval x3 = .int .i64 k) : YieldsC Tryz.prog ops C o (.agg (pgArr c p q k)) a := by
 refine .inl ⟨hw,fun w _ => ?_⟩
 unfold execOp
 generalize a.eval = ρ at h0 h1 h2 h3 ⊢
 simp only [ho,List.map_toArray,List.map_cons,List.map_nil,h0,h1,h2,h3]
 simp [run_build w _ _ _ (built_page c p q k),Sem.run_bind,Result.andThen]
theorem built_zero : Tryz.prog.built 74 [] = some pgZ := by kernel_rfl
theorem wpList_zero (hgd : o.guard = none) (ho : o.op = .build 74 #[]) (h : wpList Tryz.prog ops Q rest (a.put o.dst (.agg pgZ)) w) : wpList Tryz.prog ops Q (o :: rest) a w := by
 have e : Tryz.prog.built 74 ((#[] : Array (Nat × Operand)).map fun (i,x) => (i,a.eval x)).toList = some pgZ := by simp only [List.map_toArray,List.map_nil]; exact built_zero
 refine wpList_build hgd _ _ ho ?_ ?_
 · rw [e]; rfl
 · rw [e]; exact h
theorem put_com {i j : Nat} {x y : Value} (h : i ≠ j) : Act.put (Act.put a (some i) x) (some j) y = Act.put (Act.put a (some j) y) (some i) x := Act.put_comm a x y (fun d hd e => by cases hd; cases e; exact h rfl)
end
theorem page_cells {W : World} {gb p : Nat} {c : Cfg} {q k : Int} (h : W.heap[gb]? = some (.cells (pgArr c p q k) 74 (0,0))) : W.cell? ⟨gb,0,none⟩ = some (.pointer (some ⟨p,0,none⟩)) ∧ W.cell? ⟨gb,25,none⟩ = some (.int .i64 q) ∧ W.cell? ⟨gb,26,none⟩ = some (.int .i64 k) :=
 ⟨by rw [cell_of_row W _ _ _ _ _ h]; exact pg_v c p q k,by rw [cell_of_row W _ _ _ _ _ h]; exact pg_n c p q k,by rw [cell_of_row W _ _ _ _ _ h]; exact pg_c c p q k⟩
theorem wrap_w64 (x : Int) : W64 (IntKind.i64.wrap x) := by rw [IntKind.wrap_i64]; unfold W64; omega
theorem g_size (k : Int) {bt : Nat} (w : World) (h : SzAt bt w) : Calls Tryz.prog 8 #[.int .i64 k] w (Gives w (.int .i64 (szV k))) := (cl_size k w ⟨bt,h⟩).mono fun e w' q => ⟨q.1,q.2 ▸ More.refl _⟩
abbrev TkA := Option (Int × Int × Int × Bool)
def tkVal (c : Cfg) (p : Nat) : TkA → Value
 | none => .tuple #[.agg pgZ,.int .i64 0,.bool false]
 | some (q,k,i,b) => .tuple #[.agg (pgArr c p q k),.int .i64 i,.bool b]
def tkRest (pg st q wd x : Int) : Prg TkA :=
 if slotsC (IntKind.i64.wrap (x - 1)) = 0 then pureP none else if wd % szV (IntKind.i64.wrap (x - 1)) ≠ 0 then pureP none
 else bindP (readP (bA pg st q)) fun b => pureP (some (q,IntKind.i64.wrap (x - 1),wd / szV (IntKind.i64.wrap (x - 1)),hasB b (wd / szV (IntKind.i64.wrap (x - 1)))))
def takenP (us pg st a : Int) : Prg TkA := if us ≤ a ∧ a < us + 32 * pg then bindP (ekindP pg st ((a - us) / 32)) fun x => tkRest pg st ((a - us) / 32) ((a - us) % 32) x else pureP none
theorem sound_tkRest (pg st q wd x : Int) : Sound (tkRest pg st q wd x) := sound_ite (sound_pure _) (sound_ite (sound_pure _) (sound_bind (sound_read _) fun _ => sound_pure _))
theorem sound_taken (us pg st a : Int) : Sound (takenP us pg st a) := sound_ite (sound_bind (sound_kind _ _ _) fun _ => sound_tkRest _ _ _ _ _) (sound_pure _)
def TkOk (pg : Int) (x : TkA) : Prop := ∀ q k i b,x = some (q,k,i,b) → isPage pg q = true ∧ 0 ≤ k ∧ k ≤ 4 ∧ 0 ≤ i ∧ i ≤ 31
theorem good_tkRest {pg st : Int} {n : Nat} (H : PgIn pg st n) {q : Int} (hq : isPage pg q = true) {wd : Int} (hw : 0 ≤ wd ∧ wd < 32) (x : Int) : Good n (TkOk pg) (tkRest pg st q wd x) := by
 unfold tkRest
 refine good_ite (fun _ => good_pure n (fun _ _ _ _ e => by cases e)) (fun h => good_ite (fun _ => good_pure n (fun _ _ _ _ e => by cases e)) (fun _ => good_bind (good_read n (page_b H hq).2.2.2.1) fun b _ => good_pure n ?_))
 rintro q' k' i' b' e
 cases e
 have h4 := slots_cls h
 generalize IntKind.i64.wrap (x - 1) = kk at h4 ⊢
 obtain ⟨z,rfl⟩ : ∃ z : Nat,kk = (z : Int) := ⟨kk.toNat,by omega⟩
 have hs := sz_b (k:=z) (by omega)
 exact ⟨hq,h4.1,h4.2,Int.ediv_nonneg hw.1 (by omega),by have := Int.ediv_le_self (szV (z : Int)) hw.1; omega⟩
theorem place_b {us pg a : Int} (h : us ≤ a ∧ a < us + 32 * pg) : isPage pg ((a - us) / 32) = true ∧ 0 ≤ (a - us) % 32 ∧ (a - us) % 32 < 32 := ⟨isPage_iff.2 (by omega),by omega,by omega⟩
theorem good_taken {us pg st : Int} {n : Nat} (H : PgIn pg st n) (a : Int) : Good n (TkOk pg) (takenP us pg st a) := by
 unfold takenP
 exact good_ite (fun h => good_bind (good_kind H _) fun x _ => good_tkRest H (place_b h).1 (place_b h).2 x) (fun _ => good_pure n (fun _ _ _ _ e => by cases e))
theorem g_taken {c : Cfg} (R : c.Ok) {n : Nat} (H : HdIn c.pg c.st n) (hn : n ≤ 10000) (F : Nat → Prop) (p : Nat) (kn : Int → Option Int) (D : List KV) (ad : Int) (w : World) (hv : ViewAt w F p kn D) (hk : OkK kn) (hD : InvD n D) (bt : Nat) (hs : SzAt bt w) (nF0 : ¬ F 0) (nFb : ¬ F bt) :
   Calls Tryz.prog 75 #[.pointer (some ⟨p,0,none⟩),.agg c.arr,.int .i64 ad] w (WentV w F p kn (tkVal c p) (takenP c.us c.pg c.st ad kn D)) := by
 obtain ⟨Rr,hRr⟩ : ∃ Rr,takenP c.us c.pg c.st ad kn D = Rr := ⟨_,rfl⟩
 rw [hRr]
 obtain ⟨w2,e2,hl2,hz2,m2,s2⟩ := entry2 w (.cells c.arr 28) (.cells #[Value.pointer none,Value.int IntKind.i64 0,Value.int IntKind.i64 0,Value.int IntKind.i64 0,Value.int IntKind.i64 0,Value.int IntKind.i64 0,Value.int IntKind.i64 0,Value.int IntKind.i64 0,Value.int IntKind.i64 0,Value.int IntKind.i64 0,Value.int IntKind.i64 0,Value.int IntKind.i64 0,Value.int IntKind.i64 0,Value.int IntKind.i64 0,Value.int IntKind.i64 0,Value.int IntKind.i64 0,Value.int IntKind.i64 0,Value.int IntKind.i64 0,Value.int IntKind.i64 0,Value.int IntKind.i64 0,Value.int IntKind.i64 0,Value.int IntKind.i64 0,Value.int IntKind.i64 0,Value.int IntKind.i64 0,Value.int IntKind.i64 0,Value.int IntKind.i64 0,Value.int IntKind.i64 0] 74)
 have hz2 : w2.heap[w.heap.size + 1]? = some (.cells pgZ 74 (0,0)) := hz2
 have nFl : ¬ F w.heap.size := fun q => by have := hv.lt _ q; omega
 have nFz : ¬ F (w.heap.size + 1) := fun q => by have := hv.lt _ q; omega
 have MM := hQQ m2
 have HNZ := hQQ nFz
 have HZL := hQQ (show w.heap.size + 1 < w2.heap.size by omega)
 have L0 := hQQ hl2
 have M0 : Hid (MidV w2 w2 F (fun b => b = w.heap.size + 1) p kn n D F ∧ w2.heap[w.heap.size + 1]? = some (.cells pgZ 74 (0,0))) := hQQ ⟨MidV.begin (hv.more m2) hD,hz2⟩
 have KL : Hid (∀ wr D' F',MidV w2 wr F (fun b => b = w.heap.size + 1) p kn n D' F' → wr.heap[w.heap.size]? = some (.cells c.arr 28 (0,0))) := hQQ fun wr D' F' h => mid_own h L0.out nFl (fun q => by omega)
 have hSS : ∀ b,(fun b => b = w.heap.size + 1) b → w.heap.size ≤ b := fun b q => by have : b = w.heap.size + 1 := q; omega
 have NEED : Hid (∀ a w3,Rr = .need a → DeadAt w3 p a → Turned (fun b => F b ∨ b = w.heap.size + 1) w2 w3 → WentV w F p kn (tkVal c p) Rr (.panicked (endOf p)) w3) := hQQ fun a w3 e hd ht => mid_need MM.out hSS e hd ht
 have DONE : Hid (∀ x w3 D' F',Rr = .ok x D' → MidV w2 w3 F (fun b => b = w.heap.size + 1) p kn n D' F' → WentV w F p kn (tkVal c p) Rr (.returned (tkVal c p x)) w3) := hQQ fun x w3 D' F' e h => mid_done MM.out hSS h e
 have SZ : Hid (∀ wr D' F',MidV w2 wr F (fun b => b = w.heap.size + 1) p kn n D' F' → SzAt bt wr) := hQQ fun wr D' F' h => (hs.more MM.out).keep h.turn (by rintro (q | q); exact nF0 q; have := hs.lt0; omega) (by rintro (q | q); exact nFb q; have := hs.lt; omega)
 have HK := hQQ hk
 have HR := hQQ R
 have HH := hQQ H
 have pg1 := HR.out.pg1
 have pg2 := HR.out.pg2
 clear hl2 hz2 m2 hv hD hk R H nFl nFz hs nF0 nFb hSS
 unfold takenP at hRr
 have L2 := hQQ (KL.out _ _ _ M0.out.1)
 by_cases hin : c.us ≤ ad ∧ ad < c.us + 32 * c.pg
 · rw [if_pos hin] at hRr
   obtain ⟨hq,hwd⟩ := place_b hin
   have PL := hQQ (xplace_in HR.out w2 ad hin.1 hin.2)
   have PL := hQQ (show Calls Tryz.prog 16 #[.agg c.arr,.int .i64 ad] w2 (Gives w2 (.tuple #[.int .i64 ((ad - c.us) / 32),.int .i64 ((ad - c.us) % 32),.bool true])) from PL.out)
   generalize (ad - c.us) / 32 = q at hRr hq PL
   generalize (ad - c.us) % 32 = wd at hRr hwd PL
   have HRr := hQQ hRr
   have HQ := hQQ hq
   have PB := hQQ (page_b HH.out.toPgIn hq)
   clear hin hRr hq
   go_enter Tryz.func75,Tryz.ntmps75
   go_wp2_with (refine wpList_load_rowG rfl 28 _ rfl _ rfl 28 _ _ _ L2.out Tryz.underlying28 rfl (by kernel_rfl) ?_)
   refine PL.out.mono ?_
   rintro e w3 ⟨rfl,h3⟩
   have M3 := hQQ (And.intro (M0.out.1.more h3) (h3.block M0.out.2))
   clear h3
   go_wp2_with fail
   have MR : Hid (MidV w2 (w3.drewN 1) F (fun b => b = w.heap.size + 1) p kn n D F ∧ (w3.drewN 1).heap[w.heap.size + 1]? = some (.cells pgZ 74 (0,0))) := hQQ ⟨M3.out.1.more ((More.refl w3).drewN 1),((More.refl w3).drewN 1).block M3.out.2⟩
   have KC : Hid (∀ W D' F',MidV w2 W F (fun b => b = w.heap.size + 1) p kn n D' F' ∧ W.heap[w.heap.size + 1]? = some (.cells pgZ 74 (0,0)) → W.heap[w.heap.size]? = some (.cells c.arr 28 (0,0))) := hQQ fun _ _ _ h => KL.out _ _ _ h.1
   refine wp_region_anyC (fun W => W.heap[w.heap.size]? = some (.cells c.arr 28 (0,0))) (by kernel_rfl) ?_
   change anyC _ _ _ _ _ _ _ _ (w3.drewN 1)
   generalize hA : Act.mk _ _ = A
   have HF : AG 57 A [(0,.pointer (some ⟨p,0,none⟩)),(4,.pointer (some ⟨w.heap.size,0,none⟩)),(9,.int .i64 q)] := by
     rw [← hA]
     refine ⟨⟨Nat.le_of_ble_eq_true rfl,rfl⟩,?_⟩
     intro z hz; simp only [List.mem_cons,List.not_mem_nil,or_false] at hz; rcases hz with rfl | rfl | rfl <;> rfl
   generalize w3.drewN 1 = wq at MR ⊢
   refine anyC_start (fun a W => ∃ (u24 u25 u26 u27 u28 u29 u30 u31 u32 : Value) (gb : Nat) (x9 : Int) (D9 : List KV) (F9 : Nat → Prop),a = (Act.put (Act.put (Act.put (Act.put (Act.put (Act.put (Act.put (Act.put (Act.put (Act.put (Act.put A (some 24) u24) (some 25) u25) (some 26) u26) (some 27) u27) (some 28) u28) (some 29) u29) (some 30) u30) (some 31) u31) (some 32) u32) (some 12) (.pointer (some ⟨gb,0,none⟩))) none undef) ∧ (MidV w2 W F (fun b => b = w.heap.size + 1) p kn n D9 F9 ∧ W.heap[w.heap.size + 1]? = some (.cells pgZ 74 (0,0)) ∧ W.heap[gb]? = some (.cells (pgArr c p q (IntKind.i64.wrap (x9 - 1))) 74 (0,0)) ∧ w2.heap.size ≤ gb ∧ ¬ F9 gb) ∧ tkRest c.pg c.st q wd x9 kn D9 = Rr) (fun W => WentV w F p kn (tkVal c p) Rr (.panicked (endOf p)) W) (endOf p) (fun a W hd h => ⟨hd,h⟩) (fun _ _ _ _ _ h => h) ?_ ?_
   · skip
     rintro a W9 ⟨u24,u25,u26,u27,u28,u29,u30,u31,u32,gb,x9,D9,F9,rfl,⟨m9,hz9,hb9,hgb,hnb⟩,hr⟩
     rw [← hA]
     have HNB := hQQ hnb
     have HGB := hQQ hgb
     have B9 := hQQ hb9
     have M9 := hQQ (And.intro m9 (And.intro hz9 hb9))
     clear HF hA MR KC m9 hz9 hb9 hgb hnb
     go_simp
     obtain ⟨kk,hkk⟩ : ∃ kk,IntKind.i64.wrap (x9 - 1) = kk := ⟨_,rfl⟩
     unfold tkRest at hr
     simp only [hkk] at hr M9 B9
     have hwkk : W64 kk := by rw [← hkk]; exact wrap_w64 _
     clear hkk
     obtain ⟨c0,c25,c26⟩ := page_cells B9.out
     go_wp2_with fail
     refine (g_there kk W9 (SZ.out _ _ _ M9.out.1)).mono ?_
     rintro e w10 ⟨rfl,h10⟩
     have M10 := hQQ (And.intro (M9.out.1.more h10) (And.intro (h10.block M9.out.2.1) (h10.block M9.out.2.2)))
     clear h10 c0 c25 c26
     obtain ⟨c0,c25,c26⟩ := page_cells M10.out.2.2
     by_cases hz : slotsC kk = 0
     · rw [if_pos hz] at hr
       have d0 : (slotsC kk != 0) = false := by simp [hz]
       have MZ := M10.out.1.row (b:=w.heap.size + 1) (fun _ => rfl) (M10.out.1.off HZL.out HNZ.out) pgZ M10.out.2.1
       have HZ := setRow_heap _ (w.heap.size + 1) pgZ pgZ _ _ M10.out.2.1
       obtain ⟨wz,ez⟩ : ∃ wz,World.setRow w10 (w.heap.size + 1) pgZ = wz := ⟨_,rfl⟩
       have Z0 := hQQ M10.out.2.1
       rw [ez] at MZ HZ
       have FIN := hQQ (DONE.out none wz D9 F9 (hr.symm) MZ)
       clear MZ
       go_wp2_with (first | (refine wpList_zero rfl rfl ?_) | (refine wpList_store_row rfl 74 _ _ rfl _ _ rfl rfl 74 _ Z0.out (by kernel_rfl) rfl (by kernel_rfl) ?_))
       refine bodyPost_ret (results_row3 rfl _ _ (w.heap.size + 1) 74 pgZ _ _ rfl HZ Tryz.underlying74 rfl (by kernel_rfl)) rfl ?_
       exact FIN.out
     rw [if_neg hz] at hr
     have d0 : (slotsC kk != 0) = true := by simpa using hz
     have hk4 := slots_cls hz
     obtain ⟨kn',rfl⟩ : ∃ z : Nat,kk = (z : Int) := ⟨kk.toNat,by omega⟩
     have hsb := sz_b (k:=kn') (by omega)
     have CS := hQQ (fun (W : World) (hW : SzAt bt W) => g_size (kn' : Int) W hW)
     obtain ⟨sz,hsz⟩ : ∃ sz,szV (kn' : Int) = sz := ⟨_,rfl⟩
     rw [hsz] at hr hsb CS
     have t1 : wd.tmod sz = wd % sz := Int.tmod_eq_emod_of_nonneg hwd.1
     have t2 : wd.tdiv sz = wd / sz := Int.tdiv_eq_ediv_of_nonneg hwd.1
     have t3 : 0 ≤ wd % sz ∧ wd % sz < sz := ⟨Int.emod_nonneg _ (by omega),Int.emod_lt_of_pos _ (by omega)⟩
     have t4 : 0 ≤ wd / sz ∧ wd / sz ≤ wd := ⟨Int.ediv_nonneg hwd.1 (by omega),Int.ediv_le_self _ hwd.1⟩
     have t5 : IntKind.i64.wrap (wd / sz) = wd / sz := wrap_in (by omega) (by omega)
     have z0 : (sz == 0) = false := by simp; omega
     have z1 : decide (sz = 0) = false := by simp; omega
     have z2 : (sz == -1) = false := by simp; omega
     have z3 : decide (sz = -1) = false := by simp; omega
     have z4 : ¬ sz = 0 := by omega
     have z5 : ¬ sz = -1 := by omega
     obtain ⟨ix,hix⟩ : ∃ ix,wd / sz = ix := ⟨_,rfl⟩
     obtain ⟨mm,hmm⟩ : ∃ mm,wd % sz = mm := ⟨_,rfl⟩
     rw [hix] at hr t2 t4 t5
     rw [hmm] at hr t1 t3
     have HIX := hQQ t4
     have HW := hQQ hwkk
     clear hz hk4 hsz hix hmm t4 t3 hwkk
     by_cases hm0 : mm = 0
     · rw [if_neg (by simpa using hm0)] at hr
       have d1 : (mm != 0) = false := by simp [hm0]
       have RN := hQQ hr
       clear hr
       go_wp2_with fail
       refine (CS.out w10 (SZ.out _ _ _ M10.out.1)).mono ?_
       rintro e w11 ⟨rfl,h11⟩
       have M11 := hQQ (And.intro (M10.out.1.more h11) (And.intro (h11.block M10.out.2.1) (h11.block M10.out.2.2)))
       clear h11 c0 c25 c26
       obtain ⟨c0,c25,c26⟩ := page_cells M11.out.2.2
       go_wp2_with fail
       refine (CS.out w11 (SZ.out _ _ _ M11.out.1)).mono ?_
       rintro e w9 ⟨rfl,h9⟩
       have M9 := hQQ (And.intro (M11.out.1.more h9) (And.intro (h9.block M11.out.2.1) (h9.block M11.out.2.2)))
       clear h9 c0 c25 c26 d0 d1 hm0 z0 z1 z2 z3 z4 z5 t1
       go_wp2_with fail
       generalize (kn' : Int) = kk at M9 RN HW M11 M10 B9
       clear t2 t5 hsb M11 M10 B9 CS
       have MR : Hid (MidV w2 (w9.drewN 1) F (fun b => b = w.heap.size + 1) p kn n D9 F9 ∧ (w9.drewN 1).heap[w.heap.size + 1]? = some (.cells pgZ 74 (0,0)) ∧ (w9.drewN 1).heap[gb]? = some (.cells (pgArr c p q kk) 74 (0,0))) := hQQ ⟨M9.out.1.more ((More.refl w9).drewN 1),((More.refl w9).drewN 1).block M9.out.2.1,((More.refl w9).drewN 1).block M9.out.2.2⟩
       have KC : Hid (∀ W D' F',MidV w2 W F (fun b => b = w.heap.size + 1) p kn n D' F' ∧ W.heap[w.heap.size + 1]? = some (.cells pgZ 74 (0,0)) ∧ W.heap[gb]? = some (.cells (pgArr c p q kk) 74 (0,0)) → W.heap[gb]? = some (.cells (pgArr c p q kk) 74 (0,0))) := hQQ fun _ _ _ h => h.2.2
       refine wp_region_anyC (fun W => W.heap[gb]? = some (.cells (pgArr c p q kk) 74 (0,0))) (by kernel_rfl) ?_
       change anyC _ _ _ _ _ _ _ _ (w9.drewN 1)
       generalize hA : Act.mk _ _ = A
       have HF : AG 57 A [(6,.pointer (some ⟨w.heap.size + 1,0,none⟩)),(12,.pointer (some ⟨gb,0,none⟩)),(13,.int .i64 ix)] := by
         rw [← hA]
         refine ⟨⟨Nat.le_of_ble_eq_true rfl,rfl⟩,?_⟩
         intro z hz; simp only [List.mem_cons,List.not_mem_nil,or_false] at hz; rcases hz with rfl | rfl | rfl <;> rfl
       generalize w9.drewN 1 = wq at MR ⊢
       refine anyC_start (fun a W => ∃ (u51 u52 u53 u55 u54 u56 : Value) (x10 : Int) (D10 : List KV) (F10 : Nat → Prop),a = (Act.put (Act.put (Act.put (Act.put (Act.put (Act.put (Act.put (Act.put A (some 51) u51) (some 52) u52) (some 53) u53) (some 55) u55) (some 54) u54) (some 56) u56) (some 7) (.int .i64 ix)) (some 8) (.bool (hasB x10 ix))) ∧ MidV w2 W F (fun b => b = w.heap.size + 1) p kn n D10 F10 ∧ W.heap[w.heap.size + 1]? = some (.cells (pgArr c p q kk) 74 (0,0)) ∧ Rr = .ok (some (q,kk,ix,hasB x10 ix)) D10) (fun W => WentV w F p kn (tkVal c p) Rr (.panicked (endOf p)) W) (endOf p) (fun a W hd h => ⟨hd,h⟩) (fun _ _ _ _ _ h => h) ?_ ?_
       · skip
         rintro a wa ⟨u51,u52,u53,u55,u54,u56,x10,D10,F10,rfl,MS,HS,hr⟩
         rw [← hA]
         have FIN := hQQ (DONE.out (some (q,kk,ix,hasB x10 ix)) wa D10 F10 hr MS)
         clear HF hA MR KC hr
         go_simp
         go_wp2_with fail
         refine bodyPost_ret (results_row3 rfl _ _ (w.heap.size + 1) 74 (pgArr c p q kk) _ _ rfl HS Tryz.underlying74 rfl (by kernel_rfl)) rfl ?_
         exact FIN.out
       intro QQ FINE FIND FINQ
       clear hA
       refine anyC_takeD (i:=0) (v:=.agg (pgArr c p q kk)) (some 51) rfl rfl (by kernel_rfl) (by kernel_rfl) (by kernel_rfl) (fun c a w => FINQ c a _ _ w) (KC.out _ _ _ MR.out) (by exact yieldsC_row (C:=(fun W => W.heap[gb]? = some (.cells (pgArr c p q kk) 74 (0,0)))) (wanted_none rfl) 74 _ rfl gb (HF.get 1 rfl) 74 _ _ _ (fun W hW => hW) Tryz.underlying74 rfl (by kernel_rfl)) ?_
       replace HF := HF.put 51 (.agg (pgArr c p q kk)) (by decide) rfl
       generalize hB1_51 : Act.put _ _ _ = A at HF ⊢
       refine anyC_takeD (i:=1) (v:=.int .i64 ix) (some 52) rfl rfl (by kernel_rfl) (by kernel_rfl) (by kernel_rfl) (fun c a w => FINQ c a _ _ w) (KC.out _ _ _ MR.out) (by exact yieldsC_moveG (wanted_none rfl) _ rfl (HF.get 3 rfl)) ?_
       replace HF := HF.put 52 (.int .i64 ix) (by decide) rfl
       generalize hB2_52 : Act.put _ _ _ = A at HF ⊢
       refine anyC_takeD (i:=2) (v:=.agg (pgArr c p q kk)) (some 53) rfl rfl (by kernel_rfl) (by kernel_rfl) (by kernel_rfl) (fun c a w => FINQ c a _ _ w) (KC.out _ _ _ MR.out) (by exact yieldsC_row (C:=(fun W => W.heap[gb]? = some (.cells (pgArr c p q kk) 74 (0,0)))) (wanted_none rfl) 74 _ rfl gb (HF.get 3 rfl) 74 _ _ _ (fun W hW => hW) Tryz.underlying74 rfl (by kernel_rfl)) ?_
       replace HF := HF.put 53 (.agg (pgArr c p q kk)) (by decide) rfl
       generalize hB3_53 : Act.put _ _ _ = A at HF ⊢
       refine anyC_takeD (i:=4) (v:=.int .i64 ix) (some 55) rfl rfl (by kernel_rfl) (by kernel_rfl) (by kernel_rfl) (fun c a w => FINQ c a _ _ w) (KC.out _ _ _ MR.out) (by exact yieldsC_moveG (wanted_none rfl) _ rfl (HF.get 5 rfl)) ?_
       replace HF := HF.put 55 (.int .i64 ix) (by decide) rfl
       generalize hB4_55 : Act.put _ _ _ = A at HF ⊢
       refine anyC_oneK (i:=3) (some 54) (by kernel_rfl) rfl (wanted_none rfl) rfl (fun K hK => ?_)
       refine wp_call1 (v0:=.agg (pgArr c p q kk)) rfl (HF.get 1 rfl) (enters_of Tryz.func37 (by kernel_rfl) rfl) ?_
       refine (g_bits HR.out HH.out.toPgIn F9 p kn D9 q kk hn HQ.out wq MR.out.1.view HK.out MR.out.1.inv).mono ?_
       intro e w10 he
       rcases MR.out.1.step (More.refl _) HK.out (good_read n PB.out.2.2.2.1) he with ⟨a',hE,rfl,hd',ht',_⟩ | ⟨x10,D10,F10,hE,rfl,M10',hq10,hk10,hf10⟩
       · exact FIND _ _ HF.1.2 (NEED.out a' w10 (RN.out.symm.trans (bindP_need hE)) hd' ht')
       have R10 := hQQ (RN.out.symm.trans (bindP_ok hE))
       have nz10 : ¬ F10 (w.heap.size + 1) := M10'.off HZL.out HNZ.out
       have M10 : Hid (MidV w2 w10 F (fun b => b = w.heap.size + 1) p kn n D10 F10 ∧ w10.heap[w.heap.size + 1]? = some (.cells pgZ 74 (0,0)) ∧ w10.heap[gb]? = some (.cells (pgArr c p q kk) 74 (0,0))) := hQQ ⟨M10',hk10 _ _ (MR.out.1.off HZL.out HNZ.out) MR.out.2.1,hk10 _ _ HNB.out MR.out.2.2⟩
       clear he hE hk10 hf10
       refine hK _ _ (KC.out _ _ _ M10.out) ?_
       clear hK K
       replace HF := HF.put 54 (.int .i64 x10) (by decide) rfl
       generalize hB5_54 : Act.put _ _ _ = A at HF ⊢
       refine anyC_oneK (i:=5) (some 56) (by kernel_rfl) rfl (wanted_none rfl) rfl (fun K hK => ?_)
       refine wp_call2 (v0:=.int .i64 x10) (v1:=.int .i64 ix) rfl (HF.get 0 rfl) (HF.get 1 rfl) (enters_of Tryz.func17 (by kernel_rfl) rfl) ?_
       refine (o_has x10 ix w10).mono ?_
       rintro e w11 ⟨rfl,rfl⟩
       refine hK _ _ (KC.out _ _ _ M10.out) ?_
       clear hK K
       replace HF := HF.put 56 (.bool (hasB x10 ix)) (by decide) rfl
       generalize hB6_56 : Act.put _ _ _ = A at HF ⊢
       refine anyC_oneK (i:=6) none (by kernel_rfl) rfl (wanted_none rfl) rfl (fun K hK => ?_)
       refine wp_store_row 74 _ _ rfl (w.heap.size + 1) _ (HF.get 6 rfl) (HF.get 5 rfl) 74 pgZ M10.out.2.1 (by kernel_rfl) rfl (pg_one ..) ?_
       have MS := M10.out.1.row (b:=w.heap.size + 1) (fun _ => rfl) nz10 (pgArr c p q kk) M10.out.2.1
       have HS1 := setRow_heap _ (w.heap.size + 1) pgZ (pgArr c p q kk) _ _ M10.out.2.1
       have HS2 := setRow_oth (cs:=pgArr c p q kk) M10.out.2.2 (show gb ≠ w.heap.size + 1 by have := HGB.out; have := HZL.out; omega)
       refine hK _ _ HS2 ?_
       clear hK K
       rw [show ∀ (a : Act) (v : Value),a.put none v = a from fun _ _ => rfl]
       generalize World.setRow _ _ _ = wz at MS HS1 HS2 ⊢
       have HS2H := hQQ HS2
       refine anyC_takeD (i:=7) (v:=.int .i64 ix) (some 7) rfl rfl (by kernel_rfl) (by kernel_rfl) (by kernel_rfl) (fun c a w => FINQ c a _ _ w) (HS2H.out) (by exact yieldsC_assign (wanted_none rfl) _ rfl (HF.get 4 rfl)) ?_
       replace HF := HF.put 7 (.int .i64 ix) (by decide) rfl
       generalize hB7_7 : Act.put _ _ _ = A at HF ⊢
       refine anyC_takeD (i:=8) (v:=.bool (hasB x10 ix)) (some 8) rfl rfl (by kernel_rfl) (by kernel_rfl) (by kernel_rfl) (fun c a w => FINQ c a _ _ w) (HS2H.out) (by exact yieldsC_assign (wanted_none rfl) _ rfl (HF.get 1 rfl)) ?_
       replace HF := HF.put 8 (.bool (hasB x10 ix)) (by decide) rfl
       generalize hB8_8 : Act.put _ _ _ = A at HF ⊢
       exact anyC_done (by kernel_rfl) (FINE _ _ ⟨(.agg (pgArr c p q kk)),(.int .i64 ix),(.agg (pgArr c p q kk)),(.int .i64 ix),(.int .i64 x10),(.bool (hasB x10 ix)),x10,D10,F10,by rw [← hB8_8,← hB7_7,← hB6_56,← hB5_54,← hB4_55,← hB3_53,← hB2_52,← hB1_51],MS,HS1,R10.out⟩)
     · rw [if_pos (by simpa using hm0)] at hr
       have d1 : (mm != 0) = true := by simpa using hm0
       go_wp2_with fail
       refine (CS.out w10 (SZ.out _ _ _ M10.out.1)).mono ?_
       rintro e w11 ⟨rfl,h11⟩
       have M11 := hQQ (And.intro (M10.out.1.more h11) (And.intro (h11.block M10.out.2.1) (h11.block M10.out.2.2)))
       clear h11 c0 c25 c26
       have MZ := M11.out.1.row (b:=w.heap.size + 1) (fun _ => rfl) (M11.out.1.off HZL.out HNZ.out) pgZ M11.out.2.1
       have HZ := setRow_heap _ (w.heap.size + 1) pgZ pgZ _ _ M11.out.2.1
       obtain ⟨wz,ez⟩ : ∃ wz,World.setRow w11 (w.heap.size + 1) pgZ = wz := ⟨_,rfl⟩
       have Z0 := hQQ M11.out.2.1
       rw [ez] at MZ HZ
       have FIN := hQQ (DONE.out none wz D9 F9 (hr.symm) MZ)
       clear MZ
       go_wp2_with (first | (refine wpList_zero rfl rfl ?_) | (refine wpList_store_row rfl 74 _ _ rfl _ _ rfl rfl 74 _ Z0.out (by kernel_rfl) rfl (by kernel_rfl) ?_))
       refine bodyPost_ret (results_row3 rfl _ _ (w.heap.size + 1) 74 pgZ _ _ rfl HZ Tryz.underlying74 rfl (by kernel_rfl)) rfl ?_
       exact FIN.out
   intro QQ FINE FIND FINQ
   clear hA
   refine anyC_takeD (i:=0) (v:=.pointer (some ⟨p,0,none⟩)) (some 24) rfl rfl (by kernel_rfl) (by kernel_rfl) (by kernel_rfl) (fun c a w => FINQ c a _ _ w) (KC.out _ _ _ MR.out) (by exact yieldsC_moveG (wanted_none rfl) _ rfl (HF.get 0 rfl)) ?_
   replace HF := HF.put 24 (.pointer (some ⟨p,0,none⟩)) (by decide) rfl
   generalize hB1_24 : Act.put _ _ _ = A at HF ⊢
   refine anyC_takeD (i:=1) (v:=.agg c.arr) (some 25) rfl rfl (by kernel_rfl) (by kernel_rfl) (by kernel_rfl) (fun c a w => FINQ c a _ _ w) (KC.out _ _ _ MR.out) (by exact yieldsC_row (C:=(fun W => W.heap[w.heap.size]? = some (.cells c.arr 28 (0,0)))) (wanted_none rfl) 28 _ rfl w.heap.size (HF.get 2 rfl) 28 _ _ _ (fun W hW => hW) Tryz.underlying28 rfl (by kernel_rfl)) ?_
   replace HF := HF.put 25 (.agg c.arr) (by decide) rfl
   generalize hB2_25 : Act.put _ _ _ = A at HF ⊢
   refine anyC_takeD (i:=2) (v:=.int .i64 q) (some 26) rfl rfl (by kernel_rfl) (by kernel_rfl) (by kernel_rfl) (fun c a w => FINQ c a _ _ w) (KC.out _ _ _ MR.out) (by exact yieldsC_moveG (wanted_none rfl) _ rfl (HF.get 4 rfl)) ?_
   replace HF := HF.put 26 (.int .i64 q) (by decide) rfl
   generalize hB3_26 : Act.put _ _ _ = A at HF ⊢
   refine anyC_takeD (i:=3) (v:=.pointer (some ⟨p,0,none⟩)) (some 27) rfl rfl (by kernel_rfl) (by kernel_rfl) (by kernel_rfl) (fun c a w => FINQ c a _ _ w) (KC.out _ _ _ MR.out) (by exact yieldsC_moveG (wanted_none rfl) _ rfl (HF.get 3 rfl)) ?_
   replace HF := HF.put 27 (.pointer (some ⟨p,0,none⟩)) (by decide) rfl
   generalize hB4_27 : Act.put _ _ _ = A at HF ⊢
   refine anyC_takeD (i:=4) (v:=.agg c.arr) (some 28) rfl rfl (by kernel_rfl) (by kernel_rfl) (by kernel_rfl) (fun c a w => FINQ c a _ _ w) (KC.out _ _ _ MR.out) (by exact yieldsC_row (C:=(fun W => W.heap[w.heap.size]? = some (.cells c.arr 28 (0,0)))) (wanted_none rfl) 28 _ rfl w.heap.size (HF.get 5 rfl) 28 _ _ _ (fun W hW => hW) Tryz.underlying28 rfl (by kernel_rfl)) ?_
   replace HF := HF.put 28 (.agg c.arr) (by decide) rfl
   generalize hB5_28 : Act.put _ _ _ = A at HF ⊢
   refine anyC_takeD (i:=5) (v:=.int .i64 q) (some 29) rfl rfl (by kernel_rfl) (by kernel_rfl) (by kernel_rfl) (fun c a w => FINQ c a _ _ w) (KC.out _ _ _ MR.out) (by exact yieldsC_moveG (wanted_none rfl) _ rfl (HF.get 7 rfl)) ?_
   replace HF := HF.put 29 (.int .i64 q) (by decide) rfl
   generalize hB6_29 : Act.put _ _ _ = A at HF ⊢
   refine anyC_two (i:=6) (j:=9) (some 30) (some 12) (by kernel_rfl) rfl rfl (wanted_none rfl) (wanted_none rfl) rfl rfl (fun K hK => ?_) (fun K hK => ?_)
   · refine wp_call3 (v0:=.pointer (some ⟨p,0,none⟩)) (v1:=.agg c.arr) (v2:=.int .i64 q) rfl (HF.get 2 rfl) (HF.get 1 rfl) (HF.get 0 rfl) (enters_of Tryz.func48 (by kernel_rfl) rfl) ?_
     refine (e_Kind HR.out HH.out.toPgIn F p kn D q wq MR.out.1.view HK.out MR.out.1.inv).mono ?_
     intro e w7 he
     rcases MR.out.1.step (More.refl _) HK.out (good_kind HH.out.toPgIn _) he with ⟨a',hE,rfl,hd',ht',_⟩ | ⟨x6,D6,F6,hE,rfl,M6',hq6,hk6,hf6⟩
     · exact FIND _ _ HF.1.2 (NEED.out a' w7 (HRr.out.symm.trans (bindP_need hE)) hd' ht')
     have R6 := hQQ ((bindP_ok hE).symm.trans HRr.out)
     have M6 : Hid (MidV w2 w7 F (fun b => b = w.heap.size + 1) p kn n D6 F6 ∧ w7.heap[w.heap.size + 1]? = some (.cells pgZ 74 (0,0))) := hQQ ⟨M6',hk6 _ _ HNZ.out MR.out.2⟩
     clear he hE hk6 hf6
     refine hK _ _ (KC.out _ _ _ M6.out) ?_
     clear hK K
     replace HF := HF.put 30 (.int .i64 x6) (by decide) rfl
     generalize hB7_30 : Act.put _ _ _ = A at HF ⊢
     refine anyC_takeD (i:=7) (v:=.int .i64 (IntKind.i64.wrap (x6 - 1))) (some 31) rfl rfl (by kernel_rfl) (by kernel_rfl) (by kernel_rfl) (fun c a w => FINQ c a _ _ w) (KC.out _ _ _ M6.out) (by exact yieldsC_subI (wanted_none rfl) rfl (HF.get 0 rfl) rfl _ rfl) ?_
     replace HF := HF.put 31 (.int .i64 (IntKind.i64.wrap (x6 - 1))) (by decide) rfl
     generalize hB8_31 : Act.put _ _ _ = A at HF ⊢
     refine anyC_takeD (i:=8) (v:=.agg (pgArr c p q (IntKind.i64.wrap (x6 - 1)))) (some 32) rfl rfl (by kernel_rfl) (by kernel_rfl) (by kernel_rfl) (fun c a w => FINQ c a _ _ w) (KC.out _ _ _ M6.out) (by exact yieldsC_page (wanted_none rfl) _ _ _ _ rfl c p q (IntKind.i64.wrap (x6 - 1)) (HF.get 7 rfl) (HF.get 6 rfl) (HF.get 5 rfl) (HF.get 0 rfl)) ?_
     replace HF := HF.put 32 (.agg (pgArr c p q (IntKind.i64.wrap (x6 - 1)))) (by decide) rfl
     generalize hB9_32 : Act.put _ _ _ = A at HF ⊢
     refine anyC_oneK (i:=9) (some 12) (by kernel_rfl) rfl (wanted_none rfl) rfl (fun K hK => ?_)
     refine wp_alloc_page rfl ?_
     obtain ⟨w8,e8,h8,m8⟩ := zero_page w7
     rw [e8]
     clear e8
     have M8 : Hid (MidV w2 w8 F (fun b => b = w.heap.size + 1) p kn n D6 F6 ∧ w8.heap[w.heap.size + 1]? = some (.cells pgZ 74 (0,0))) := hQQ ⟨M6.out.1.more m8,m8.block M6.out.2⟩
     have nb : ¬ F6 w7.heap.size := fun z => by have := M6.out.1.view.lt _ z; omega
     have lb := M6.out.1.size
     refine hK _ _ (KC.out _ _ _ M8.out) ?_
     clear hK K
     replace HF := HF.put 12 (.pointer (some ⟨w7.heap.size,0,none⟩)) (by decide) rfl
     generalize hB10_12 : Act.put _ _ _ = A at HF ⊢
     refine anyC_last (i:=10) (by kernel_rfl) (by kernel_rfl) rfl (wanted_none rfl) (fun K hK => ?_)
     refine wp_store_row 74 _ _ rfl (w7.heap.size) _ (HF.get 0 rfl) (HF.get 1 rfl) 74 pgZ h8 (by kernel_rfl) rfl (pg_one ..) ?_
     have MS := M8.out.1.row (b:=w7.heap.size) (fun q => by omega) nb (pgArr c p q (IntKind.i64.wrap (x6 - 1))) h8
     have HS1 := setRow_heap _ (w7.heap.size) pgZ (pgArr c p q (IntKind.i64.wrap (x6 - 1))) _ _ h8
     have HS2 := setRow_oth (cs:=pgArr c p q (IntKind.i64.wrap (x6 - 1))) M8.out.2 (show w.heap.size + 1 ≠ w7.heap.size by omega)
     refine hK _ _ (KC.out _ _ _ ⟨MS,HS2⟩) (FINE _ _ ⟨(.pointer (some ⟨p,0,none⟩)),(.agg c.arr),(.int .i64 q),(.pointer (some ⟨p,0,none⟩)),(.agg c.arr),(.int .i64 q),(.int .i64 x6),(.int .i64 (IntKind.i64.wrap (x6 - 1))),(.agg (pgArr c p q (IntKind.i64.wrap (x6 - 1)))),w7.heap.size,x6,D6,F6,?_,⟨MS,HS2,HS1,lb,nb⟩,R6.out⟩)
     rw [← hB10_12,← hB9_32,← hB8_31,← hB7_30,← hB6_29,← hB5_28,← hB4_27,← hB3_26,← hB2_25,← hB1_24]; rfl
   · refine wp_alloc_page rfl ?_
     obtain ⟨w7,e7,h7,m7⟩ := zero_page wq
     rw [e7]
     clear e7
     have M7 : Hid (MidV w2 w7 F (fun b => b = w.heap.size + 1) p kn n D F ∧ w7.heap[w.heap.size + 1]? = some (.cells pgZ 74 (0,0))) := hQQ ⟨MR.out.1.more m7,m7.block MR.out.2⟩
     have nb : ¬ F wq.heap.size := fun z => by have := MR.out.1.view.lt _ z; omega
     have lb := MR.out.1.size
     refine hK _ _ (KC.out _ _ _ M7.out) ?_
     clear hK K
     replace HF := HF.put 12 (.pointer (some ⟨wq.heap.size,0,none⟩)) (by decide) rfl
     generalize hB7_12 : Act.put _ _ _ = A at HF ⊢
     refine anyC_oneK (i:=6) (some 30) (by kernel_rfl) rfl (wanted_none rfl) rfl (fun K hK => ?_)
     refine wp_call3 (v0:=.pointer (some ⟨p,0,none⟩)) (v1:=.agg c.arr) (v2:=.int .i64 q) rfl (HF.get 3 rfl) (HF.get 2 rfl) (HF.get 1 rfl) (enters_of Tryz.func48 (by kernel_rfl) rfl) ?_
     refine (e_Kind HR.out HH.out.toPgIn F p kn D q w7 M7.out.1.view HK.out M7.out.1.inv).mono ?_
     intro e w8 he
     rcases M7.out.1.step (More.refl _) HK.out (good_kind HH.out.toPgIn _) he with ⟨a',hE,rfl,hd',ht',_⟩ | ⟨x6,D6,F6,hE,rfl,M6',hq6,hk6,hf6⟩
     · exact FIND _ _ HF.1.2 (NEED.out a' w8 (HRr.out.symm.trans (bindP_need hE)) hd' ht')
     have R6 := hQQ ((bindP_ok hE).symm.trans HRr.out)
     have M6 : Hid (MidV w2 w8 F (fun b => b = w.heap.size + 1) p kn n D6 F6 ∧ w8.heap[w.heap.size + 1]? = some (.cells pgZ 74 (0,0))) := hQQ ⟨M6',hk6 _ _ HNZ.out M7.out.2⟩
     have h8 := hk6 _ _ nb h7
     have nb8 : ¬ F6 wq.heap.size := fun z => by rcases hf6 _ z with q | q; exact nb q; have := lt_of_heap h7; omega
     clear he hE hk6 hf6
     refine hK _ _ (KC.out _ _ _ M6.out) ?_
     clear hK K
     replace HF := HF.put 30 (.int .i64 x6) (by decide) rfl
     generalize hB8_30 : Act.put _ _ _ = A at HF ⊢
     refine anyC_takeD (i:=7) (v:=.int .i64 (IntKind.i64.wrap (x6 - 1))) (some 31) rfl rfl (by kernel_rfl) (by kernel_rfl) (by kernel_rfl) (fun c a w => FINQ c a _ _ w) (KC.out _ _ _ M6.out) (by exact yieldsC_subI (wanted_none rfl) rfl (HF.get 0 rfl) rfl _ rfl) ?_
     replace HF := HF.put 31 (.int .i64 (IntKind.i64.wrap (x6 - 1))) (by decide) rfl
     generalize hB9_31 : Act.put _ _ _ = A at HF ⊢
     refine anyC_takeD (i:=8) (v:=.agg (pgArr c p q (IntKind.i64.wrap (x6 - 1)))) (some 32) rfl rfl (by kernel_rfl) (by kernel_rfl) (by kernel_rfl) (fun c a w => FINQ c a _ _ w) (KC.out _ _ _ M6.out) (by exact yieldsC_page (wanted_none rfl) _ _ _ _ rfl c p q (IntKind.i64.wrap (x6 - 1)) (HF.get 8 rfl) (HF.get 7 rfl) (HF.get 6 rfl) (HF.get 0 rfl)) ?_
     replace HF := HF.put 32 (.agg (pgArr c p q (IntKind.i64.wrap (x6 - 1)))) (by decide) rfl
     generalize hB10_32 : Act.put _ _ _ = A at HF ⊢
     refine anyC_last (i:=10) (by kernel_rfl) (by kernel_rfl) rfl (wanted_none rfl) (fun K hK => ?_)
     refine wp_store_row 74 _ _ rfl (wq.heap.size) _ (HF.get 3 rfl) (HF.get 0 rfl) 74 pgZ h8 (by kernel_rfl) rfl (pg_one ..) ?_
     have MS := M6.out.1.row (b:=wq.heap.size) (fun q => by omega) nb8 (pgArr c p q (IntKind.i64.wrap (x6 - 1))) h8
     have HS1 := setRow_heap _ (wq.heap.size) pgZ (pgArr c p q (IntKind.i64.wrap (x6 - 1))) _ _ h8
     have HS2 := setRow_oth (cs:=pgArr c p q (IntKind.i64.wrap (x6 - 1))) M6.out.2 (show w.heap.size + 1 ≠ wq.heap.size by omega)
     refine hK _ _ (KC.out _ _ _ ⟨MS,HS2⟩) (FINE _ _ ⟨(.pointer (some ⟨p,0,none⟩)),(.agg c.arr),(.int .i64 q),(.pointer (some ⟨p,0,none⟩)),(.agg c.arr),(.int .i64 q),(.int .i64 x6),(.int .i64 (IntKind.i64.wrap (x6 - 1))),(.agg (pgArr c p q (IntKind.i64.wrap (x6 - 1)))),wq.heap.size,x6,D6,F6,?_,⟨MS,HS2,HS1,lb,nb8⟩,R6.out⟩)
     rw [← hB10_32,← hB9_31,← hB8_30,← hB7_12,← hB6_29,← hB5_28,← hB4_27,← hB3_26,← hB2_25,← hB1_24,put_com (i:=12) (j:=30) (by decide),put_com (i:=12) (j:=31) (by decide),put_com (i:=12) (j:=32) (by decide)]; rfl
 · rw [if_neg hin] at hRr
   have PL := hQQ (xplace_out HR.out w2 ad (by unfold Cfg.us at hin; show ad < userV c.cp c.pg c.st c.ca c.bi ∨ userV c.cp c.pg c.st c.ca c.bi + 32 * c.pg ≤ ad; omega))
   have PL := hQQ (show Calls Tryz.prog 16 #[.agg c.arr,.int .i64 ad] w2 (Gives w2 (.tuple #[.int .i64 0,.int .i64 0,.bool false])) from PL.out)
   clear hin
   go_enter Tryz.func75,Tryz.ntmps75
   go_wp2_with (refine wpList_load_rowG rfl 28 _ rfl _ rfl 28 _ _ _ L2.out Tryz.underlying28 rfl (by kernel_rfl) ?_)
   refine PL.out.mono ?_
   rintro e w3 ⟨rfl,h3⟩
   have M3 := hQQ (And.intro (M0.out.1.more h3) (h3.block M0.out.2))
   clear h3
   have MZ := M3.out.1.row (b:=w.heap.size + 1) (fun _ => rfl) (M3.out.1.off HZL.out HNZ.out) pgZ M3.out.2
   have HZ := setRow_heap _ (w.heap.size + 1) pgZ pgZ _ _ M3.out.2
   obtain ⟨wz,ez⟩ : ∃ wz,World.setRow w3 (w.heap.size + 1) pgZ = wz := ⟨_,rfl⟩
   have Z0 := hQQ M3.out.2
   rw [ez] at MZ HZ
   have FIN := hQQ (DONE.out none wz D F (hRr.symm) MZ)
   clear MZ
   go_wp2_with (first | (refine wpList_zero rfl rfl ?_) | (refine wpList_store_row rfl 74 _ _ rfl _ _ rfl rfl 74 _ Z0.out (by kernel_rfl) rfl (by kernel_rfl) ?_))
   refine bodyPost_ret (results_row3 rfl _ _ (w.heap.size + 1) 74 pgZ _ _ rfl HZ Tryz.underlying74 rfl (by kernel_rfl)) rfl ?_
   exact FIN.out
theorem readP_ok {a x : Int} {kn : Int → Option Int} {D D' : List KV} (h : readP a kn D = .ok x D') : D' = D ∧ wordV kn D a = some x := by
 unfold readP at h
 split at h
 · cases h
 · rename_i y e; cases h; exact ⟨rfl,e⟩
theorem w64_toInt (b : BitVec 64) : W64 b.toInt := by
 have h1 := BitVec.toInt_lt (x:=b)
 have h2 := BitVec.le_toInt (x:=b)
 unfold W64; omega
theorem set_w64 {b : Int} (h : W64 b) (i : Int) : W64 (setV b i) := by
 unfold setV; split
 · exact w64_toInt _
 · exact h
theorem clear_w64 {b : Int} (h : W64 b) (i : Int) : W64 (clearV b i) := by
 unfold clearV; split
 · exact w64_toInt _
 · exact h
theorem first_b (b n : Int) : slFirstV b n = -1 ∨ (0 ≤ slFirstV b n ∧ slFirstV b n < endN n ∧ slFirstV b n ≤ 31) := by
 unfold slFirstV offN
 split
 · rename_i j hj
   have := List.mem_of_find?_eq_some hj
   simp at this
   have he : endN n ≤ 32 := by unfold endN; omega
   omega
 · exact .inl rfl
theorem good_pgPut {pg st : Int} {n : Nat} (H : PgIn pg st n) {q k b : Int} (hq : isPage pg q = true) (hb : W64 b) : Good n (fun _ => True) (pgPutP pg st q k b) := by
 have PB := page_b H hq
 unfold pgPutP
 exact good_ite (fun _ => good_bind (good_drop H _) fun _ _ => good_pure n trivial) (fun _ => good_bind (good_write n PB.2.2.2.2 PB.2.2.2.1 hb) fun _ _ => good_bind (good_write n PB.2.1.2.2 PB.2.1.2.1 (by have := cnt_b b k; unfold W64; omega)) fun _ _ => good_pure n trivial)
theorem o_setG {x i : Int} (h : W64 x) (w : World) : Calls Tryz.prog 40 #[.int .i64 x,.int .i64 i] w (Gives w (.int .i64 (setV x i))) := (o_set x i h.1 h.2 w).mono fun e w' q => ⟨q.1,q.2 ▸ More.refl _⟩
theorem o_clearG {x i : Int} (h : W64 x) (w : World) : Calls Tryz.prog 76 #[.int .i64 x,.int .i64 i] w (Gives w (.int .i64 (clearV x i))) := (o_clear x i h.1 h.2 w).mono fun e w' q => ⟨q.1,q.2 ▸ More.refl _⟩
theorem taken_read {us pg st a : Int} {kn : Int → Option Int} {D D' : List KV} {q k i : Int} {t : Bool} (h : takenP us pg st a kn D = .ok (some (q,k,i,t)) D') : ∃ b,wordV kn D' (bA pg st q) = some b ∧ t = hasB b i := by
 unfold takenP at h
 split at h
 · cases hk : ekindP pg st ((a - us) / 32) kn D with
   | need a' => rw [bindP_need hk] at h; cases h
   | ok x D1 =>
     rw [bindP_ok hk] at h
     unfold tkRest at h
     split at h
     · cases h
     · split at h
       · cases h
       · cases hb : readP (bA pg st ((a - us) / 32)) kn D1 with
         | need a' => rw [bindP_need hb] at h; cases h
         | ok b D2 =>
           rw [bindP_ok hb] at h
           obtain ⟨rfl,hw⟩ := readP_ok hb
           cases h
           exact ⟨b,hw,rfl⟩
 · cases h
def tkYes : TkA → Option (Int × Int × Int)
 | some (q,k,i,true) => some (q,k,i)
 | _ => none
theorem tkYes_some {x : TkA} {q k i : Int} (h : tkYes x = some (q,k,i)) : x = some (q,k,i,true) := by
 unfold tkYes at h
 split at h
 · cases h; rfl
 · cases h
def lookRest : Option (Int × Int × Int) → Prg (Int × Bool)
 | some (_,k,_) => pureP (k,true)
 | none => pureP (0,false)
def lookP (us pg st a : Int) : Prg (Int × Bool) := bindP (takenP us pg st a) fun x => lookRest (tkYes x)
def grabP (us pg st k : Int) : Prg (Int × Bool) :=
 bindP (giverP pg st k) fun q => if q = -1 then pureP (0,false) else bindP (readP (bA pg st q)) fun b =>
   if slFirstV b (slotsC k) = -1 then pureP (0,false) else bindP (readP (cA pg st q)) fun was =>
     bindP (pgPutP pg st q k (setV b (slFirstV b (slotsC k)))) fun _ => bindP (movesP pg st q k was) fun _ => pureP (us + 32 * q + slFirstV b (slotsC k) * szV k,true)
def backRest (pg st q k i : Int) : Prg Bool := bindP (readP (cA pg st q)) fun was => bindP (readP (bA pg st q)) fun b => bindP (pgPutP pg st q k (clearV b i)) fun _ => bindP (movesP pg st q k was) fun _ => pureP true
def backTo (pg st : Int) : Option (Int × Int × Int) → Prg Bool
 | some (q,k,i) => backRest pg st q k i
 | none => pureP false
def backP (us pg st a : Int) : Prg Bool := bindP (takenP us pg st a) fun x => backTo pg st (tkYes x)
theorem sound_look (us pg st a : Int) : Sound (lookP us pg st a) := sound_bind (sound_taken _ _ _ _) fun x => by
 match tkYes x with
 | some (_,k,_) => exact sound_pure _
 | none => exact sound_pure _
theorem sound_grab (us pg st k : Int) : Sound (grabP us pg st k) := sound_bind (sound_giver _ _ _) fun q => sound_ite (sound_pure _) (sound_bind (sound_read _) fun b => sound_ite (sound_pure _) (sound_bind (sound_read _) fun was => sound_bind (sound_pgPut _ _ _ _ _) fun _ => sound_bind (sound_moves _ _ _ _ _) fun _ => sound_pure _))
theorem sound_back (us pg st a : Int) : Sound (backP us pg st a) := sound_bind (sound_taken _ _ _ _) fun x => by
 match tkYes x with
 | some (q,k,i) => exact sound_bind (sound_read _) fun _ => sound_bind (sound_read _) fun _ => sound_bind (sound_pgPut _ _ _ _ _) fun _ => sound_bind (sound_moves _ _ _ _ _) fun _ => sound_pure _
 | none => exact sound_pure _
section
variable {pg st : Int} {n : Nat} (H : HdIn pg st n)
include H
theorem good_look (us a : Int) : Good n (fun _ => True) (lookP us pg st a) := good_bind (good_taken H.toPgIn a) fun x _ => by
 match tkYes x with
 | some (_,k,_) => exact good_pure n trivial
 | none => exact good_pure n trivial
theorem good_grab (us k : Int) : Good n (fun _ => True) (grabP us pg st k) := good_bind (good_giver H k) fun q hq => good_ite (fun _ => good_pure n trivial) (fun h => by
 have hq := hq.resolve_left h
 have PB := page_b H.toPgIn hq
 exact good_bind (good_read n PB.2.2.2.1) fun b hb => good_ite (fun _ => good_pure n trivial) (fun _ => good_bind (good_read n PB.2.1.2.1) fun was _ => good_bind (good_pgPut H.toPgIn hq (set_w64 hb _)) fun _ _ => good_bind (good_moves H q k was hq) fun _ _ => good_pure n trivial))
theorem good_backRest {q : Int} (hq : isPage pg q = true) (k i : Int) : Good n (fun _ => True) (backRest pg st q k i) := by
 have PB := page_b H.toPgIn hq
 exact good_bind (good_read n PB.2.1.2.1) fun was _ => good_bind (good_read n PB.2.2.2.1) fun b hb => good_bind (good_pgPut H.toPgIn hq (clear_w64 hb _)) fun _ _ => good_bind (good_moves H q k was hq) fun _ _ => good_pure n trivial
theorem good_back (us a : Int) : Good n (fun _ => True) (backP us pg st a) := good_bind (good_taken H.toPgIn a) fun x hx => by
 match e : tkYes x with
 | some (q,k,i) => exact good_backRest H (hx q k i true (tkYes_some e)).1 k i
 | none => exact good_pure n trivial
end
theorem g_Grab {c : Cfg} (R : c.Ok) {n : Nat} (H : HdIn c.pg c.st n) (hn : n ≤ 10000) (F : Nat → Prop) (p : Nat) (kn : Int → Option Int) (D : List KV) (k : Int) (w : World) (hv : ViewAt w F p kn D) (hk : OkK kn) (hD : InvD n D) (bt : Nat) (hs : SzAt bt w) (nF0 : ¬ F 0) (nFb : ¬ F bt) :
   Calls Tryz.prog 15 #[.pointer (some ⟨p,0,none⟩),.agg c.arr,.int .i64 k] w (WentV w F p kn (fun x : Int × Bool => .tuple #[.int .i64 x.1,.bool x.2]) (grabP c.us c.pg c.st k kn D)) := by
 obtain ⟨Rr,hRr⟩ : ∃ Rr,grabP c.us c.pg c.st k kn D = Rr := ⟨_,rfl⟩
 rw [hRr]
 obtain ⟨w1,e1,hl1,m1,s1⟩ := entry1 w (.cells c.arr 28)
 have nFl : ¬ F w.heap.size := fun q => by have := hv.lt _ q; omega
 have MM := hQQ m1
 have L0 := hQQ hl1
 have M0 : Hid (MidV w1 w1 F (fun _ => False) p kn n D F) := hQQ (MidV.begin (hv.more m1) hD)
 have KL : Hid (∀ wr D' F',MidV w1 wr F (fun _ => False) p kn n D' F' → wr.heap[w.heap.size]? = some (.cells c.arr 28 (0,0))) := hQQ fun wr D' F' h => mid_own h L0.out nFl (fun q => q)
 have NEED : Hid (∀ a w2,Rr = .need a → DeadAt w2 p a → Turned (fun b => F b ∨ False) w1 w2 → WentV w F p kn (fun x : Int × Bool => Value.tuple #[.int .i64 x.1,.bool x.2]) Rr (.panicked (endOf p)) w2) := hQQ fun a w2 e hd ht => mid_need MM.out (fun _ q => q.elim) e hd ht
 have DONE : Hid (∀ x w2 D' F',Rr = .ok x D' → MidV w1 w2 F (fun _ => False) p kn n D' F' → WentV w F p kn (fun x : Int × Bool => Value.tuple #[.int .i64 x.1,.bool x.2]) Rr (.returned ((fun x : Int × Bool => Value.tuple #[.int .i64 x.1,.bool x.2]) x)) w2) := hQQ fun x w2 D' F' e h => mid_done MM.out (fun _ q => q.elim) h e
 have HK := hQQ hk
 have HR := hQQ R
 have HH := hQQ H
 clear hl1 m1 hv hD hk R H nFl
 have SZ : Hid (∀ wr D' F',MidV w1 wr F (fun _ => False) p kn n D' F' → SzAt bt wr) := hQQ fun wr D' F' h => (hs.more MM.out).keep h.turn (by rintro (q | q); exact nF0 q; exact q) (by rintro (q | q); exact nFb q; exact q)
 have NF : Hid (∀ wr D' F',MidV w1 wr F (fun _ => False) p kn n D' F' → ¬ F' 0 ∧ ¬ F' bt) := hQQ fun wr D' F' h => ⟨h.off (hs.more MM.out).lt0 nF0,h.off (hs.more MM.out).lt nFb⟩
 have HRr := hQQ hRr
 unfold grabP at HRr
 have pg1 := HR.out.pg1
 have pg2 := HR.out.pg2
 have UB := hQQ (userB HR.out)
 have HN := hQQ hn
 clear hRr hs nF0 nFb
 have hmf : ∀ (fn : Fn) (first cap : Array Value) (w : World),(Instr.makeFunc fn first cap).run Tryz.prog w = .ok (.func fn first cap) w := fun _ _ _ _ => rfl
 go_enter_defers Tryz.func15,Tryz.ntmps15
 go_wp2_with (refine wpList_load_rowG rfl 28 _ rfl _ rfl 28 _ _ _ L0.out Tryz.underlying28 rfl (by kernel_rfl) ?_)
 refine (g_giver HR.out HH.out hn F p kn D k w1 M0.out.view HK.out M0.out.inv bt (SZ.out _ _ _ M0.out) (NF.out _ _ _ M0.out).1 (NF.out _ _ _ M0.out).2).mono ?_
 intro e w2 he
 rcases M0.out.step (More.refl _) HK.out (good_giver HH.out k) he with ⟨a',hE,rfl,hd',ht',_⟩ | ⟨x2,D2,F2,hE,rfl,M2,hq2,hk2,hf2⟩
 · exact NEED.out a' w2 (HRr.out.symm.trans (bindP_need hE)) hd' ht'
 have L2 := hQQ (KL.out _ _ _ M2)
 have R2 := hQQ ((bindP_ok hE).symm.trans HRr.out)
 have M2 := hQQ M2
 clear he hE hk2 hf2
 by_cases eq : x2 = -1
 · have d0 : (x2 == -1) = true := by simp [eq]
   have FIN := hQQ (DONE.out (0,false) w2 D2 F2 (by have := R2.out; rw [if_pos eq] at this; exact this.symm) M2.out)
   clear eq R2
   go_wp2_with fail
   refine ⟨_,results_tmp2 (t:=6) (u:=7) rfl _ _ _,?_⟩
   exact FIN.out
 have d0 : (x2 == -1) = false := by simpa using eq
 have hq := hq2.resolve_left eq
 have R2 := hQQ (show bindP (readP (bA c.pg c.st x2)) (fun b => if slFirstV b (slotsC k) = -1 then pureP (0,false) else bindP (readP (cA c.pg c.st x2)) fun was => bindP (pgPutP c.pg c.st x2 k (setV b (slFirstV b (slotsC k)))) fun _ => bindP (movesP c.pg c.st x2 k was) fun _ => pureP (c.us + 32 * x2 + slFirstV b (slotsC k) * szV k,true)) kn D2 = Rr from by have := R2.out; rw [if_neg eq] at this; exact this)
 have HQ := hQQ hq
 have PB := hQQ (page_b HH.out.toPgIn hq)
 clear eq hq2 hq
 generalize x2 = q at *
 obtain ⟨w3,e3,b3,m3⟩ := new_page w2 c p q k
 have M3 := hQQ (M2.out.more m3)
 have nFg : ¬ F2 w2.heap.size := fun z => by have := M2.out.view.lt _ z; omega
 have lg : w1.heap.size ≤ w2.heap.size := M2.out.size
 go_wp2_with (first | (refine wpList_load_row rfl 28 _ rfl _ rfl 28 _ _ _ L2.out Tryz.underlying28 rfl (by kernel_rfl) ?_) | (refine wpList_page rfl _ _ _ _ rfl c p q k rfl rfl rfl rfl ?_) | (refine wpList_store_row rfl 74 _ _ rfl _ _ rfl rfl 74 _ (row_new _ _ _) (by kernel_rfl) rfl (pg_one ..) (e3.symm ▸ ?_)) | (refine wpList_load_row rfl 74 _ rfl _ rfl 74 _ _ _ b3 Tryz.underlying74 rfl (by kernel_rfl) ?_))
 have BG := hQQ b3
 clear e3 m3 b3 M2 L2
 generalize w2.heap.size = gb at BG nFg lg
 refine (g_bits HR.out HH.out.toPgIn F2 p kn D2 q k hn HQ.out w3 M3.out.view HK.out M3.out.inv).mono ?_
 intro e w4 he
 rcases M3.out.step (More.refl _) HK.out (good_read n PB.out.2.2.2.1) he with ⟨a',hE,rfl,hd',ht',_⟩ | ⟨b,D4,F4,hE,rfl,M4,hb4,hk4,hf4⟩
 · exact NEED.out a' w4 (R2.out.symm.trans (bindP_need hE)) hd' ht'
 have R4 := hQQ ((bindP_ok hE).symm.trans R2.out)
 obtain ⟨rfl,hwb⟩ := readP_ok hE
 have WB := hQQ hwb
 have nFg4 : ¬ F4 gb := fun z => (hf4 gb z).elim nFg (fun q => by have := lt_of_heap BG.out; omega)
 have BG := hQQ (hk4 _ _ nFg BG.out)
 have M4 := hQQ M4
 have HB0 := hQQ hb4
 clear he hE hk4 hf4 nFg M3 R2 hwb hb4
 have hsl := slots_in k
 have SL := hQQ (fun (W : World) (hW : SzAt bt W) => g_slots k W hW)
 have SF := hQQ (fun W => o_first b (slotsC k) (by omega) (by omega) W)
 have CS := hQQ (fun (W : World) (hW : SzAt bt W) => g_size k W hW)
 have R4 := hQQ R4.out
 have hfb := first_b b (slotsC k)
 have hsz : 0 ≤ szV k ∧ szV k ≤ 16 := by unfold szV; (repeat' split) <;> omega
 obtain ⟨i,hi⟩ : ∃ i,slFirstV b (slotsC k) = i := ⟨_,rfl⟩
 obtain ⟨sz,hsz'⟩ : ∃ sz,szV k = sz := ⟨_,rfl⟩
 rw [hi] at SF R4 hfb
 rw [hsz'] at CS R4 hsz
 clear hi hsz'
 go_wp2_with fail
 refine (SL.out w4 (SZ.out _ _ _ M4.out)).mono ?_
 rintro e w5 ⟨rfl,h5⟩
 have M5 := hQQ (M4.out.more h5)
 have BG := hQQ (h5.block BG.out)
 clear h5 M4
 go_wp2_with fail
 refine (SF.out w5).mono ?_
 rintro e w6 ⟨rfl,h6⟩
 have M5 := hQQ (M5.out.more h6)
 have BG := hQQ (h6.block BG.out)
 clear h6
 by_cases ei : i = -1
 · have d1 : (i == -1) = true := by simp [ei]
   have FIN := hQQ (DONE.out (0,false) w6 D4 F4 (by have := R4.out; rw [if_pos ei] at this; exact this.symm) M5.out)
   clear ei R4
   go_wp2_with fail
   refine ⟨_,results_tmp2 (t:=6) (u:=7) rfl _ _ _,?_⟩
   exact FIN.out
 have d1 : (i == -1) = false := by simpa using ei
 have hfb := hfb.resolve_left ei
 have R4 := hQQ (show bindP (readP (cA c.pg c.st q)) (fun was => bindP (pgPutP c.pg c.st q k (setV b i)) fun _ => bindP (movesP c.pg c.st q k was) fun _ => pureP (c.us + 32 * q + i * sz,true)) kn D4 = Rr from by have := R4.out; rw [if_neg ei] at this; exact this)
 have hb1 : 0 ≤ i * sz := Int.mul_nonneg hfb.1 hsz.1
 have hb2 : i * sz ≤ 31 * 16 := Int.mul_le_mul hfb.2.2 hsz.2 hsz.1 (by omega)
 have t1 : IntKind.i64.wrap (i * sz) = i * sz := wrap_in (by omega) (by omega)
 have hqq := isPage_iff.1 HQ.out
 have hub := UB.out
 have t2 : IntKind.i64.wrap (c.us + 32 * q + i * sz) = c.us + 32 * q + i * sz := wrap_in (by unfold Cfg.us; omega) (by unfold Cfg.us; omega)
 have AD := hQQ (fun W => by have := xaddr HR.out W q; rw [show addrV c.cp c.pg c.st c.ca c.bi q = c.us + 32 * q from by unfold addrV; rw [if_pos hqq]; rfl] at this; exact this)
 have AD := hQQ (show ∀ W,Calls Tryz.prog 41 #[.agg c.arr,.int .i64 q] W (Gives W (.int .i64 (c.us + 32 * q))) from AD.out)
 obtain ⟨adr,hadr⟩ : ∃ adr,c.us + 32 * q = adr := ⟨_,rfl⟩
 rw [hadr] at AD R4 t2
 clear ei hfb hsz hb1 hb2 hub hadr hqq hsl
 go_wp2_with (refine wpList_load_row rfl 74 _ rfl _ rfl 74 _ _ _ BG.out Tryz.underlying74 rfl (by kernel_rfl) ?_)
 refine (g_moves HR.out HH.out.toPgIn HN.out F4 p kn D4 q k HQ.out w6 M5.out.view HK.out M5.out.inv).mono ?_
 intro e w7 he
 rcases M5.out.stepR (More.refl _) HK.out (good_read n PB.out.2.1.2.1) he with ⟨a',hE,rfl,hd',ht',_⟩ | ⟨was,D6,F6,vm,hE,rfl,⟨gm,wm,rfl,hgm,hwm,hne,nm,nw,bm,bw⟩,M6,hq6,hk6,hf6⟩
 · exact NEED.out a' w7 (R4.out.symm.trans (bindP_need hE)) hd' ht'
 have R6 := hQQ ((bindP_ok hE).symm.trans R4.out)
 obtain ⟨rfl,_⟩ := readP_ok hE
 have NG6 := hQQ (show ¬ F6 gb from fun z => (hf6 gb z).elim nFg4 (fun q => by have := lt_of_heap BG.out; omega))
 have BG := hQQ (hk6 _ _ nFg4 BG.out)
 have BM := hQQ bm
 have BW := hQQ bw
 have NM := hQQ nm
 have NW := hQQ nw
 have M6 := hQQ M6
 clear he hE bm bw nm nw hgm hwm hne hk6 hf6 hq6 M5 R4 nFg4
 have L6 := hQQ (KL.out _ _ _ M6.out)
 have YB := hQQ (fun W (hW : More w7 W) => g_bitsK HR.out HH.out.toPgIn F6 p kn D6 q k b HN.out HQ.out W (M6.out.view.more hW) WB.out)
 have YS := hQQ (fun W => o_setG (i:=i) HB0.out W)
 obtain ⟨nb',hnb'⟩ : ∃ nb',setV b i = nb' := ⟨_,rfl⟩
 have HB := hQQ (set_w64 HB0.out i)
 have HC := hQQ (And.intro (cnt_b (setV b i) k).1 (cnt_b (setV b i) k).2.1)
 rw [hnb'] at YS R6 HB HC
 clear hnb'
 go_wp2_with fail
 refine wp_region_more_tail 5 (by kernel_rfl) (by kernel_rfl) ?_
 simp only [List.take_succ_cons,List.take_zero,List.drop_succ_cons,List.drop_zero]
 refine wpQuiet_load_row rfl 74 _ rfl gb rfl 74 _ _ _ (fun W hW => hW.block BG.out) Tryz.underlying74 rfl (by kernel_rfl) ?_
 refine wpQuiet_load_row rfl 74 _ rfl gb rfl 74 _ _ _ (fun W hW => hW.block BG.out) Tryz.underlying74 rfl (by kernel_rfl) ?_
 iterate 1
   with_reducible refine wpQuiet_step (fun K hK => ?_)
   go_simp
   first
   | (refine hK _ ?_; clear hK K)
   | (apply Exists.intro
      refine ⟨fun W hW => ?_,hK _ ?_⟩
      first
      | (go_at_call 37; exact Calls.more hW (YB.out W hW))
      | (go_simp; try rfl)
      clear hK K)
 iterate 1
   with_reducible refine wpQuiet_step (fun K hK => ?_)
   go_simp
   first
   | (refine hK _ ?_; clear hK K)
   | (apply Exists.intro
      refine ⟨fun W hW => ?_,hK _ ?_⟩
      first
      | (go_simp; try rfl)
      clear hK K)
 iterate 1
   with_reducible refine wpQuiet_step (fun K hK => ?_)
   go_simp
   first
   | (refine hK _ ?_; clear hK K)
   | (apply Exists.intro
      refine ⟨fun W hW => ?_,hK _ ?_⟩
      first
      | (go_at_call 40; exact Calls.more hW (YS.out W))
      | (go_simp; try rfl)
      clear hK K)
 refine wpQuiet_nil ?_
 intro w8 h8
 have M8 := hQQ (M6.out.more h8)
 have BM8 := hQQ (h8.block BM.out)
 have BW8 := hQQ (h8.block BW.out)
 clear h8
 go_wp2_with fail
 refine (g_put HR.out HH.out.toPgIn hn F6 p kn D6 q k nb' HQ.out HB.out HC.out w8 M8.out.view HK.out M8.out.inv bt (SZ.out _ _ _ M8.out) (NF.out _ _ _ M8.out).1 (NF.out _ _ _ M8.out).2).mono ?_
 intro e w9 he
 rcases M8.out.step (More.refl _) HK.out (good_pgPut HH.out.toPgIn HQ.out HB.out) he with ⟨a',hE,rfl,hd',ht',hk'⟩ | ⟨x9,D9,F9,hE,rfl,M9,hq9,hk9,hf9⟩
 · have NE := hQQ (NEED.out a')
   have R9 := hQQ (R6.out.symm.trans (bindP_need hE))
   change bodyPostD _ _ _ (Exit.panic (endOf p)) _ _
   refine leaves_cons (f:=64) (args:=#[.pointer (some ⟨gm,0,none⟩),.pointer (some ⟨wm,0,none⟩)]) (by simp) (by simp [go_sem]) ?_
   refine (gd_moves HR.out HH.out p a' q k was gm wm w9 hd' (hk' _ _ NM.out BM8.out) (hk' _ _ NW.out BW8.out) _).mono ?_
   rintro e u' w10 ⟨rfl,rfl,h10⟩
   exact NE.out w10 R9.out (hd'.keep h10 (fun q => q)) (turned_own ht' h10 (fun _ q => q.elim))
 have R9 := hQQ ((bindP_ok hE).symm.trans R6.out)
 have BM9 := hQQ (hk9 _ _ NM.out BM8.out)
 have BW9 := hQQ (hk9 _ _ NW.out BW8.out)
 have NM9 := hQQ (show ¬ F9 gm from fun z => by rcases hf9 _ z with q | q; exact NM.out q; have := lt_of_heap BM8.out; omega)
 have M9 := hQQ M9
 clear he hE hk9 hf9 hq9 M8 BM8 BW8
 have L9 := hQQ (KL.out _ _ _ M9.out)
 have SZ9 := hQQ (SZ.out _ _ _ M9.out)
 clear BG NG6 L6 YB YS HB HC WB HB0 M6 BM BW NM NW SZ NF SL SF R6 L0 M0 d0 d1
 go_wp2_with (refine wpList_load_rowG rfl 28 _ rfl _ rfl 28 _ _ _ L9.out Tryz.underlying28 rfl (by kernel_rfl) ?_)
 refine (AD.out w9).mono ?_
 rintro e w10 ⟨rfl,h10⟩
 have M10 := hQQ (M9.out.more h10)
 have BM10 := hQQ (h10.block BM9.out)
 have BW10 := hQQ (h10.block BW9.out)
 have SZ10 := hQQ (SZ9.out.more h10)
 clear h10 M9 BM9 BW9 SZ9 L9
 go_wp2_with fail
 refine (CS.out w10 SZ10.out).mono ?_
 rintro e w11 ⟨rfl,h11⟩
 have M12 := hQQ (M10.out.more h11)
 have BM12 := hQQ (h11.block BM10.out)
 have BW12 := hQQ (h11.block BW10.out)
 clear h11 M10 BM10 BW10 SZ10
 go_wp2_with fail
 refine leaves_cons (f:=64) (args:=#[.pointer (some ⟨gm,0,none⟩),.pointer (some ⟨wm,0,none⟩)]) (by simp) (by simp [go_sem]) ?_
 refine (g_moves1 HR.out HH.out hn F9 p kn D9 q k was HQ.out gm wm w11 M12.out.view HK.out M12.out.inv BM12.out BW12.out NM9.out _).mono ?_
 rintro e u' w13 ⟨rfl,he⟩
 rcases M12.out.step (More.refl _) HK.out (good_moves HH.out q k was HQ.out) he with ⟨a',hE,rfl,hd',ht',_⟩ | ⟨x11,D11,F11,hE,rfl,M11,_,_,_⟩
 · exact NEED.out a' w13 (R9.out.symm.trans (bindP_need hE)) hd' ht'
 have FIN := hQQ (DONE.out (adr + i * sz,true) w13 D11 F11 (R9.out.symm.trans (bindP_ok hE)) M11)
 refine ⟨_,results_tmp2 (t:=6) (u:=7) rfl _ _ _,?_⟩
 exact FIN.out
end Go.Proofs.YtmafllcmkhgidaaGreatDoor
namespace Go.Proofs.YtmafllcmkhgidaaGreatDoor
def kindV (pg st : Int) (ws : List Int) (p : Int) : Int := if isPage pg p then wAt ws (kA pg st p) else -1
def cntV (pg st : Int) (ws : List Int) (p : Int) : Int := wAt ws (cA pg st p)
def bitV (pg st : Int) (ws : List Int) (p : Int) : Int := wAt ws (bA pg st p)
def put3V (pg st p k x : Int) (ws : List Int) : List Int := ((ws.set (kA pg st p).toNat k).set (cA pg st p).toNat x).set (bA pg st p).toNat 0
def vacBN (pg st : Int) : Nat → Int → List Int → Bool
 | 0,_,_ => true
 | m + 1,q,ws => decide (kindV pg st ws q = 0) && vacBN pg st m (q + 1) ws
def vacB (pg st p n : Int) (ws : List Int) : Bool := thereB pg p n && vacBN pg st n.toNat p ws
def putNV (pg st k : Int) : Nat → Int → List Int → List Int
 | 0,_,ws => ws
 | m + 1,q,ws => putNV pg st k m (q + 1) (put3V pg st q k 0 ws)
def takeV (pg st p n k : Int) (ws : List Int) : Bool × List Int := if fitB k n && vacB pg st p n ws then (true,putNV pg st 7 (n - 1).toNat (p + 1) (put3V pg st p k (if k = 6 then n else 0) (ensureW pg st p n ws).2)) else (false,ws)
def lenV (pg st p : Int) (ws : List Int) : Int := if clsB (kindV pg st ws p) then 1 else if kindV pg st ws p = 6 then max 1 (min (cntV pg st ws p) (pg - p)) else 0
def dropV (pg st p : Int) (ws : List Int) : Int × List Int := (lenV pg st p ws,putNV pg st 0 (lenV pg st p ws).toNat p ws)
def openB (pg st : Int) (ws : List Int) (q : Int) : Bool := mappedV pg st ws (ofV q) && decide (kindV pg st ws q = 0)
def freeB (pg st : Int) (ws : List Int) (q : Int) : Bool := decide (kindV pg st ws q = 0)
def scanV (f : Int → Bool) : Nat → Int → Option Int
 | 0,_ => none
 | m + 1,q => if f q then scanV f m (q + 1) else some q
def seekV (f : Int → Bool) (pg n step : Int) : Nat → Int → Int
 | 0,_ => -1
 | m + 1,p => if p ≤ pg - n then (match scanV f n.toNat p with | none => p | some q => seekV f pg n step m ((q / step + 1) * step)) else -1
def leastV (f : Int → Bool) (pg n step : Int) : Int := seekV f pg n step (pg.toNat + 1) 0
def findV (pg st n step : Int) (ws : List Int) : Int := if 1 ≤ n ∧ 1 ≤ step then (if leastV (openB pg st ws) pg n step = -1 then leastV (freeB pg st ws) pg n step else leastV (openB pg st ws) pg n step) else -1
section
variable {pg st : Int} {n : Nat} (H : PgIn pg st n)
include H
theorem flat_kind (p : Int) : Flat n (ekindP pg st p) (fun ws => (kindV pg st ws p,ws)) := by
 unfold ekindP kindV
 cases h : isPage pg p with
 | true => exact flat_eq (flat_read (by have := (page_b H h).1.1; omega) (page_b H h).1.2.1) (fun ws _ => by simp)
 | false => exact flat_eq (flat_pure n (-1)) (fun ws _ => by simp)
theorem flat_put {p : Int} (h : isPage pg p = true) {k x : Int} (hk : W64 k) (hx : W64 x) : Flat n (eputP pg st p k x) (fun ws => ((),put3V pg st p k x ws)) := by
 obtain ⟨⟨a0,a1,a2⟩,⟨b0,b1,b2⟩,c0,c1,c2⟩ := page_b H h
 exact flat_bind (flat_write (by omega) a1 a2 hk) (fun _ => flat_bind (flat_write (by omega) b1 b2 hx) (fun _ => flat_write (by omega) c1 c2 (by unfold W64; omega)))
theorem flat_vacN (m : Nat) : ∀ q,Flat n (evacN pg st m q) (fun ws => (vacBN pg st m q ws,ws)) := by
 induction m with
 | zero => intro q; exact flat_pure n true
 | succ m ih =>
   intro q
   refine flat_eq (flat_bind (flat_kind H q) (fun k => flat_ite (fun _ => ih (q + 1)) (fun _ => flat_pure n false))) (fun ws _ => ?_)
   show _ = (decide (kindV pg st ws q = 0) && vacBN pg st m (q + 1) ws,ws)
   by_cases e : kindV pg st ws q = 0 <;> simp [e]
theorem flat_vac (p m : Int) : Flat n (evacP pg st p m) (fun ws => (vacB pg st p m ws,ws)) := by
 refine flat_eq (flat_ite (fun _ => flat_vacN H m.toNat p) (fun _ => flat_pure n false)) (fun ws _ => ?_)
 unfold vacB
 cases thereB pg p m <;> simp
theorem flat_putN {k : Int} (hk : W64 k) (m : Nat) : ∀ q,(∀ i : Nat,i < m → isPage pg (q + i) = true) → Flat n (eputN pg st k m q) (fun ws => ((),putNV pg st k m q ws)) := by
 induction m with
 | zero => intro q _; exact flat_pure n ()
 | succ m ih =>
   intro q h
   exact flat_bind (flat_put H (by simpa using h 0 (by omega)) hk (by unfold W64; omega)) (fun _ => ih _ (fun i hi => by have := h (i + 1) (by omega); rwa [show q + ((i + 1 : Nat) : Int) = q + 1 + (i : Int) by omega] at this))
theorem flat_take (p m k : Int) (hk : W64 k) (hm : W64 m) : Flat n (etakeP pg st p m k) (takeV pg st p m k) := by
 unfold etakeP
 have hx : W64 (if k = 6 then m else 0) := by
   split
   · exact hm
   · unfold W64; omega
 cases h : thereB pg p m with
 | false =>
   unfold evacP
   rw [h]
   have z : Flat n (pureP false) (takeV pg st p m k) := flat_eq (flat_pure n false) (fun ws _ => by
     unfold takeV vacB
     rw [h]
     simp)
   by_cases hf : fitB k m = true
   · rw [if_pos hf]; exact z
   · rw [if_neg hf]; exact z
 | true =>
   obtain ⟨q0,q1,q2⟩ := there_iff.1 h
   refine flat_eq (flat_ite (fun _ => flat_bind (flat_vac H p m) (fun b => flat_ite (fun _ => flat_bind (flat_ensure H.toTblIn p m) (fun _ => flat_bind (flat_put H (isPage_iff.2 ⟨by omega,by omega⟩) hk hx) (fun _ => flat_bind (flat_putN H (by unfold W64; omega) (m - 1).toNat (p + 1) (fun i hi => isPage_iff.2 ⟨by omega,by omega⟩)) (fun _ => flat_pure n true)))) (fun _ => flat_pure n false))) (fun _ => flat_pure n false)) (fun ws _ => ?_)
   unfold takeV
   by_cases hf : fitB k m = true <;> by_cases hv : vacB pg st p m ws = true <;> simp [hf,hv]
theorem flat_len (p : Int) : Flat n (elenP pg st p) (fun ws => (lenV pg st p ws,ws)) := by
 cases h : isPage pg p with
 | true =>
   obtain ⟨_,⟨b0,b1,_⟩,_⟩ := page_b H h
   refine flat_eq (flat_bind (flat_kind H p) (fun k => flat_ite (fun _ => flat_pure n 1) (fun _ => flat_ite (fun _ => flat_bind (flat_read (a:=cA pg st p) (by omega) b1) (fun x => flat_pure n (max 1 (min x (pg - p))))) (fun _ => flat_pure n 0)))) (fun ws _ => ?_)
   unfold lenV cntV
   by_cases e : clsB (kindV pg st ws p) = true
   · simp only [if_pos e]
   · by_cases e2 : kindV pg st ws p = 6
     · simp only [if_neg e,if_pos e2]
     · simp only [if_neg e,if_neg e2]
 | false =>
   unfold elenP ekindP
   rw [h]
   refine flat_eq (flat_pure n (0 : Int)) (fun ws _ => ?_)
   unfold lenV kindV
   rw [h]; rfl
theorem len_b (p : Int) (ws : List Int) : lenV pg st p ws = 0 ∨ isPage pg p = true ∧ 1 ≤ lenV pg st p ws ∧ lenV pg st p ws ≤ pg - p := by
 cases h : isPage pg p with
 | true =>
   have := isPage_iff.1 h
   unfold lenV
   by_cases e : clsB (kindV pg st ws p) = true
   · rw [if_pos e]; exact .inr ⟨rfl,by omega,by omega⟩
   · by_cases e2 : kindV pg st ws p = 6
     · rw [if_neg e,if_pos e2]; exact .inr ⟨rfl,by omega,by omega⟩
     · rw [if_neg e,if_neg e2]; exact .inl rfl
 | false =>
   refine .inl ?_
   unfold lenV kindV
   rw [h]; rfl
theorem flat_drop (p : Int) : Flat n (edropP pg st p) (dropV pg st p) :=
 flat_eq (flat_bindQ (Q:=fun x : Int => x = 0 ∨ isPage pg p = true ∧ 1 ≤ x ∧ x ≤ pg - p) (flat_len H p) (fun ws _ => len_b H p ws) (fun x hx => flat_bind (flat_putN H (by unfold W64; omega) x.toNat p (fun i hi => by
   rcases hx with rfl | ⟨h,h1,h2⟩
   · simp at hi
   · have := isPage_iff.1 h; exact isPage_iff.2 ⟨by omega,by omega⟩)) (fun _ => flat_pure n x))) (fun ws _ => rfl)
theorem flat_free (q : Int) : Flat n (efreeP pg st q) (fun ws => (freeB pg st ws q,ws)) := flat_bind (flat_kind H q) (fun k => flat_pure n (decide (k = 0)))
theorem flat_open (q : Int) : Flat n (eopenP pg st q) (fun ws => (openB pg st ws q,ws)) := by
 refine flat_eq (flat_bind (flat_mapped H.toTblIn (ofV q)) (fun b => flat_ite (fun _ => flat_free H q) (fun _ => flat_pure n false))) (fun ws _ => ?_)
 unfold openB freeB
 by_cases e : mappedV pg st ws (ofV q) = true <;> simp [e]
theorem flat_scanN {f : Int → Prg Bool} {g : List Int → Int → Bool} (hf : ∀ q,Flat n (f q) (fun ws => (g ws q,ws))) (m : Nat) : ∀ q,Flat n (escanN f m q) (fun ws => (scanV (g ws) m q,ws)) := by
 induction m with
 | zero => intro q; exact flat_pure n none
 | succ m ih =>
   intro q
   refine flat_eq (flat_bind (hf q) (fun b => flat_ite (fun _ => ih (q + 1)) (fun _ => flat_pure n (some q)))) (fun ws _ => ?_)
   show _ = ((if g ws q then scanV (g ws) m (q + 1) else some q),ws)
   by_cases e : g ws q = true <;> simp [e]
theorem flat_seekN {f : Int → Prg Bool} {g : List Int → Int → Bool} (hf : ∀ q,Flat n (f q) (fun ws => (g ws q,ws))) (m step : Int) (j : Nat) : ∀ p,Flat n (eseekN f pg m step j p) (fun ws => (seekV (g ws) pg m step j p,ws)) := by
 induction j with
 | zero => intro p; exact flat_pure n (-1)
 | succ j ih =>
   intro p
   refine flat_eq (flat_ite (fun _ => flat_bind (flat_scanN H hf m.toNat p) (fun r => (?_ : Flat n _ (fun ws => ((match r with | none => p | some q => seekV (g ws) pg m step j ((q / step + 1) * step)),ws))))) (fun _ => flat_pure n (-1))) (fun ws _ => ?_)
   · cases r with
     | none => exact flat_pure n p
     | some q => exact ih _
   · show _ = ((if p ≤ pg - m then (match scanV (g ws) m.toNat p with | none => p | some q => seekV (g ws) pg m step j ((q / step + 1) * step)) else -1),ws)
     by_cases e : p ≤ pg - m <;> simp [e]
theorem flat_find (m step : Int) : Flat n (efindP pg st m step) (fun ws => (findV pg st m step ws,ws)) := by
 refine flat_eq (flat_ite (fun _ => flat_bind (flat_seekN H (flat_open H) m step (pg.toNat + 1) 0) (fun p => flat_ite (fun _ => flat_seekN H (flat_free H) m step (pg.toNat + 1) 0) (fun _ => flat_pure n p))) (fun _ => flat_pure n (-1))) (fun ws _ => ?_)
 unfold findV leastV
 by_cases e : 1 ≤ m ∧ 1 ≤ step
 · simp only [if_pos e]
   by_cases e2 : seekV (openB pg st ws) pg m step (pg.toNat + 1) 0 = -1
   · simp only [if_pos e2]
   · simp only [if_neg e2]
 · simp only [if_neg e]
end
theorem kind_in {pg st : Int} {ws : List Int} {p : Int} (h : isPage pg p = true) : kindV pg st ws p = wAt ws (kA pg st p) := by unfold kindV; rw [h]; rfl
theorem kind_out {pg st : Int} {ws : List Int} {p : Int} (h : isPage pg p = false) : kindV pg st ws p = -1 := by unfold kindV; rw [h]; rfl
section
variable {pg st : Int} {n : Nat} (H : PgIn pg st n)
include H
theorem put3_len (p k x : Int) (ws : List Int) : (put3V pg st p k x ws).length = ws.length := by simp [put3V]
theorem put3_at {p : Int} (h : isPage pg p = true) (k x : Int) {ws : List Int} (hn : ws.length = n) {i : Int} (hi : 0 ≤ i) : wAt (put3V pg st p k x ws) i = if i = bA pg st p then 0 else if i = cA pg st p then x else if i = kA pg st p then k else wAt ws i := by
 obtain ⟨⟨a0,a1,a2⟩,⟨b0,b1,b2⟩,c0,c1,c2⟩ := page_b H h
 unfold put3V
 rw [wAt_set (by omega) hi (by simp [hn]; exact c1),wAt_set (by omega) hi (by simp [hn]; exact b1),wAt_set (by omega) hi (by rw [hn]; exact a1)]
theorem tbl_page {k p : Int} (hk : isChunk pg k = true) (h : isPage pg p = true) : tblV pg st k ≠ kA pg st p ∧ tblV pg st k ≠ cA pg st p ∧ tblV pg st k ≠ bA pg st p := by
 have := isChunk_iff.1 hk; have := isPage_iff.1 h; have := H.pg1
 rw [tbl_in hk]; unfold kA cA bA; omega
theorem kind_put3 {p : Int} (h : isPage pg p = true) (k x : Int) {ws : List Int} (hn : ws.length = n) (q : Int) : kindV pg st (put3V pg st p k x ws) q = if q = p then k else kindV pg st ws q := by
 cases hq : isPage pg q with
 | false =>
   rw [kind_out hq,kind_out hq,if_neg (by rintro rfl; rw [h] at hq; cases hq)]
 | true =>
   have h0 := (page_b H hq).1.1
   have := isPage_iff.1 h; have := isPage_iff.1 hq
   rw [kind_in hq,kind_in hq,put3_at H h k x hn (by omega),if_neg (by unfold kA bA; omega),if_neg (by unfold kA cA; omega)]
   by_cases e : q = p
   · rw [if_pos e,if_pos (by rw [e])]
   · rw [if_neg e,if_neg (by unfold kA; omega)]
theorem cnt_put3 {p : Int} (h : isPage pg p = true) (k x : Int) {ws : List Int} (hn : ws.length = n) {q : Int} (hq : isPage pg q = true) : cntV pg st (put3V pg st p k x ws) q = if q = p then x else cntV pg st ws q := by
 have h0 := (page_b H hq).2.1.1
 have := isPage_iff.1 h; have := isPage_iff.1 hq
 unfold cntV
 rw [put3_at H h k x hn (by omega),if_neg (by unfold cA bA; omega)]
 by_cases e : q = p
 · rw [if_pos e,if_pos (by rw [e])]
 · rw [if_neg e,if_neg (by unfold cA; omega),if_neg (by unfold cA kA; omega)]
theorem bit_put3 {p : Int} (h : isPage pg p = true) (k x : Int) {ws : List Int} (hn : ws.length = n) {q : Int} (hq : isPage pg q = true) : bitV pg st (put3V pg st p k x ws) q = if q = p then 0 else bitV pg st ws q := by
 have h0 := (page_b H hq).2.2.1
 have := isPage_iff.1 h; have := isPage_iff.1 hq
 unfold bitV
 rw [put3_at H h k x hn (by omega)]
 by_cases e : q = p
 · rw [if_pos e,if_pos (by rw [e])]
 · rw [if_neg e,if_neg (by unfold bA; omega),if_neg (by unfold cA bA; omega),if_neg (by unfold bA kA; omega)]
theorem map_put3 {p : Int} (h : isPage pg p = true) (k x : Int) {ws : List Int} (hn : ws.length = n) (j : Int) : mappedV pg st (put3V pg st p k x ws) j = mappedV pg st ws j := by
 unfold mappedV
 cases hj : isChunk pg j with
 | false => rfl
 | true =>
   have h0 := (tbl_b H.toTblIn hj).1
   obtain ⟨t0,t1,t2⟩ := tbl_page H hj h
   rw [put3_at H h k x hn (by omega),if_neg t2,if_neg t1,if_neg t0]
theorem putN_len (k : Int) (m : Nat) : ∀ (q : Int) (ws : List Int),(putNV pg st k m q ws).length = ws.length := by
 induction m with
 | zero => intro q ws; rfl
 | succ m ih => intro q ws; show (putNV pg st k m (q + 1) _).length = _; rw [ih,put3_len H]
theorem pages_succ {m : Nat} {q : Int} (h : ∀ i : Nat,i < m + 1 → isPage pg (q + i) = true) : isPage pg q = true ∧ ∀ i : Nat,i < m → isPage pg (q + 1 + i) = true :=
 ⟨by simpa using h 0 (by omega),fun i hi => by have := h (i + 1) (by omega); rwa [show q + ((i + 1 : Nat) : Int) = q + 1 + (i : Int) by omega] at this⟩
theorem kind_putN (k : Int) (m : Nat) : ∀ (q : Int) (ws : List Int),ws.length = n → (∀ i : Nat,i < m → isPage pg (q + i) = true) → ∀ p,kindV pg st (putNV pg st k m q ws) p = if q ≤ p ∧ p < q + m then k else kindV pg st ws p := by
 induction m with
 | zero => intro q ws _ _ p; rw [if_neg (by omega)]; rfl
 | succ m ih =>
   intro q ws hn h p
   obtain ⟨h0,h1⟩ := pages_succ H h
   show kindV pg st (putNV pg st k m (q + 1) (put3V pg st q k 0 ws)) p = _
   rw [ih _ _ (by rw [put3_len H]; exact hn) h1,kind_put3 H h0 k 0 hn]
   by_cases e : p = q
   · rw [if_neg (by omega),if_pos e,if_pos (by omega)]
   · rw [if_neg e]
     by_cases e2 : q + 1 ≤ p ∧ p < q + 1 + (m : Int)
     · rw [if_pos e2,if_pos (by omega)]
     · rw [if_neg e2,if_neg (by omega)]
theorem cnt_putN (k : Int) (m : Nat) : ∀ (q : Int) (ws : List Int),ws.length = n → (∀ i : Nat,i < m → isPage pg (q + i) = true) → ∀ p,isPage pg p = true → cntV pg st (putNV pg st k m q ws) p = if q ≤ p ∧ p < q + m then 0 else cntV pg st ws p := by
 induction m with
 | zero => intro q ws _ _ p _; rw [if_neg (by omega)]; rfl
 | succ m ih =>
   intro q ws hn h p hp
   obtain ⟨h0,h1⟩ := pages_succ H h
   show cntV pg st (putNV pg st k m (q + 1) (put3V pg st q k 0 ws)) p = _
   rw [ih _ _ (by rw [put3_len H]; exact hn) h1 p hp,cnt_put3 H h0 k 0 hn hp]
   by_cases e : p = q
   · rw [if_neg (by omega),if_pos e,if_pos (by omega)]
   · rw [if_neg e]
     by_cases e2 : q + 1 ≤ p ∧ p < q + 1 + (m : Int)
     · rw [if_pos e2,if_pos (by omega)]
     · rw [if_neg e2,if_neg (by omega)]
theorem bit_putN (k : Int) (m : Nat) : ∀ (q : Int) (ws : List Int),ws.length = n → (∀ i : Nat,i < m → isPage pg (q + i) = true) → ∀ p,isPage pg p = true → bitV pg st (putNV pg st k m q ws) p = if q ≤ p ∧ p < q + m then 0 else bitV pg st ws p := by
 induction m with
 | zero => intro q ws _ _ p _; rw [if_neg (by omega)]; rfl
 | succ m ih =>
   intro q ws hn h p hp
   obtain ⟨h0,h1⟩ := pages_succ H h
   show bitV pg st (putNV pg st k m (q + 1) (put3V pg st q k 0 ws)) p = _
   rw [ih _ _ (by rw [put3_len H]; exact hn) h1 p hp,bit_put3 H h0 k 0 hn hp]
   by_cases e : p = q
   · rw [if_neg (by omega),if_pos e,if_pos (by omega)]
   · rw [if_neg e]
     by_cases e2 : q + 1 ≤ p ∧ p < q + 1 + (m : Int)
     · rw [if_pos e2,if_pos (by omega)]
     · rw [if_neg e2,if_neg (by omega)]
theorem map_putN (k : Int) (m : Nat) : ∀ (q : Int) (ws : List Int),ws.length = n → (∀ i : Nat,i < m → isPage pg (q + i) = true) → ∀ j,mappedV pg st (putNV pg st k m q ws) j = mappedV pg st ws j := by
 induction m with
 | zero => intro q ws _ _ j; rfl
 | succ m ih =>
   intro q ws hn h j
   obtain ⟨h0,h1⟩ := pages_succ H h
   show mappedV pg st (putNV pg st k m (q + 1) (put3V pg st q k 0 ws)) j = _
   rw [ih _ _ (by rw [put3_len H]; exact hn) h1 j,map_put3 H h0 k 0 hn]
theorem off_putN (k : Int) (m : Nat) : ∀ (q : Int) (ws : List Int),ws.length = n → (∀ i : Nat,i < m → isPage pg (q + i) = true) → ∀ i,0 ≤ i → (∀ p,isPage pg p = true → i ≠ kA pg st p ∧ i ≠ cA pg st p ∧ i ≠ bA pg st p) → wAt (putNV pg st k m q ws) i = wAt ws i := by
 induction m with
 | zero => intro q ws _ _ i _ _; rfl
 | succ m ih =>
   intro q ws hn h i hi ho
   obtain ⟨h0,h1⟩ := pages_succ H h
   obtain ⟨o1,o2,o3⟩ := ho q h0
   show wAt (putNV pg st k m (q + 1) (put3V pg st q k 0 ws)) i = _
   rw [ih _ _ (by rw [put3_len H]; exact hn) h1 i hi ho,put3_at H h0 k 0 hn hi,if_neg o3,if_neg o2,if_neg o1]
end
structure Tab (pg st : Int) (ws ws' : List Int) : Prop where
 len : ws'.length = ws.length
 off : ∀ i : Int,0 ≤ i → (∀ k,isChunk pg k = true → i ≠ tblV pg st k) → wAt ws' i = wAt ws i
section
variable {pg st : Int} {n : Nat} (H : PgIn pg st n)
include H
theorem Tab.kind {ws ws' : List Int} (h : Tab pg st ws ws') (p : Int) : kindV pg st ws' p = kindV pg st ws p := by
 cases hp : isPage pg p with
 | false => rw [kind_out hp,kind_out hp]
 | true => rw [kind_in hp,kind_in hp,h.off _ (by have := (page_b H hp).1.1; omega) (fun k hk e => (tbl_page H hk hp).1 e.symm)]
theorem Tab.cnt {ws ws' : List Int} (h : Tab pg st ws ws') {p : Int} (hp : isPage pg p = true) : cntV pg st ws' p = cntV pg st ws p :=
 h.off _ (by have := (page_b H hp).2.1.1; omega) (fun k hk e => (tbl_page H hk hp).2.1 e.symm)
theorem Tab.bit {ws ws' : List Int} (h : Tab pg st ws ws') {p : Int} (hp : isPage pg p = true) : bitV pg st ws' p = bitV pg st ws p :=
 h.off _ (by have := (page_b H hp).2.2.1; omega) (fun k hk e => (tbl_page H hk hp).2.2 e.symm)
theorem ens_ones {x y : Int} (ht : thereB pg x y = true) {ws : List Int} (hn : ws.length = n) : Ones ws (ensureW pg st x y ws).2 (fun i => ∃ j : Nat,j < spanV x y ∧ i = tblV pg st (x / 4 + j)) := by
 have h2 := ones_ensure H.toTblIn (spanV x y) (x / 4) 0 ws ws (fun _ => False) hn (ones_refl ws _ (fun _ q => q)) (fun i hi => span_in ht i hi)
 unfold ensureW
 rw [if_pos ht]
 exact ⟨h2.len,fun i h0 => ⟨fun q => (h2.eq i h0).1 (.inr q),fun q => (h2.eq i h0).2 (by rintro (r | r); exact r; exact q r)⟩⟩
theorem tab_ens {x y : Int} (ht : thereB pg x y = true) {ws : List Int} (hn : ws.length = n) : Tab pg st ws (ensureW pg st x y ws).2 :=
 ⟨(ens_ones H ht hn).len,fun i h0 ho => ((ens_ones H ht hn).eq i h0).2 (by rintro ⟨j,hj,e⟩; exact ho _ (span_in ht j hj) e)⟩
theorem map_ens {x y : Int} (ht : thereB pg x y = true) {ws : List Int} (hn : ws.length = n) {j : Int} (hj : isChunk pg j = true) : mappedV pg st (ensureW pg st x y ws).2 j = (mappedV pg st ws j || (decide (x / 4 ≤ j) && decide (j ≤ (x + y - 1) / 4))) := by
 have h := ens_ones H ht hn
 obtain ⟨t0,t1,t2⟩ := tbl_b H.toTblIn hj
 obtain ⟨s1,s2⟩ := span_b ht H.pg2
 unfold mappedV
 rw [hj]
 by_cases e : x / 4 ≤ j ∧ j ≤ (x + y - 1) / 4
 · rw [(h.eq _ (by omega)).1 ⟨(j - x / 4).toNat,by omega,by congr 1; omega⟩]
   simp [e]
 · rw [(h.eq _ (by omega)).2 (by
     rintro ⟨i,hi,q⟩
     have hc := span_in ht i hi
     rw [tbl_in hj,tbl_in hc] at q
     omega)]
   by_cases e1 : x / 4 ≤ j
   · have : ¬ j ≤ (x + y - 1) / 4 := fun q => e ⟨e1,q⟩
     simp [this]
   · simp [e1]
end
structure Wf (pg st : Int) (ws : List Int) : Prop where
 b : ∀ p,isPage pg p = true → 0 ≤ kindV pg st ws p ∧ kindV pg st ws p ≤ 7
 rest : ∀ p,kindV pg st ws p = 7 → kindV pg st ws (p - 1) = 6 ∨ kindV pg st ws (p - 1) = 7
 run : ∀ p,kindV pg st ws p = 6 → 1 ≤ cntV pg st ws p ∧ cntV pg st ws p ≤ pg - p ∧ (∀ i,p < i → i < p + cntV pg st ws p → kindV pg st ws i = 7) ∧ kindV pg st ws (p + cntV pg st ws p) ≠ 7
 free : ∀ p,kindV pg st ws p = 0 → cntV pg st ws p = 0 ∧ bitV pg st ws p = 0
 map : ∀ p,isPage pg p = true → kindV pg st ws p ≠ 0 → mappedV pg st ws (p / 4) = true
theorem vacBN_iff (pg st : Int) (ws : List Int) (m : Nat) : ∀ q : Int,vacBN pg st m q ws = true ↔ ∀ i : Int,q ≤ i → i < q + m → kindV pg st ws i = 0 := by
 induction m with
 | zero => intro q; simp only [vacBN,true_iff]; intro i h0 h1; omega
 | succ m ih =>
   intro q
   show (decide (kindV pg st ws q = 0) && vacBN pg st m (q + 1) ws) = true ↔ _
   rw [Bool.and_eq_true,decide_eq_true_eq,ih]
   constructor
   · rintro ⟨h0,h1⟩ i a0 a1
     by_cases e : i = q
     · rw [e]; exact h0
     · exact h1 i (by omega) (by omega)
   · intro h
     exact ⟨h q (by omega) (by omega),fun i a0 a1 => h i (by omega) (by omega)⟩
theorem vacB_iff {pg st p n : Int} {ws : List Int} : vacB pg st p n ws = true ↔ thereB pg p n = true ∧ ∀ i : Int,p ≤ i → i < p + n → kindV pg st ws i = 0 := by
 unfold vacB
 rw [Bool.and_eq_true,vacBN_iff]
 constructor
 · rintro ⟨h0,h1⟩
   obtain ⟨a,b,c⟩ := there_iff.1 h0
   exact ⟨h0,fun i a0 a1 => h1 i a0 (by omega)⟩
 · rintro ⟨h0,h1⟩
   exact ⟨h0,fun i a0 a1 => h1 i a0 (by obtain ⟨a,b,c⟩ := there_iff.1 h0; omega)⟩
theorem chunk_of {pg p : Int} (h : isPage pg p = true) : isChunk pg (p / 4) = true := by
 have := isPage_iff.1 h
 rw [isChunk_iff]; unfold chunksV; omega
section
variable {pg st : Int} {n : Nat} (H : PgIn pg st n)
include H
structure Took (pg st p m k : Int) (ws ws' : List Int) : Prop where
 len : ws'.length = ws.length
 kind : ∀ q,kindV pg st ws' q = if q = p then k else if p < q ∧ q < p + m then 7 else kindV pg st ws q
 cnt : ∀ q,isPage pg q = true → cntV pg st ws' q = if q = p then (if k = 6 then m else 0) else if p < q ∧ q < p + m then 0 else cntV pg st ws q
 bit : ∀ q,isPage pg q = true → bitV pg st ws' q = if p ≤ q ∧ q < p + m then 0 else bitV pg st ws q
 map : ∀ j,isChunk pg j = true → mappedV pg st ws' j = (mappedV pg st ws j || (decide (p / 4 ≤ j) && decide (j ≤ (p + m - 1) / 4)))
 off : ∀ i : Int,0 ≤ i → (∀ p,isPage pg p = true → i ≠ kA pg st p ∧ i ≠ cA pg st p ∧ i ≠ bA pg st p) → (∀ k,isChunk pg k = true → i ≠ tblV pg st k) → wAt ws' i = wAt ws i
theorem take_took {p m k : Int} {ws : List Int} (hn : ws.length = n) (ht : thereB pg p m = true) : Took pg st p m k ws (putNV pg st 7 (m - 1).toNat (p + 1) (put3V pg st p k (if k = 6 then m else 0) (ensureW pg st p m ws).2)) := by
 obtain ⟨t0,t1,t2⟩ := there_iff.1 ht
 have T := tab_ens H ht hn
 have hE : (ensureW pg st p m ws).2.length = n := T.len.trans hn
 have hp : isPage pg p = true := isPage_iff.2 ⟨by omega,by omega⟩
 have hP : (put3V pg st p k (if k = 6 then m else 0) (ensureW pg st p m ws).2).length = n := by rw [put3_len H]; exact hE
 have hr : ∀ i : Nat,i < (m - 1).toNat → isPage pg (p + 1 + i) = true := fun i hi => isPage_iff.2 ⟨by omega,by omega⟩
 have hc : (((m - 1).toNat : Nat) : Int) = m - 1 := by omega
 refine ⟨by rw [putN_len H,put3_len H,T.len],fun q => ?_,fun q hq => ?_,fun q hq => ?_,fun j hj => ?_,fun i h0 o1 o2 => ?_⟩
 · rw [kind_putN H _ _ _ _ hP hr,kind_put3 H hp _ _ hE,T.kind H,hc]
   by_cases e : q = p
   · rw [if_neg (by omega),if_pos e,if_pos e]
   · rw [if_neg e,if_neg e]
     by_cases e2 : p < q ∧ q < p + m
     · rw [if_pos (by omega),if_pos e2]
     · rw [if_neg (by omega),if_neg e2]
 · rw [cnt_putN H _ _ _ _ hP hr q hq,cnt_put3 H hp _ _ hE hq,T.cnt H hq,hc]
   by_cases e : q = p
   · rw [if_neg (by omega),if_pos e,if_pos e]
   · rw [if_neg e,if_neg e]
     by_cases e2 : p < q ∧ q < p + m
     · rw [if_pos (by omega),if_pos e2]
     · rw [if_neg (by omega),if_neg e2]
 · rw [bit_putN H _ _ _ _ hP hr q hq,bit_put3 H hp _ _ hE hq,T.bit H hq,hc]
   by_cases e : q = p
   · rw [if_neg (by omega),if_pos e,if_pos (by omega)]
   · rw [if_neg e]
     by_cases e2 : p < q ∧ q < p + m
     · rw [if_pos (by omega),if_pos (by omega)]
     · rw [if_neg (by omega),if_neg (by omega)]
 · rw [map_putN H _ _ _ _ hP hr,map_put3 H hp _ _ hE,map_ens H ht hn hj]
 · obtain ⟨o3,o4,o5⟩ := o1 p hp
   rw [off_putN H _ _ _ _ hP hr i h0 o1,put3_at H hp _ _ hE h0,if_neg o5,if_neg o4,if_neg o3,T.off i h0 o2]
structure Fell (pg st p m : Int) (ws ws' : List Int) : Prop where
 len : ws'.length = ws.length
 kind : ∀ q,kindV pg st ws' q = if p ≤ q ∧ q < p + m then 0 else kindV pg st ws q
 cnt : ∀ q,isPage pg q = true → cntV pg st ws' q = if p ≤ q ∧ q < p + m then 0 else cntV pg st ws q
 bit : ∀ q,isPage pg q = true → bitV pg st ws' q = if p ≤ q ∧ q < p + m then 0 else bitV pg st ws q
 map : ∀ j,mappedV pg st ws' j = mappedV pg st ws j
 off : ∀ i : Int,0 ≤ i → (∀ p,isPage pg p = true → i ≠ kA pg st p ∧ i ≠ cA pg st p ∧ i ≠ bA pg st p) → wAt ws' i = wAt ws i
end
end Go.Proofs.YtmafllcmkhgidaaGreatDoor
