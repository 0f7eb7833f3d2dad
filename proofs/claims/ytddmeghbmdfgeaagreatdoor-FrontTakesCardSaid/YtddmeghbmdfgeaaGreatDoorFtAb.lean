/-
  Contract of package layout's Of.
-/
import Derived.Test.YtddmeghbmdfgeaaGreatDoorFtAa
import Derived.Laws.ResultCell
set_option maxRecDepth 100000
set_option maxHeartbeats 8000000
set_option linter.all false
namespace Go.Proofs.YtddmeghbmdfgeaaGreatDoor
open Go.RowKit
variable (wk cp pg st tr wt ck pr ca bi ba:Int)(w:World)
theorem wJ {P:Program}{fn:Func}{p u:Tmp}{ty:TypeId}(h:fn.results= #[.cell p ty,.tmp u])(tmps:Array Value)(w:World)(g:Nat)(t:TypeId)(cs:Array Value)(fr:Nat×Nat)(d:TypeDesc)
 (hp:tmps.getD p undef=.pointer (some ⟨g,0,none⟩)) (hg:w.heap[g]?=some (.cells cs t fr))
 (hu:P.underlying ty=some d) (hd:(match d with| .struct _| .array _ _=>true|_=>false)=true) (hi:(P.info? ty).map (·.size)=some cs.size):
 (results fn tmps).run P w=.ok (.tuple #[.agg cs,tmps.getD u undef]) w:=by
 rw[results_cell_tmp h,hp]
 simp[asAddr,run_loadVar_row w g t ty cs fr d hg hu hd hi]
theorem DV (R:cZ wk cp pg st tr wt ck pr ca bi ba):wF wk cp pg st tr wt ck pr ca bi ba=true:=by
 obtain⟨h0,h1,h2,h3,h4,h5,h6,h7,h8,h9,h10,h11,h12,h13,h14,h15,h16,h17,h18,h19,h20,h21⟩:=R
 simp[wF,btw, *]
theorem Gf (R:cZ wk cp pg st tr wt ck pr ca bi ba):Calls Tryz.prog 32 #[.agg #[.int .i64 wk,.int .i64 cp,.int .i64 pg,.int .i64 st,.int .i64 tr,.int .i64 wt,.int .i64 ck,.int .i64 pr,.int .i64 ca,.int .i64 bi,.int .i64 ba]] w (aQ w (.tuple #[.agg (aJ wk cp pg st tr wt ck pr ca bi ba (aE cp pg st ca bi)),.int .i64 0])):=by
 have HC0:=hQQ (aW w #[.int .i64 wk,.int .i64 cp,.int .i64 pg,.int .i64 st,.int .i64 tr,.int .i64 wt,.int .i64 ck,.int .i64 pr,.int .i64 ca,.int .i64 bi,.int .i64 ba] 23)
 have HC:Hq (((w.alloc (.cells #[.int .i64 wk,.int .i64 cp,.int .i64 pg,.int .i64 st,.int .i64 tr,.int .i64 wt,.int .i64 ck,.int .i64 pr,.int .i64 ca,.int .i64 bi,.int .i64 ba] 23)).alloc (.cells #[.int .i64 0,.int .i64 0,.int .i64 0,.int .i64 0,.int .i64 0,.int .i64 0,.int .i64 0,.int .i64 0,.int .i64 0,.int .i64 0,.int .i64 0,.int .i64 0,.int .i64 0,.int .i64 0,.int .i64 0,.int .i64 0,.int .i64 0,.int .i64 0,.int .i64 0,.int .i64 0,.int .i64 0,.int .i64 0,.int .i64 0,.int .i64 0] 28)).heap[w.heap.size]?=some (.cells #[.int .i64 wk,.int .i64 cp,.int .i64 pg,.int .i64 st,.int .i64 tr,.int .i64 wt,.int .i64 ck,.int .i64 pr,.int .i64 ca,.int .i64 bi,.int .i64 ba] 23 (0,0))):=((ae.refl _).alloc _).block HC0.o
 have HB:Hq (((w.alloc (.cells #[.int .i64 wk,.int .i64 cp,.int .i64 pg,.int .i64 st,.int .i64 tr,.int .i64 wt,.int .i64 ck,.int .i64 pr,.int .i64 ca,.int .i64 bi,.int .i64 ba] 23)).alloc (.cells #[.int .i64 0,.int .i64 0,.int .i64 0,.int .i64 0,.int .i64 0,.int .i64 0,.int .i64 0,.int .i64 0,.int .i64 0,.int .i64 0,.int .i64 0,.int .i64 0,.int .i64 0,.int .i64 0,.int .i64 0,.int .i64 0,.int .i64 0,.int .i64 0,.int .i64 0,.int .i64 0,.int .i64 0,.int .i64 0,.int .i64 0,.int .i64 0] 28)).heap[w.heap.size+1]?=some (.cells #[.int .i64 0,.int .i64 0,.int .i64 0,.int .i64 0,.int .i64 0,.int .i64 0,.int .i64 0,.int .i64 0,.int .i64 0,.int .i64 0,.int .i64 0,.int .i64 0,.int .i64 0,.int .i64 0,.int .i64 0,.int .i64 0,.int .i64 0,.int .i64 0,.int .i64 0,.int .i64 0,.int .i64 0,.int .i64 0,.int .i64 0,.int .i64 0] 28 (0,0))):=by
  have:=aW (w.alloc (.cells #[.int .i64 wk,.int .i64 cp,.int .i64 pg,.int .i64 st,.int .i64 tr,.int .i64 wt,.int .i64 ck,.int .i64 pr,.int .i64 ca,.int .i64 bi,.int .i64 ba] 23)) #[.int .i64 0,.int .i64 0,.int .i64 0,.int .i64 0,.int .i64 0,.int .i64 0,.int .i64 0,.int .i64 0,.int .i64 0,.int .i64 0,.int .i64 0,.int .i64 0,.int .i64 0,.int .i64 0,.int .i64 0,.int .i64 0,.int .i64 0,.int .i64 0,.int .i64 0,.int .i64 0,.int .i64 0,.int .i64 0,.int .i64 0,.int .i64 0] 28
  rwa [World.size_alloc] at this
 have HM:Hq (ae w ((w.alloc (.cells #[.int .i64 wk,.int .i64 cp,.int .i64 pg,.int .i64 st,.int .i64 tr,.int .i64 wt,.int .i64 ck,.int .i64 pr,.int .i64 ca,.int .i64 bi,.int .i64 ba] 23)).alloc (.cells #[.int .i64 0,.int .i64 0,.int .i64 0,.int .i64 0,.int .i64 0,.int .i64 0,.int .i64 0,.int .i64 0,.int .i64 0,.int .i64 0,.int .i64 0,.int .i64 0,.int .i64 0,.int .i64 0,.int .i64 0,.int .i64 0,.int .i64 0,.int .i64 0,.int .i64 0,.int .i64 0,.int .i64 0,.int .i64 0,.int .i64 0,.int .i64 0] 28))):=((ae.refl w).alloc _).alloc _
 have HK:=hQQ (fun W=>LM wk cp pg st tr wt ck pr ca bi ba W)
 rw[if_pos (DV _ _ _ _ _ _ _ _ _ _ _ R)] at HK
 have HL:=hQQ (fun W=>Gb wk cp pg st tr wt ck pr ca bi ba W R)
 have HRR:=hQQ R
 have HS:=hQQ (Gd wk cp pg st tr wt ck pr ca bi ba (aE cp pg st ca bi))
 have Hlen:Hq (((w.alloc (.cells #[.int .i64 wk,.int .i64 cp,.int .i64 pg,.int .i64 st,.int .i64 tr,.int .i64 wt,.int .i64 ck,.int .i64 pr,.int .i64 ca,.int .i64 bi,.int .i64 ba] 23)).alloc (.cells #[.int .i64 0,.int .i64 0,.int .i64 0,.int .i64 0,.int .i64 0,.int .i64 0,.int .i64 0,.int .i64 0,.int .i64 0,.int .i64 0,.int .i64 0,.int .i64 0,.int .i64 0,.int .i64 0,.int .i64 0,.int .i64 0,.int .i64 0,.int .i64 0,.int .i64 0,.int .i64 0,.int .i64 0,.int .i64 0,.int .i64 0,.int .i64 0] 28)).heap.size=w.heap.size+1+1):=by rw[World.size_alloc,World.size_alloc];exact rfl
 clear R
 go_enter Tryz.func32,Tryz.ntmps32
 go_wp2_with (refine sx rfl rfl rfl (HC.o) (by kernel_rfl) ?_)
 refine(HK.o _).mono ?_
 rintro e w1 ⟨rfl,h1⟩
 have H1:=hQQ h1
 have HC1:=hQQ (h1.block HC.o)
 have HB1:=hQQ (h1.block HB.o)
 have HM1:=hQQ (HM.o.trans h1)
 have hs1:=h1.size
 have hs1:w.heap.size+2≤w1.heap.size:=by have:=Hlen.o;omega
 have Hs1:=hQQ hs1
 clear h1
 have HC1b:Hq (((w1.alloc (.cells #[.int .i64 0,.int .i64 0,.int .i64 0,.int .i64 0,.int .i64 0,.int .i64 0,.int .i64 0,.int .i64 0,.int .i64 0,.int .i64 0,.int .i64 0,.int .i64 0,.int .i64 0,.int .i64 0,.int .i64 0,.int .i64 0,.int .i64 0,.int .i64 0,.int .i64 0,.int .i64 0,.int .i64 0,.int .i64 0,.int .i64 0,.int .i64 0] 28)).setRow w1.heap.size #[.int .i64 wk,.int .i64 cp,.int .i64 pg,.int .i64 st,.int .i64 tr,.int .i64 wt,.int .i64 ck,.int .i64 pr,.int .i64 ca,.int .i64 bi,.int .i64 ba,.int .i64 0,.int .i64 0,.int .i64 0,.int .i64 0,.int .i64 0,.int .i64 0,.int .i64 0,.int .i64 0,.int .i64 0,.int .i64 0,.int .i64 0,.int .i64 0,.int .i64 0]).heap[w.heap.size]?=some (.cells #[.int .i64 wk,.int .i64 cp,.int .i64 pg,.int .i64 st,.int .i64 tr,.int .i64 wt,.int .i64 ck,.int .i64 pr,.int .i64 ca,.int .i64 bi,.int .i64 ba] 23 (0,0))):=by
  rw[setRow_other _ _ _ _ (by omega)];exact((ae.refl _).alloc _).block HC1.o
 clear hs1
 go_wp2_with (first
  |(refine sx rfl rfl rfl (HC1.o) (by kernel_rfl) ?_)
  |(refine wpList_store_row rfl 28 _ _ rfl _ _ rfl rfl 28 _ (aW w1 #[.int .i64 0,.int .i64 0,.int .i64 0,.int .i64 0,.int .i64 0,.int .i64 0,.int .i64 0,.int .i64 0,.int .i64 0,.int .i64 0,.int .i64 0,.int .i64 0,.int .i64 0,.int .i64 0,.int .i64 0,.int .i64 0,.int .i64 0,.int .i64 0,.int .i64 0,.int .i64 0,.int .i64 0,.int .i64 0,.int .i64 0,.int .i64 0] 28) (by kernel_rfl) rfl (by simp[Value.oneCell']) ?_)
  |(refine sx rfl rfl rfl (HC1b.o) (by kernel_rfl) ?_))
 have HMA:Hq (ae w ((w1.alloc (.cells #[.int .i64 0,.int .i64 0,.int .i64 0,.int .i64 0,.int .i64 0,.int .i64 0,.int .i64 0,.int .i64 0,.int .i64 0,.int .i64 0,.int .i64 0,.int .i64 0,.int .i64 0,.int .i64 0,.int .i64 0,.int .i64 0,.int .i64 0,.int .i64 0,.int .i64 0,.int .i64 0,.int .i64 0,.int .i64 0,.int .i64 0,.int .i64 0] 28)).setRow w1.heap.size #[.int .i64 wk,.int .i64 cp,.int .i64 pg,.int .i64 st,.int .i64 tr,.int .i64 wt,.int .i64 ck,.int .i64 pr,.int .i64 ca,.int .i64 bi,.int .i64 ba,.int .i64 0,.int .i64 0,.int .i64 0,.int .i64 0,.int .i64 0,.int .i64 0,.int .i64 0,.int .i64 0,.int .i64 0,.int .i64 0,.int .i64 0,.int .i64 0,.int .i64 0])):=(HM1.o.alloc _).setRow _ _ (by have:=Hs1.o;omega)
 have HBA:Hq (((w1.alloc (.cells #[.int .i64 0,.int .i64 0,.int .i64 0,.int .i64 0,.int .i64 0,.int .i64 0,.int .i64 0,.int .i64 0,.int .i64 0,.int .i64 0,.int .i64 0,.int .i64 0,.int .i64 0,.int .i64 0,.int .i64 0,.int .i64 0,.int .i64 0,.int .i64 0,.int .i64 0,.int .i64 0,.int .i64 0,.int .i64 0,.int .i64 0,.int .i64 0] 28)).setRow w1.heap.size #[.int .i64 wk,.int .i64 cp,.int .i64 pg,.int .i64 st,.int .i64 tr,.int .i64 wt,.int .i64 ck,.int .i64 pr,.int .i64 ca,.int .i64 bi,.int .i64 ba,.int .i64 0,.int .i64 0,.int .i64 0,.int .i64 0,.int .i64 0,.int .i64 0,.int .i64 0,.int .i64 0,.int .i64 0,.int .i64 0,.int .i64 0,.int .i64 0,.int .i64 0]).heap[w1.heap.size]?=some (.cells (aJ wk cp pg st tr wt ck pr ca bi ba (wH (aE cp pg st ca bi) 0)) 28 (0,0))):=setRow_heap _ _ _ _ _ _ (aW w1 #[.int .i64 0,.int .i64 0,.int .i64 0,.int .i64 0,.int .i64 0,.int .i64 0,.int .i64 0,.int .i64 0,.int .i64 0,.int .i64 0,.int .i64 0,.int .i64 0,.int .i64 0,.int .i64 0,.int .i64 0,.int .i64 0,.int .i64 0,.int .i64 0,.int .i64 0,.int .i64 0,.int .i64 0,.int .i64 0,.int .i64 0,.int .i64 0] 28)
 have HRA:Hq (((w1.alloc (.cells #[.int .i64 0,.int .i64 0,.int .i64 0,.int .i64 0,.int .i64 0,.int .i64 0,.int .i64 0,.int .i64 0,.int .i64 0,.int .i64 0,.int .i64 0,.int .i64 0,.int .i64 0,.int .i64 0,.int .i64 0,.int .i64 0,.int .i64 0,.int .i64 0,.int .i64 0,.int .i64 0,.int .i64 0,.int .i64 0,.int .i64 0,.int .i64 0] 28)).setRow w1.heap.size #[.int .i64 wk,.int .i64 cp,.int .i64 pg,.int .i64 st,.int .i64 tr,.int .i64 wt,.int .i64 ck,.int .i64 pr,.int .i64 ca,.int .i64 bi,.int .i64 ba,.int .i64 0,.int .i64 0,.int .i64 0,.int .i64 0,.int .i64 0,.int .i64 0,.int .i64 0,.int .i64 0,.int .i64 0,.int .i64 0,.int .i64 0,.int .i64 0,.int .i64 0]).heap[w.heap.size+1]?=some (.cells #[.int .i64 0,.int .i64 0,.int .i64 0,.int .i64 0,.int .i64 0,.int .i64 0,.int .i64 0,.int .i64 0,.int .i64 0,.int .i64 0,.int .i64 0,.int .i64 0,.int .i64 0,.int .i64 0,.int .i64 0,.int .i64 0,.int .i64 0,.int .i64 0,.int .i64 0,.int .i64 0,.int .i64 0,.int .i64 0,.int .i64 0,.int .i64 0] 28 (0,0))):=by
  rw[setRow_other _ _ _ _ (by have:=Hs1.o;omega)];exact((ae.refl _).alloc _).block HB1.o
 refine(HL.o _).mono ?_
 rintro e w2 ⟨rfl,h2⟩
 have HM2:=hQQ (HMA.o.trans h2)
 have HB2:=hQQ (h2.block HBA.o)
 have HR2:=hQQ (h2.block HRA.o)
 clear h2
 clear HC0 HC HB HM HK HL HS Hlen H1 HC1 HB1 HC1b HMA HBA HRA HM1
 go_wp2_with fail
 go_loopw [6,7,8,19] (fun nx _ _ i wr=>∃k:Nat,k≤12∧i=.int .i64 k∧nx=.int .i64 (lS cp pg st ca bi k)∧wr.heap[w1.heap.size]?=some (.cells (aJ wk cp pg st tr wt ck pr ca bi ba (wH (aE cp pg st ca bi) k)) 28 (0,0))∧wr.heap[w.heap.size+1]?=some (.cells #[.int .i64 0,.int .i64 0,.int .i64 0,.int .i64 0,.int .i64 0,.int .i64 0,.int .i64 0,.int .i64 0,.int .i64 0,.int .i64 0,.int .i64 0,.int .i64 0,.int .i64 0,.int .i64 0,.int .i64 0,.int .i64 0,.int .i64 0,.int .i64 0,.int .i64 0,.int .i64 0,.int .i64 0,.int .i64 0,.int .i64 0,.int .i64 0] 28 (0,0))∧ae w wr) (fun _ _ _ i _=>12-(intOf i).toNat)
 case atStart=>exact⟨0,by omega,rfl,rfl,HB2.o,HR2.o,HM2.o⟩
 case round =>
  clear HB2 HR2 HM2
  obtain⟨k,hk,rfl,rfl,hb,hr,hm⟩:=hrel
  have nb:=Ge HRR.o hk
  have sb:=pi HRR.o hk
  have xc:wr.cell? ⟨w1.heap.size,11+k,none⟩=some (.int .i64 (wH (aE cp pg st ca bi) k k)):=by rw[cell_of_row _ _ _ _ _ _ hb];exact kZ wk cp pg st tr wt ck pr ca bi ba _ k hk
  have xf:wr.frozen? ⟨w1.heap.size,11+k,none⟩=false:=by simp[World.frozen?,hb]
  have HE:=hQQ (setCell_eq_setRow wr w1.heap.size (11+k) _ 28 (0,0) (.int .i64 (aE cp pg st ca bi k)) hb)
  have HN:=hQQ (setRow_heap wr w1.heap.size _ ((aJ wk cp pg st tr wt ck pr ca bi ba (wH (aE cp pg st ca bi) k)).setIfInBounds (11+k) (.int .i64 (aE cp pg st ca bi k))) 28 (0,0) hb)
  rw[Jz wk cp pg st tr wt ck pr ca bi ba hk] at HE HN
  have HO:Hq ((wr.setRow w1.heap.size (aJ wk cp pg st tr wt ck pr ca bi ba (wH (aE cp pg st ca bi) (k+1)))).heap[w.heap.size+1]?=some (.cells #[.int .i64 0,.int .i64 0,.int .i64 0,.int .i64 0,.int .i64 0,.int .i64 0,.int .i64 0,.int .i64 0,.int .i64 0,.int .i64 0,.int .i64 0,.int .i64 0,.int .i64 0,.int .i64 0,.int .i64 0,.int .i64 0,.int .i64 0,.int .i64 0,.int .i64 0,.int .i64 0,.int .i64 0,.int .i64 0,.int .i64 0,.int .i64 0] 28 (0,0))):=by
   rw[setRow_other _ _ _ _ (by have:=Hs1.o;omega)];exact hr
  have HP:Hq (ae w (wr.setRow w1.heap.size (aJ wk cp pg st tr wt ck pr ca bi ba (wH (aE cp pg st ca bi) (k+1))))):=hm.setRow _ _ (by have:=Hs1.o;omega)
  clear hb hr hm
  by_cases hlt:k<12
  ·have d0:decide ((k:Int)<12)=true:=by simp;omega
   have hl:∀W,(Instr.index 122 (.agg (ni cp pg st ca bi)) (.int .i64 k)).run Tryz.prog W=.ok (.int .i64 (yg cp pg st ca bi k)) W:=fun W=>uJ W Tryz.underlying122 Tryz.underlying3 (by kernel_rfl) hlt (Ar cp pg st ca bi hlt)
   have HQ:=hQQ (DU cp pg st ca bi hlt)
   have nb2:=Ge HRR.o (show k+1≤12 by omega)
   have q0:IntKind.i64.wrap (aE cp pg st ca bi k+yg cp pg st ca bi k)=lS cp pg st ca bi (k+1):=by rw[HQ.o];exact aB (by omega) (by omega)
   have r0:(0:Int)≤(k:Int):=by omega
   have r1:(k:Int)<13:=by omega
   by_cases h11:k=11
   ·have d1:decide ((k:Int)=11)=true:=by simp;omega
    have HU:Hq ((lS cp pg st ca bi k+127) / 128 * 128=aE cp pg st ca bi k):=by subst h11;exact wI cp pg st ca bi
    have d2:((k:Int)==11)=true:=by simp;omega
    have d3:decide (k=11)=true:=by simp;omega
    clear h11
    go_wp2_with fail
    refine(FY _ nb.1 (by omega) _).mono ?_
    rw[HU.o]
    rintro e w3 ⟨rfl,rfl⟩
    go_wp2_with fail
    rw[HE.o]
    go_roundw
    case rel=>exact⟨k+1,by omega,by go_num,rfl,HN.o,HO.o,HP.o⟩
    case measure=>simp[intOf];omega
   ·have d1:decide ((k:Int)=11)=false:=by simp;omega
    rw[←uK cp pg st ca bi (by omega:k<11)]
    go_wp2_with fail
    rw[HE.o]
    go_roundw
    case rel=>exact⟨k+1,by omega,by go_num,rfl,HN.o,HO.o,HP.o⟩
    case measure=>simp[intOf];omega
  ·have he:k=12:=by omega
   subst he
   rw[show lS cp pg st ca bi 12=aE cp pg st ca bi 12 from rfl]
   go_wp2_with (first
    |(refine aM rfl rfl rfl (HN.o) (by kernel_rfl) ?_)
    |(rw[HE.o];refine aM rfl rfl rfl (HN.o) (by kernel_rfl) ?_)
    |(refine wpList_store_row rfl 28 _ _ rfl _ _ rfl rfl 28 _ HO.o (by kernel_rfl) rfl (k6 ..) ?_))
   have HF:=hQQ (setRow_heap _ (w.heap.size+1) _ (aJ wk cp pg st tr wt ck pr ca bi ba (aE cp pg st ca bi)) _ _ HO.o)
   have HG:Hq (ae w ((wr.setRow w1.heap.size (aJ wk cp pg st tr wt ck pr ca bi ba (aE cp pg st ca bi))).setRow (w.heap.size+1) (aJ wk cp pg st tr wt ck pr ca bi ba (aE cp pg st ca bi)))):=HP.o.setRow _ _ (by omega)
   refine bodyPost_ret (v:=.tuple #[.agg (aJ wk cp pg st tr wt ck pr ca bi ba (aE cp pg st ca bi)),.int .i64 0]) (wJ Tryz.results32 _ _ _ 28 _ (0,0) _ rfl HF.o Tryz.underlying28 rfl (by kernel_rfl)) rfl ⟨rfl,HG.o⟩
section
variable {wk cp pg st tr wt ck pr ca bi ba:Int}
theorem LP (R:cZ wk cp pg st tr wt ck pr ca bi ba)(k:Int):dM ((aE cp pg st ca bi) 1) ((aE cp pg st ca bi) 2) k=dY pg st k:=by
 show(if 0≤k∧k<aY st+aL pg-aY st then _ else _)=_
 unfold dY
 rw[show aY st+aL pg-aY st=aL pg by omega]
 rfl
theorem Gg (R:cZ wk cp pg st tr wt ck pr ca bi ba)(p:Int):dM ((aE cp pg st ca bi) 2) ((aE cp pg st ca bi) 3) p=dD pg st 0 p:=by
 simp only[dM,aE,dD,a8]
 by_cases h:0≤p∧p<pg
 ·rw[if_pos (by omega),if_pos h]<;>(try omega)
 ·rw[if_neg (by omega),if_neg h]
theorem Gh (R:cZ wk cp pg st tr wt ck pr ca bi ba)(p:Int):dM ((aE cp pg st ca bi) 3) ((aE cp pg st ca bi) 4) p=dD pg st 1 p:=by
 simp only[dM,aE,dD,a8]
 by_cases h:0≤p∧p<pg
 ·rw[if_pos (by omega),if_pos h]<;>(try omega)
 ·rw[if_neg (by omega),if_neg h]
theorem Gi (R:cZ wk cp pg st tr wt ck pr ca bi ba)(p:Int):dM ((aE cp pg st ca bi) 4) ((aE cp pg st ca bi) 5) p=dD pg st 2 p:=by
 simp only[dM,aE,dD,a8]
 by_cases h:0≤p∧p<pg
 ·rw[if_pos (by omega),if_pos h]<;>(try omega)
 ·rw[if_neg (by omega),if_neg h]
theorem Gj (R:cZ wk cp pg st tr wt ck pr ca bi ba)(p:Int):dM ((aE cp pg st ca bi) 5) ((aE cp pg st ca bi) 6) p=dD pg st 3 p:=by
 simp only[dM,aE,dD,a8]
 by_cases h:0≤p∧p<pg
 ·rw[if_pos (by omega),if_pos h]<;>(try omega)
 ·rw[if_neg (by omega),if_neg h]
theorem Gk (R:cZ wk cp pg st tr wt ck pr ca bi ba)(p:Int):dM ((aE cp pg st ca bi) 6) ((aE cp pg st ca bi) 7) p=dD pg st 4 p:=by
 simp only[dM,aE,dD,a8]
 by_cases h:0≤p∧p<pg
 ·rw[if_pos (by omega),if_pos h]<;>(try omega)
 ·rw[if_neg (by omega),if_neg h]
theorem JA (R:cZ wk cp pg st tr wt ck pr ca bi ba)(c f:Int):qo (aE cp pg st ca bi) c f=aH pg st c f:=by
 unfold qo aH
 by_cases h:0≤c∧c≤4∧1≤f∧f≤gj c
 ·rw[if_pos h,if_pos h]
  have:c=0∨c=1∨c=2∨c=3∨c=4:=by omega
  simp only[dM,aE,du]
  rcases this with rfl|rfl|rfl|rfl|rfl<;>simp[gj,fG] at h⊢ <;>(rw[if_pos (by omega)];omega)
 ·rw[if_neg h,if_neg h]
theorem Gl (R:cZ wk cp pg st tr wt ck pr ca bi ba)(u c:Int):nh cp ca (aE cp pg st ca bi) u c=fF cp pg st ca u c:=by
 unfold nh fF
 by_cases h:0≤u∧u<cp∧0≤c∧c≤4
 ·rw[if_pos h,if_pos h]
  have h1:=R.ca1
  have h2:5 * u+c≤5 * cp-1:=by omega
  have h3:(5 * u+c) * (ca+1)≤(5 * cp-1) * (ca+1):=Int.mul_le_mul_of_nonneg_right h2 (by omega)
  have h4:(5 * cp-1) * (ca+1)=5 * cp * (ca+1)-(ca+1):=by rw[Int.sub_mul,Int.one_mul]
  have h5:0≤(5 * u+c) * (ca+1):=Int.mul_nonneg (by omega) (by omega)
  rw[show u * 5+c=5 * u+c by omega]
  simp only[dM,aE,fX]
  rw[if_pos (by omega)]
 ·rw[if_neg h,if_neg h]
theorem LQ (R:cZ wk cp pg st tr wt ck pr ca bi ba)(c:Int):yc bi (aE cp pg st ca bi) c=oz cp pg st ca bi c:=by
 unfold yc oz
 by_cases h:0≤c∧c≤4
 ·rw[if_pos h,if_pos h]
  have h1:=R.bi1
  have h3:c * (bi+1)≤4 * (bi+1):=Int.mul_le_mul_of_nonneg_right h.2 (by omega)
  have h5:0≤c * (bi+1):=Int.mul_nonneg h.1 (by omega)
  simp only[dM,aE,eK]
  rw[if_pos (by omega)]
 ·rw[if_neg h,if_neg h]
theorem JB (R:cZ wk cp pg st tr wt ck pr ca bi ba)(p:Int):sy pg (aE cp pg st ca bi) p=xY cp pg st ca bi p:=by
 unfold sy xY
 by_cases h:0≤p∧p<pg
 ·rw[if_pos h,if_pos h]
  simp only[dM,aE,eY]
  rw[if_pos (by omega)];omega
 ·rw[if_neg h,if_neg h]
end
variable {wk cp pg st tr wt ck pr ca bi ba:Int}(R:cZ wk cp pg st tr wt ck pr ca bi ba)(w:World)
theorem LR (R:cZ wk cp pg st tr wt ck pr ca bi ba)(w:World)(k:Int):Calls Tryz.prog 137 #[.agg (aJ wk cp pg st tr wt ck pr ca bi ba (aE cp pg st ca bi)),.int .i64 k] w (aQ w (.int .i64 (dY pg st k))):=by
 rw[←LP R k];exact LH wk cp pg st tr wt ck pr ca bi ba (aE cp pg st ca bi) w k (c8 R)
theorem NQ (R:cZ wk cp pg st tr wt ck pr ca bi ba)(w:World)(k:Int):Calls Tryz.prog 90 #[.agg (aJ wk cp pg st tr wt ck pr ca bi ba (aE cp pg st ca bi)),.int .i64 k] w (aQ w (.int .i64 (dD pg st 0 k))):=by
 rw[←Gg R k];exact ND wk cp pg st tr wt ck pr ca bi ba (aE cp pg st ca bi) w k (c8 R)
theorem Gm (R:cZ wk cp pg st tr wt ck pr ca bi ba)(w:World)(k:Int):Calls Tryz.prog 134 #[.agg (aJ wk cp pg st tr wt ck pr ca bi ba (aE cp pg st ca bi)),.int .i64 k] w (aQ w (.int .i64 (dD pg st 1 k))):=by
 rw[←Gh R k];exact LJ wk cp pg st tr wt ck pr ca bi ba (aE cp pg st ca bi) w k (c8 R)
theorem Lo (R:cZ wk cp pg st tr wt ck pr ca bi ba)(w:World)(k:Int):Calls Tryz.prog 108 #[.agg (aJ wk cp pg st tr wt ck pr ca bi ba (aE cp pg st ca bi)),.int .i64 k] w (aQ w (.int .i64 (dD pg st 2 k))):=by
 rw[←Gi R k];exact NH wk cp pg st tr wt ck pr ca bi ba (aE cp pg st ca bi) w k (c8 R)
theorem NR (R:cZ wk cp pg st tr wt ck pr ca bi ba)(w:World)(k:Int):Calls Tryz.prog 136 #[.agg (aJ wk cp pg st tr wt ck pr ca bi ba (aE cp pg st ca bi)),.int .i64 k] w (aQ w (.int .i64 (dD pg st 3 k))):=by
 rw[←Gj R k];exact NI wk cp pg st tr wt ck pr ca bi ba (aE cp pg st ca bi) w k (c8 R)
theorem NS (R:cZ wk cp pg st tr wt ck pr ca bi ba)(w:World)(k:Int):Calls Tryz.prog 147 #[.agg (aJ wk cp pg st tr wt ck pr ca bi ba (aE cp pg st ca bi)),.int .i64 k] w (aQ w (.int .i64 (dD pg st 4 k))):=by
 rw[←Gk R k];exact NJ wk cp pg st tr wt ck pr ca bi ba (aE cp pg st ca bi) w k (c8 R)
theorem NT (R:cZ wk cp pg st tr wt ck pr ca bi ba)(w:World)(c f:Int):Calls Tryz.prog 93 #[.agg (aJ wk cp pg st tr wt ck pr ca bi ba (aE cp pg st ca bi)),.int .i64 c,.int .i64 f] w (aQ w (.int .i64 (aH pg st c f))):=by
 rw[←JA R c f];exact NK wk cp pg st tr wt ck pr ca bi ba (aE cp pg st ca bi) w c f (c8 R)
theorem Au (R:cZ wk cp pg st tr wt ck pr ca bi ba)(w:World)(u c:Int):Calls Tryz.prog 28 #[.agg (aJ wk cp pg st tr wt ck pr ca bi ba (aE cp pg st ca bi)),.int .i64 u,.int .i64 c] w (aQ w (.int .i64 (fF cp pg st ca u c))):=by
 rw[←Gl R u c];exact LK wk cp pg st tr wt ck pr ca bi ba (aE cp pg st ca bi) w u c (c8 R)
theorem NU (R:cZ wk cp pg st tr wt ck pr ca bi ba)(w:World)(c:Int):Calls Tryz.prog 29 #[.agg (aJ wk cp pg st tr wt ck pr ca bi ba (aE cp pg st ca bi)),.int .i64 c] w (aQ w (.int .i64 (oz cp pg st ca bi c))):=by
 rw[←LQ R c];exact OG wk cp pg st tr wt ck pr ca bi ba (aE cp pg st ca bi) w c (c8 R)
theorem NV (R:cZ wk cp pg st tr wt ck pr ca bi ba)(w:World)(p:Int):Calls Tryz.prog 143 #[.agg (aJ wk cp pg st tr wt ck pr ca bi ba (aE cp pg st ca bi)),.int .i64 p] w (aQ w (.int .i64 (xY cp pg st ca bi p))):=by
 rw[←JB R p];exact NO wk cp pg st tr wt ck pr ca bi ba (aE cp pg st ca bi) w p (c8 R)
theorem CI (R:cZ wk cp pg st tr wt ck pr ca bi ba)(w:World):Calls Tryz.prog 14 #[.agg (aJ wk cp pg st tr wt ck pr ca bi ba (aE cp pg st ca bi))] w (aQ w (.int .i64 (eT cp pg st ca bi))):=FZ wk cp pg st tr wt ck pr ca bi ba (aE cp pg st ca bi) w
theorem LU (R:cZ wk cp pg st tr wt ck pr ca bi ba)(w:World):Calls Tryz.prog 15 #[.agg (aJ wk cp pg st tr wt ck pr ca bi ba (aE cp pg st ca bi))] w (aQ w (.int .i64 (eY cp pg st ca bi))):=Ao wk cp pg st tr wt ck pr ca bi ba (aE cp pg st ca bi) w
theorem JC (R:cZ wk cp pg st tr wt ck pr ca bi ba)(w:World):Calls Tryz.prog 20 #[.agg (aJ wk cp pg st tr wt ck pr ca bi ba (aE cp pg st ca bi))] w (aQ w (.agg #[.int .i64 wk,.int .i64 cp,.int .i64 pg,.int .i64 st,.int .i64 tr,.int .i64 wt,.int .i64 ck,.int .i64 pr,.int .i64 ca,.int .i64 bi,.int .i64 ba])):=Jy wk cp pg st tr wt ck pr ca bi ba (aE cp pg st ca bi) w
theorem DW (R:cZ wk cp pg st tr wt ck pr ca bi ba)(w:World)(a:Int)(c0:eT cp pg st ca bi≤a)(c1:a<eY cp pg st ca bi):Calls Tryz.prog 79 #[.agg (aJ wk cp pg st tr wt ck pr ca bi ba (aE cp pg st ca bi)),.int .i64 a] w (aQ w (.tuple #[.int .i64 ((a-eT cp pg st ca bi) / 32),.int .i64 ((a-eT cp pg st ca bi) % 32),.bool true])):=DS wk cp pg st tr wt ck pr ca bi ba (aE cp pg st ca bi) w a (c8 R) c0 c1
theorem Av (R:cZ wk cp pg st tr wt ck pr ca bi ba)(w:World)(a:Int)(c:a<eT cp pg st ca bi∨eY cp pg st ca bi≤a):Calls Tryz.prog 79 #[.agg (aJ wk cp pg st tr wt ck pr ca bi ba (aE cp pg st ca bi)),.int .i64 a] w (aQ w (.tuple #[.int .i64 0,.int .i64 0,.bool false])):=Ap wk cp pg st tr wt ck pr ca bi ba (aE cp pg st ca bi) w a (c8 R) c
end Go.Proofs.YtddmeghbmdfgeaaGreatDoor
